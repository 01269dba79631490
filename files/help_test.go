package files_test

import (
	"fmt"
	"slices"
	"strings"
	"testing"

	"cicerone/api"
	"cicerone/files"
)

// great is a room in which nothing is too much.
const great = 1 << 40

// fresh is a disk with such a room.
func fresh(t *testing.T, room int) *files.Disk {
	t.Helper()
	d, e := files.New(room)
	if d == nil || e != api.OK {
		t.Fatalf("New(%d) is %v, %d", room, d, e)
	}
	return d
}

// told is all that a disk tells: its files, how much of each is synced, and what they use. "a=xy|z" is a file a of three bytes, two of them synced.
func told(t *testing.T, d *files.Disk) string {
	t.Helper()
	s, sum := "", 0
	for _, n := range d.List() {
		b, e := d.Read(n)
		synced := d.Synced(n)
		if e != api.OK || synced < 0 || synced > len(b) {
			t.Fatalf("%s: Read has %d bytes, %d, and %d are synced", n, len(b), e, synced)
		}
		s += n + "=" + string(b[:synced]) + "|" + string(b[synced:]) + " "
		sum += len(b)
	}
	if sum != d.Used() {
		t.Errorf("the files %.200q have %d bytes, Used is %d", s, sum, d.Used())
	}
	return strings.TrimSpace(s)
}

// has asks that a disk has these files, as told tells them.
func has(t *testing.T, d *files.Disk, want string) {
	t.Helper()
	if got := told(t, d); got != want {
		t.Errorf("the disk has %.200q, not %.200q", got, want)
	}
}

// probe is how many bytes fit at most when room and Short are asked for.
const probe = 500

// state is what a disk tells, and what it has in wait: its fuse, its Short, and what fits.
func state(t *testing.T, d *files.Disk) string {
	t.Helper()
	changes := 0
	for c := d.Copy(); changes < probe && c.Sync("not-there") != api.ErrDead; {
		changes++
	}
	c := d.Copy()
	c.Fuse(probe)
	c.Room(great)
	short, _ := c.Append("probe", make([]byte, probe))
	fits := 0
	for ; fits < probe; fits++ {
		c := d.Copy()
		c.Fuse(probe)
		c.Short(probe)
		if _, e := c.Append("probe", make([]byte, fits)); e == api.ErrFull {
			break
		}
	}
	return fmt.Sprintf("%s; fuse %d, Short %d, room for less than %d", told(t, d), changes, short, fits)
}

// is asks for an error's number.
func is(t *testing.T, got, want api.Errno) {
	t.Helper()
	if got != want {
		t.Errorf("the answer is %d, not %d", got, want)
	}
}

// refused asks that a call answers this error, and has changed nothing that a later call could tell.
func refused(t *testing.T, d *files.Disk, want api.Errno, call func(d *files.Disk) api.Errno) {
	t.Helper()
	before := state(t, d)
	is(t, call(d), want)
	if behind := state(t, d); behind != before {
		t.Errorf("refused with %d, but the disk was\n%.300q and is\n%.300q", want, before, behind)
	}
}

// appends asks what an Append answers.
func appends(t *testing.T, d *files.Disk, name, text string, n int, e api.Errno) {
	t.Helper()
	if gotN, gotE := d.Append(name, []byte(text)); gotN != n || gotE != e {
		t.Errorf("Append(%q, %d bytes %.20q) is %d, %d, not %d, %d", name, len(text), text, gotN, gotE, n, e)
	}
}

// put is a disk with these files, as told tells them.
func put(t *testing.T, d *files.Disk, list string) *files.Disk {
	t.Helper()
	for _, one := range strings.Fields(list) {
		n, text, _ := strings.Cut(one, "=")
		synced, more, _ := strings.Cut(text, "|")
		appends(t, d, n, synced, len(synced), api.OK)
		if synced != "" {
			is(t, d.Sync(n), api.OK)
		}
		appends(t, d, n, more, len(more), api.OK)
	}
	has(t, d, list)
	return d
}

// goodNames can be names.
func goodNames() []string {
	l := []string{"log-0001.seg", "..", "--", "a.", "-a", strings.Repeat("a", 31), strings.Repeat("z", 32), "abcdefghijklmnopqrstuvwxyz-.", "0123456789-.abc"}
	for _, c := range "abcdefghijklmnopqrstuvwxyz0123456789-." {
		l = append(l, string(c))
	}
	return l
}

// wrongNames can't be names.
func wrongNames() []string {
	l := []string{"", strings.Repeat("a", 33), strings.Repeat("a", 300), strings.Repeat("-", 1<<20), "\u00e9", "\xff\xfe", "a b", "a/b", "../a", "a\n", "A", "aB", "Aa", "a_b", "a\x00"}
	for c := range 256 {
		if !strings.ContainsRune("abcdefghijklmnopqrstuvwxyz0123456789-.", rune(c)) {
			l = append(l, string([]byte{byte(c)}), string([]byte{'a', byte(c)}), string([]byte{byte(c), 'a'}), strings.Repeat("a", 31)+string([]byte{byte(c)}))
		}
	}
	return l
}

// same asks for a list of names.
func same(t *testing.T, got []string, want ...string) {
	t.Helper()
	if !slices.Equal(got, want) {
		t.Errorf("List is %q, not %q", got, want)
	}
}
