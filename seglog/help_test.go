package seglog_test

import (
	"crypto/sha256"
	"encoding/binary"
	"fmt"
	"hash/crc32"
	"maps"
	"slices"
	"strings"
	"testing"

	"cicerone/api"
	"cicerone/files"
	"cicerone/seglog"
)

// great is a room in which nothing is too much, long a fuse that does not burn down.
const (
	great = 1 << 40
	long  = 1 << 30
)

// framed is the frames of records, by the chapter's words.
func framed(recs ...string) string {
	var b []byte
	for _, rec := range recs {
		b = binary.BigEndian.AppendUint32(b, uint32(len(rec)))
		b = binary.BigEndian.AppendUint32(b, crc32.Checksum([]byte(rec), crc32.MakeTable(crc32.Castagnoli)))
		sum := sha256.Sum256([]byte(rec))
		b = append(b, sum[:]...)
		b = append(b, rec...)
	}
	return string(b)
}

// listed is the manifest of segments, by the chapter's words.
func listed(segments ...uint64) string {
	var b []byte
	for _, n := range segments {
		b = binary.BigEndian.AppendUint64(b, n)
	}
	return framed(string(b))
}

// seg is the name of a segment's file.
func seg(n int) string { return fmt.Sprintf("s%08d", n) }

// of is a record of so many bytes, each the same.
func of(c byte, size int) string { return strings.Repeat(string([]byte{c}), size) }

// filling is two records whose frames have so many bytes, 4080 to 8080.
func filling(size int) []string { return []string{of('f', 4000), of('g', size-2*40-4000)} }

// held is a file's bytes, and how many of them are synced; shot is all that a disk has.
type held struct {
	data   string
	synced int
}
type shot map[string]held

// safe is a file that is synced, loose one of which a beginning is.
func safe(data string) held          { return held{data, len(data)} }
func loose(synced, more string) held { return held{synced + more, len(synced)} }

// and is a shot with these as well, less what is nil there.
func (s shot) and(more shot) shot {
	c := maps.Clone(s)
	for name, f := range more {
		if f == gone {
			delete(c, name)
		} else {
			c[name] = f
		}
	}
	return c
}

// gone stands for a file that is not there.
var gone = held{"", -1}

// taken is a shot of a disk.
func taken(t *testing.T, d *files.Disk) shot {
	t.Helper()
	s := shot{}
	for _, name := range d.List() {
		b, e := d.Read(name)
		if e != api.OK {
			t.Fatalf("Read(%s) is %d", name, e)
		}
		s[name] = held{string(b), d.Synced(name)}
	}
	return s
}

// told is those files of a shot, in few words, that another one does not have like that.
func (s shot) told(other shot) string {
	text := ""
	for _, name := range slices.Sorted(maps.Keys(s)) {
		if f, ok := other[name]; !ok || f != s[name] {
			text += fmt.Sprintf("\n%s: %d of %d bytes %.60x", name, s[name].synced, len(s[name].data), s[name].data)
		}
	}
	return text
}

// has asks that a disk has these files.
func has(t *testing.T, d *files.Disk, want shot) {
	t.Helper()
	if got := taken(t, d); !maps.Equal(got, want) {
		t.Errorf("the disk has%s\nnot%s", got.told(want), want.told(got))
	}
}

// laid is a disk with these files.
func laid(t *testing.T, s shot) *files.Disk {
	t.Helper()
	d, e := files.New(great)
	is(t, e, api.OK)
	for _, name := range slices.Sorted(maps.Keys(s)) {
		f := s[name]
		if _, e := d.Append(name, []byte(f.data[:f.synced])); e != api.OK {
			t.Fatalf("Append(%s) is %d", name, e)
		}
		if f.synced > 0 {
			is(t, d.Sync(name), api.OK)
		}
		d.Append(name, []byte(f.data[f.synced:]))
	}
	has(t, d, s)
	return d
}

// is asks for an error's number.
func is(t *testing.T, got, want api.Errno) {
	t.Helper()
	if got != want {
		t.Errorf("the answer is %d, not %d", got, want)
	}
}

// texts is records as texts.
func texts(recs [][]byte) []string {
	var l []string
	for _, rec := range recs {
		l = append(l, string(rec))
	}
	return l
}

// recs is texts as records.
func recs(l ...string) [][]byte {
	var recs [][]byte
	for _, rec := range l {
		recs = append(recs, []byte(rec))
	}
	return recs
}

// short is records in few words.
func short(l []string) string {
	s := fmt.Sprint(len(l), ":")
	for _, rec := range l {
		s += fmt.Sprintf(" %d %.12q", len(rec), rec)
	}
	return s
}

// open is a disk's log, which is asked to have these records.
func open(t *testing.T, d *files.Disk, want ...string) *seglog.Log {
	t.Helper()
	l, recs, e := seglog.Open(d)
	if l == nil || e != api.OK {
		t.Fatalf("Open is %v, %d", l, e)
	}
	if got := texts(recs); !slices.Equal(got, want) {
		t.Errorf("Open tells the records %s, not %s", short(got), short(want))
	}
	return l
}

// made is a log on a disk of these files.
func made(t *testing.T, s shot, want ...string) (*files.Disk, *seglog.Log) {
	t.Helper()
	d := laid(t, s)
	return d, open(t, d, want...)
}

// add appends records, each of which is to be taken.
func add(t *testing.T, l *seglog.Log, recs ...string) {
	t.Helper()
	for _, rec := range recs {
		if e := l.Append([]byte(rec)); e != api.OK {
			t.Fatalf("Append of %d bytes is %d", len(rec), e)
		}
	}
}

// segments asks which segments a log has, and how many bytes.
func segments(t *testing.T, d *files.Disk, l *seglog.Log, want ...int) {
	t.Helper()
	var names []string
	sum := 0
	for _, n := range want {
		names = append(names, seg(n))
		b, _ := d.Read(seg(n))
		sum += len(b)
	}
	if got := l.Segments(); !slices.Equal(got, names) {
		t.Errorf("Segments is %q, not %q", got, names)
	}
	if got := l.Bytes(); got != sum {
		t.Errorf("Bytes is %d, not %d", got, sum)
	}
}

// burned is how many changes a call makes of the disk, whose fuse it leaves long.
func burned(t *testing.T, d *files.Disk, call func()) int {
	t.Helper()
	const fuse = 2000
	is(t, d.Fuse(fuse), api.OK)
	call()
	c, left := d.Copy(), 0
	for c.Sync("none") != api.ErrDead {
		left++
	}
	is(t, d.Fuse(long), api.OK)
	return fuse - left
}

// unchanged asks that a call answers this error, makes no change of the disk, and leaves the log as it was.
func unchanged(t *testing.T, d *files.Disk, l *seglog.Log, want api.Errno, call func() api.Errno) {
	t.Helper()
	before, names, size := taken(t, d), l.Segments(), l.Bytes()
	if n := burned(t, d, func() { is(t, call(), want) }); n != 0 {
		t.Errorf("%d changes of the disk", n)
	}
	has(t, d, before)
	if !slices.Equal(l.Segments(), names) || l.Bytes() != size {
		t.Errorf("the log had %q, %d, and has %q, %d", names, size, l.Segments(), l.Bytes())
	}
}

// stopped asks that a log has stopped: whatever it is asked for, also behind a crash and when the disk goes on.
func stopped(t *testing.T, d *files.Disk, l *seglog.Log) {
	t.Helper()
	is(t, d.Room(great), api.OK)
	for range 2 {
		unchanged(t, d, l, api.ErrDead, func() api.Errno { return l.Append([]byte("more")) })
		unchanged(t, d, l, api.ErrArg, func() api.Errno { return l.Append(nil) })
		unchanged(t, d, l, api.ErrArg, func() api.Errno { return l.Append(make([]byte, 4001)) })
		unchanged(t, d, l, api.ErrDead, func() api.Errno { return l.Sync() })
		unchanged(t, d, l, api.ErrDead, func() api.Errno { return l.Replace(recs("more")) })
		unchanged(t, d, l, api.ErrDead, func() api.Errno { return l.Replace(nil) })
		unchanged(t, d, l, api.ErrArg, func() api.Errno { return l.Replace(recs("more", "")) })
		is(t, d.Crash(nil), api.OK)
	}
}

// goesOn asks that a log has not stopped.
func goesOn(t *testing.T, d *files.Disk, l *seglog.Log) {
	t.Helper()
	is(t, d.Room(great), api.OK)
	is(t, d.Fuse(long), api.OK)
	is(t, l.Append([]byte("more")), api.OK)
	is(t, l.Sync(), api.OK)
	is(t, l.Replace(recs("again")), api.OK)
	open(t, d, "again")
}

// step is how a call ends behind so many changes as there are steps ahead of it: what it answers, what the disk has, and which segments the log.
type step struct {
	answer   api.Errno
	disk     shot
	segments []int
}

// sweep has the disk stop behind each change that a call makes: the last step is how it ends by itself. The log goes on behind that one alone.
func sweep(t *testing.T, setup func(t *testing.T) (*files.Disk, *seglog.Log), call func(l *seglog.Log) api.Errno, steps []step) {
	t.Helper()
	last := len(steps) - 1
	for fuse := range last + 3 {
		want := steps[min(fuse, last)]
		t.Run(fmt.Sprintf("fuse %d", fuse), func(t *testing.T) {
			d, l := setup(t)
			is(t, d.Fuse(fuse), api.OK)
			is(t, call(l), want.answer)
			has(t, d, want.disk)
			segments(t, d, l, want.segments...)
			if fuse < last {
				stopped(t, d, l)
				segments(t, d, l, want.segments...)
			} else {
				goesOn(t, d, l)
			}
		})
	}
}

// sweepOpen has the disk stop behind each change that Open makes; the last shot is how it ends by itself.
func sweepOpen(t *testing.T, s shot, room int, answer api.Errno, shots []shot) {
	t.Helper()
	last := len(shots) - 1
	for fuse := range last + 3 {
		t.Run(fmt.Sprintf("fuse %d", fuse), func(t *testing.T) {
			d := laid(t, s)
			is(t, d.Fuse(fuse), api.OK)
			is(t, d.Room(room), api.OK)
			l, recs, e := seglog.Open(d)
			want := answer
			if fuse < last {
				want = api.ErrDead
			}
			is(t, e, want)
			if (l == nil) != (want != api.OK) || l == nil && len(recs) > 0 {
				t.Errorf("Open is %v, %d records, %d", l, len(recs), e)
			}
			has(t, d, shots[min(fuse, last)])
		})
	}
}
