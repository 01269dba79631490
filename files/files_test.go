package files_test

import (
	"bytes"
	"math"
	"strings"
	"testing"
	"unsafe"

	"cicerone/api"
	"cicerone/files"
)

// Rooms that can't be.
var wrongRooms = []int{-1, -2, math.MinInt32, -1 << 40, math.MinInt, 1<<40 + 1, 1 << 41, math.MaxInt}

// P6.1: rooms at their ends and beyond; a new disk has no files.
func TestNew(t *testing.T) {
	for _, room := range []int{0, 1, 1000, 1 << 20, 1<<40 - 1, 1 << 40} {
		d := fresh(t, room)
		has(t, d, "")
		same(t, d.List())
	}
	for _, room := range wrongRooms {
		if d, e := files.New(room); d != nil || e != api.ErrArg {
			t.Errorf("New(%d) is %v, %d", room, d, e)
		}
	}
}

// P6.3: names rise as their bytes do.
func TestList(t *testing.T) {
	d := fresh(t, great)
	for _, n := range []string{"b", "a", "ab", "a-", "a.", "a0", "-", ".", "0", "10", "2", "aa"} {
		appends(t, d, n, n, len(n), api.OK)
	}
	same(t, d.List(), "-", ".", "0", "10", "2", "a", "a-", "a.", "a0", "aa", "ab", "b")
	d.Remove("a0")
	d.Rename("-", "z")
	same(t, d.List(), ".", "0", "10", "2", "a", "a-", "a.", "aa", "ab", "b", "z")
}

// P6.3: what is read, how much of it is synced, and what all use.
func TestRead(t *testing.T) {
	d := put(t, fresh(t, great), "a=ab|cd b=| c=x|")
	for n, want := range map[string]string{"a": "abcd", "b": "", "c": "x"} {
		if b, e := d.Read(n); string(b) != want || e != api.OK {
			t.Errorf("Read(%s) is %q, %d", n, b, e)
		}
	}
	if d.Synced("a") != 2 || d.Synced("b") != 0 || d.Synced("c") != 1 || d.Used() != 5 {
		t.Errorf("Synced is %d, %d, %d, Used %d", d.Synced("a"), d.Synced("b"), d.Synced("c"), d.Used())
	}
}

// P6.2, P6.3: files that are not there; a name that can't be is one of these where no call says otherwise.
func TestNotThere(t *testing.T) {
	d := put(t, fresh(t, 20), "a=ab|cd")
	d.Short(3)
	d.Room(15)
	for _, n := range append(wrongNames(), "b", "aa", "a.", strings.Repeat("a", 32)) {
		if b, e := d.Read(n); len(b) != 0 || e != api.ErrFile {
			t.Errorf("Read(%.40q) is %q, %d", n, b, e)
		}
		if s := d.Synced(n); s != 0 {
			t.Errorf("Synced(%.40q) is %d", n, s)
		}
		is(t, d.Sync(n), api.ErrFile)
		is(t, d.Remove(n), api.ErrFile)
		is(t, d.Rename(n, "c"), api.ErrFile)
		is(t, d.Rename(n, "a"), api.ErrFile)
		for _, size := range []int{0, 1, math.MaxInt} {
			is(t, d.Cut(n, size), api.ErrFile)
		}
	}
	has(t, d, "a=ab|cd")
	refused(t, d, api.ErrFile, func(d *files.Disk) api.Errno { return d.Sync("b") })
	refused(t, d, api.ErrFile, func(d *files.Disk) api.Errno { return d.Remove("b") })
	refused(t, d, api.ErrFile, func(d *files.Disk) api.Errno { return d.Rename("b", "a") })
	refused(t, d, api.ErrFile, func(d *files.Disk) api.Errno { return d.Cut("b", 0) })
	refused(t, d, api.ErrFile, func(d *files.Disk) api.Errno {
		_, e := d.Read("b")
		return e
	})
}

// A nil disk, and one that no call made: whatever it is handed, right or wrong.
func TestNoDisk(t *testing.T) {
	for _, d := range []*files.Disk{nil, {}, new(files.Disk)} {
		for _, n := range []string{"a", "", "A", strings.Repeat("a", 33)} {
			for _, b := range [][]byte{nil, {}, []byte("ab")} {
				if k, e := d.Append(n, b); k != 0 || e != api.ErrNil {
					t.Errorf("Append is %d, %d", k, e)
				}
			}
			if b, e := d.Read(n); len(b) != 0 || e != api.ErrNil {
				t.Errorf("Read is %q, %d", b, e)
			}
			is(t, d.Sync(n), api.ErrNil)
			is(t, d.Rename(n, "b"), api.ErrNil)
			is(t, d.Rename("b", n), api.ErrNil)
			is(t, d.Remove(n), api.ErrNil)
			is(t, d.Crash([]api.Tail{{Name: n, Keep: 1, Turn: true}}), api.ErrNil)
			if k := d.Synced(n); k != 0 {
				t.Errorf("Synced is %d", k)
			}
			for _, k := range append(wrongRooms, 0, 1, great) {
				is(t, d.Cut(n, k), api.ErrNil)
				is(t, d.Short(k), api.ErrNil)
				is(t, d.Room(k), api.ErrNil)
				is(t, d.Fuse(k), api.ErrNil)
			}
		}
		is(t, d.Crash(nil), api.ErrNil)
		if d.Copy() != nil || d.Used() != 0 || len(d.List()) != 0 {
			t.Errorf("Copy is %v, Used %d, List %q", d.Copy(), d.Used(), d.List())
		}
	}
}

// P6.4: a copy has the same files, room, fuse, and a Short that waits.
func TestCopy(t *testing.T) {
	d := put(t, fresh(t, 100), "a=ab|cd b=| c=x|")
	if c := d.Copy(); c == nil || c == d {
		t.Fatal("no other disk")
	}
	has(t, d.Copy(), "a=ab|cd b=| c=x|")

	d.Short(1)
	c := d.Copy()
	appends(t, c, "a", "ef", 1, api.ErrPart)
	appends(t, c, "a", "gh", 2, api.OK)
	appends(t, d, "a", "ef", 1, api.ErrPart)

	d.Room(7)
	appends(t, d.Copy(), "a", "fgh", 0, api.ErrFull)
	appends(t, d.Copy(), "a", "f", 1, api.OK)

	d.Fuse(1)
	c = d.Copy()
	is(t, c.Sync("a"), api.OK)
	is(t, c.Sync("a"), api.ErrDead)
	is(t, c.Copy().Sync("a"), api.ErrDead)
	is(t, d.Sync("b"), api.OK)
	is(t, d.Sync("b"), api.ErrDead)
	has(t, c, "a=abcde| b=| c=x|")
	has(t, d, "a=ab|cde b=| c=x|")
}

// P6.4: neither of two disks tells of what befalls the other one.
func TestCopyApart(t *testing.T) {
	changes := map[string]func(d *files.Disk){
		"Append":       func(d *files.Disk) { d.Append("a", []byte("xyz")) },
		"Append, new":  func(d *files.Disk) { d.Append("z", []byte("xyz")) },
		"Sync":         func(d *files.Disk) { d.Sync("a") },
		"Cut":          func(d *files.Disk) { d.Cut("a", 1) },
		"Cut, Append":  func(d *files.Disk) { d.Cut("a", 1); d.Append("a", []byte("XYZ")) },
		"Rename":       func(d *files.Disk) { d.Rename("a", "b") },
		"Remove":       func(d *files.Disk) { d.Remove("a") },
		"Short":        func(d *files.Disk) { d.Short(2) },
		"Room":         func(d *files.Disk) { d.Room(20) },
		"Fuse":         func(d *files.Disk) { d.Fuse(2) },
		"Crash":        func(d *files.Disk) { d.Crash(nil) },
		"Crash, Tails": func(d *files.Disk) { d.Crash([]api.Tail{{Name: "a", Keep: 1, Turn: true}}) },
	}
	for what, change := range changes {
		d := put(t, fresh(t, 100), "a=ab|cd b=q|rs c=x|")
		d.Short(7)
		d.Fuse(9)
		before := state(t, d)
		c := d.Copy()
		change(c)
		if got := state(t, d); got != before {
			t.Errorf("%s of a copy: the disk was\n%q and is\n%q", what, before, got)
		}
		c = d.Copy()
		change(d)
		if got := state(t, c); got != before {
			t.Errorf("%s of a disk: its copy was\n%q and is\n%q", what, before, got)
		}
		if got := state(t, d); got == before {
			t.Errorf("%s has changed nothing", what)
		}
	}
}

// Both go on behind what they have in common: the room behind it is no room of both.
func TestCopyRoomBehind(t *testing.T) {
	d := fresh(t, great)
	for i := range 50 {
		d.Append("a", []byte{'0' + byte(i)})
		c := d.Copy()
		was := told(t, d)
		c.Append("a", []byte("c"))
		d.Copy().Append("a", []byte("e"))
		has(t, d, was)
		has(t, c, was+"c")
	}
}

// What is handed in is not kept and not changed, the room behind it included.
func TestAppendMemory(t *testing.T) {
	d := fresh(t, great)
	room := []byte("abcdefgh")
	for i := range 4 {
		if n, e := d.Append("a", room[2*i:2*i+2]); n != 2 || e != api.OK {
			t.Fatal(n, e)
		}
		if string(room) != "abcdefgh" {
			t.Fatalf("what was handed in is %q", room)
		}
	}
	d.Append("b", room[:4])
	d.Append("b", []byte("xy"))
	d.Short(1)
	d.Append("c", room)
	if string(room) != "abcdefgh" {
		t.Errorf("what was handed in is %q", room)
	}
	for i := range room {
		room[i] = '!'
	}
	has(t, d, "a=|abcdefgh b=|abcdxy c=|a")
}

// What is read is new memory, spare room too.
func TestReadMemory(t *testing.T) {
	d := put(t, fresh(t, great), "a=ab|cdefg b=| c=x|")
	d.Append("a", []byte("h"))
	d.Cut("a", 5)
	for range 2 {
		for _, n := range d.List() {
			first, _ := d.Read(n)
			second, _ := d.Read(n)
			kept := bytes.Clone(second)
			whole := first[:cap(first)]
			for i := range whole {
				whole[i] = '!'
			}
			if !bytes.Equal(second, kept) {
				t.Errorf("two answers of Read(%s) share memory", n)
			}
		}
		d.Append("a", nil)
		has(t, d, "a=ab|cde b=| c=x|")
	}
	l := d.List()
	l = l[:cap(l)]
	for i := range l {
		l[i] = "!"
	}
	same(t, d.List(), "a", "b", "c")
	before, _ := d.Read("a")
	d.Crash([]api.Tail{{Name: "a", Keep: 3, Turn: true}})
	d.Cut("a", 2)
	d.Append("a", []byte("xyz"))
	if string(before) != "abcde" {
		t.Errorf("what was read has become %q", before)
	}
}

// Names that are handed in are not kept: texts that lie over bytes, which are then changed, show it.
func TestNameMemory(t *testing.T) {
	room := []byte("first.second")
	text := unsafe.String(&room[0], len(room))
	d := fresh(t, great)
	d.Append(text[:5], []byte("x"))
	d.Append(text[6:], []byte("y"))
	d.Rename(text[6:], text[6:9])
	for i := range room {
		room[i] = '!'
	}
	has(t, d, "first=|x sec=|y")
	is(t, d.Remove("first"), api.OK)
	is(t, d.Remove("sec"), api.OK)
}

// A crash neither changes nor keeps its list.
func TestCrashMemory(t *testing.T) {
	d := put(t, fresh(t, great), "a=|abc b=|abc")
	room := []api.Tail{{Name: "a", Keep: 2}, {Name: "a", Keep: 9}, {Name: "b", Keep: 1}}
	is(t, d.Crash(room[:2]), api.OK)
	if room[0] != (api.Tail{Name: "a", Keep: 2}) || room[1] != (api.Tail{Name: "a", Keep: 9}) || room[2] != (api.Tail{Name: "b", Keep: 1}) {
		t.Errorf("what was handed in is %v", room)
	}
	room[0].Keep = 1
	has(t, d, "a=ab| b=|")
}
