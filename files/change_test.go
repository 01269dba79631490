package files_test

import (
	"math"
	"strings"
	"testing"

	"cicerone/api"
	"cicerone/files"
)

// P6.1: bytes stand behind those that were there; files are new, those of no bytes too.
func TestAppend(t *testing.T) {
	d := fresh(t, great)
	appends(t, d, "a", "ab", 2, api.OK)
	appends(t, d, "b", "", 0, api.OK)
	has(t, d, "a=|ab b=|")
	appends(t, d, "a", "\x00\xff", 2, api.OK)
	appends(t, d, "a", "", 0, api.OK)
	appends(t, d, "b", "x", 1, api.OK)
	has(t, d, "a=|ab\x00\xff b=|x")
	is(t, d.Sync("a"), api.OK)
	appends(t, d, "a", "yz", 2, api.OK)
	has(t, d, "a=ab\x00\xff|yz b=|x")
}

// Nil and empty bytes mean the same.
func TestAppendNothing(t *testing.T) {
	for _, b := range [][]byte{nil, {}, make([]byte, 0, 9), []byte("abc")[:0]} {
		d := put(t, fresh(t, great), "a=a|b")
		for _, n := range []string{"a", "b"} {
			if k, e := d.Append(n, b); k != 0 || e != api.OK {
				t.Errorf("Append of nothing is %d, %d", k, e)
			}
		}
		has(t, d, "a=a|b b=|")
	}
}

// P6.1, P6.2: names that can be, in each place.
func TestGoodNames(t *testing.T) {
	for _, n := range goodNames() {
		d := fresh(t, great)
		appends(t, d, n, "abc", 3, api.OK)
		is(t, d.Sync(n), api.OK)
		is(t, d.Cut(n, 2), api.OK)
		has(t, d, n+"=ab|")
		is(t, d.Rename(n, "other-name"), api.OK)
		is(t, d.Rename("other-name", n), api.OK)
		is(t, d.Crash([]api.Tail{{Name: n, Keep: 1}}), api.OK)
		has(t, d, n+"=ab|")
		is(t, d.Remove(n), api.OK)
		has(t, d, "")
	}
}

// P6.1, P6.2: names that can't be; they are refused, and no change.
func TestWrongNames(t *testing.T) {
	d := put(t, fresh(t, 30), "a=a|b")
	d.Short(3)
	d.Fuse(2)
	before := state(t, d)
	for _, n := range wrongNames() {
		appends(t, d, n, "abcdef", 0, api.ErrArg)
		appends(t, d, n, "", 0, api.ErrArg)
		appends(t, d, n, strings.Repeat("x", 40), 0, api.ErrArg)
		is(t, d.Rename("a", n), api.ErrArg)
		is(t, d.Rename("not-there", n), api.ErrArg)
		is(t, d.Rename(n, n), api.ErrArg)
		is(t, d.Cut(n, -1), api.ErrArg)
	}
	if behind := state(t, d); behind != before {
		t.Errorf("the disk was %q and is %q", before, behind)
	}
	refused(t, d, api.ErrArg, func(d *files.Disk) api.Errno { return d.Rename("a", "A") })
	refused(t, d, api.ErrArg, func(d *files.Disk) api.Errno {
		_, e := d.Append("A", []byte("abcdef"))
		return e
	})
}

// P6.1: a file of MaxFile bytes, and one more.
func TestMaxFile(t *testing.T) {
	all := strings.Repeat("x", api.MaxFile)
	d := fresh(t, great)
	appends(t, d, "a", all+"y", 0, api.ErrFull)
	has(t, d, "")
	appends(t, d, "a", all, api.MaxFile, api.OK)
	refused(t, d, api.ErrFull, func(d *files.Disk) api.Errno {
		_, e := d.Append("a", []byte("y"))
		return e
	})
	appends(t, d, "a", "", 0, api.OK)
	appends(t, d, "b", all, api.MaxFile, api.OK)
	has(t, d, "a=|"+all+" b=|"+all)

	is(t, d.Cut("a", api.MaxFile-1), api.OK)
	appends(t, d, "a", "yz", 0, api.ErrFull)
	d.Short(1)
	appends(t, d, "a", "yz", 1, api.ErrPart)
	d.Short(1)
	appends(t, d, "a", "yz", 0, api.ErrFull)
	d.Short(0)
	appends(t, d, "a", "yz", 0, api.ErrPart)
	has(t, d, "a=|"+all[1:]+"y b=|"+all)
	appends(t, d, "c", all+all, 0, api.ErrFull)
	d.Short(api.MaxFile)
	appends(t, d, "c", all+"y", api.MaxFile, api.ErrPart)
	if d.Used() != 3*api.MaxFile {
		t.Errorf("Used is %d", d.Used())
	}
}

// P6.1: a disk that is just full, and one byte more.
func TestRoomFull(t *testing.T) {
	d := fresh(t, 5)
	appends(t, d, "a", "abcdef", 0, api.ErrFull)
	has(t, d, "")
	appends(t, d, "a", "abcde", 5, api.OK)
	refused(t, d, api.ErrFull, func(d *files.Disk) api.Errno {
		_, e := d.Append("a", []byte("f"))
		return e
	})
	refused(t, d, api.ErrFull, func(d *files.Disk) api.Errno {
		_, e := d.Append("b", []byte("f"))
		return e
	})
	appends(t, d, "b", "", 0, api.OK)
	is(t, d.Sync("a"), api.OK)
	is(t, d.Rename("a", "c"), api.OK)
	has(t, d, "b=| c=abcde|")
	is(t, d.Cut("c", 3), api.OK)
	appends(t, d, "b", "xyz", 0, api.ErrFull)
	appends(t, d, "b", "xy", 2, api.OK)
	is(t, d.Rename("c", "b"), api.OK)
	appends(t, d, "d", "pqr", 0, api.ErrFull)
	appends(t, d, "d", "pq", 2, api.OK)
	is(t, d.Remove("b"), api.OK)
	appends(t, d, "d", "rst", 3, api.OK)
	is(t, d.Cut("d", 4), api.OK)
	is(t, d.Crash([]api.Tail{{Name: "d", Keep: 1}}), api.OK)
	appends(t, d, "d", "vwxyz", 0, api.ErrFull)
	appends(t, d, "d", "vwxy", 4, api.OK)
	has(t, d, "d=p|vwxy")
}

// P6.1: a room of 0 has files of no bytes.
func TestRoomNothing(t *testing.T) {
	d := fresh(t, 0)
	appends(t, d, "a", "x", 0, api.ErrFull)
	has(t, d, "")
	appends(t, d, "a", "", 0, api.OK)
	appends(t, d, "a", "x", 0, api.ErrFull)
	has(t, d, "a=|")
}

// P6.2: what is synced, and what comes behind it.
func TestSync(t *testing.T) {
	d := fresh(t, great)
	appends(t, d, "a", "", 0, api.OK)
	is(t, d.Sync("a"), api.OK)
	has(t, d, "a=|")
	appends(t, d, "a", "ab", 2, api.OK)
	appends(t, d, "b", "xy", 2, api.OK)
	is(t, d.Sync("a"), api.OK)
	is(t, d.Sync("a"), api.OK)
	has(t, d, "a=ab| b=|xy")
	appends(t, d, "a", "c", 1, api.OK)
	has(t, d, "a=ab|c b=|xy")
	is(t, d.Sync("a"), api.OK)
	has(t, d, "a=abc| b=|xy")
}

// P6.2: Cut to the same length, to what is synced, to less, to nothing.
func TestCut(t *testing.T) {
	for n, want := range map[int]string{6: "a=abc|def", 5: "a=abc|de", 4: "a=abc|d", 3: "a=abc|", 2: "a=ab|", 1: "a=a|", 0: "a=|"} {
		d := put(t, fresh(t, great), "a=abc|def b=q|")
		is(t, d.Cut("a", n), api.OK)
		has(t, d, want+" b=q|")
		is(t, d.Cut("a", n), api.OK)
		has(t, d, want+" b=q|")
		appends(t, d, "a", "xy", 2, api.OK)
		has(t, d, want+"xy b=q|")
	}
	d := put(t, fresh(t, great), "a=|")
	is(t, d.Cut("a", 0), api.OK)
	has(t, d, "a=|")
}

// P6.2: lengths that can't be, ahead of a file that is not there.
func TestCutWrong(t *testing.T) {
	d := put(t, fresh(t, 30), "a=abc|def b=|")
	for _, n := range []int{-1, -2, math.MinInt, 7, 8, 1 << 20, 1 << 40, math.MaxInt} {
		refused(t, d, api.ErrArg, func(d *files.Disk) api.Errno { return d.Cut("a", n) })
	}
	is(t, d.Cut("b", 1), api.ErrArg)
	is(t, d.Cut("b", -1), api.ErrArg)
	is(t, d.Cut("c", -1), api.ErrArg)
	is(t, d.Cut("c", math.MinInt), api.ErrArg)
	is(t, d.Cut("c", 0), api.ErrFile)
	is(t, d.Cut("c", math.MaxInt), api.ErrFile)
	has(t, d, "a=abc|def b=|")
}

// P6.2: a file has another name, with what of it is synced.
func TestRename(t *testing.T) {
	d := put(t, fresh(t, great), "a=ab|cd b=q|rst c=|")
	is(t, d.Rename("a", "d"), api.OK)
	has(t, d, "b=q|rst c=| d=ab|cd")
	is(t, d.Rename("d", "b"), api.OK)
	has(t, d, "b=ab|cd c=|")
	is(t, d.Rename("c", "b"), api.OK)
	has(t, d, "b=|")
	is(t, d.Rename("c", "b"), api.ErrFile)
	appends(t, d, "c", "n", 1, api.OK)
	appends(t, d, "b", "o", 1, api.OK)
	has(t, d, "b=|o c=|n")
}

// P6.2: onto itself nothing changes, if it is there.
func TestRenameItself(t *testing.T) {
	d := put(t, fresh(t, 30), "a=ab|cd b=q|")
	before := state(t, d)
	is(t, d.Rename("a", "a"), api.OK)
	if behind := state(t, d); behind != before {
		t.Errorf("the disk was %q and is %q", before, behind)
	}
	refused(t, d, api.ErrFile, func(d *files.Disk) api.Errno { return d.Rename("c", "c") })
}

// P6.2: what is removed is there no more, and a file of that name is a new one.
func TestRemove(t *testing.T) {
	d := put(t, fresh(t, great), "a=ab|cd b=q|")
	is(t, d.Remove("a"), api.OK)
	has(t, d, "b=q|")
	is(t, d.Remove("a"), api.ErrFile)
	appends(t, d, "a", "x", 1, api.OK)
	has(t, d, "a=|x b=q|")
	is(t, d.Remove("a"), api.OK)
	is(t, d.Remove("b"), api.OK)
	has(t, d, "")
}
