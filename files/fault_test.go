package files_test

import (
	"math"
	"testing"

	"cicerone/api"
	"cicerone/files"
)

// P6.1: a Short of nothing, of less than is appended, of just as much, of more.
func TestShort(t *testing.T) {
	for _, one := range []struct {
		short, n int
		e        api.Errno
		want     string
	}{
		{0, 0, api.ErrPart, "a=x|y"},
		{1, 1, api.ErrPart, "a=x|yp"},
		{2, 2, api.ErrPart, "a=x|ypq"},
		{3, 3, api.OK, "a=x|ypqr"},
		{4, 3, api.OK, "a=x|ypqr"},
		{math.MaxInt, 3, api.OK, "a=x|ypqr"},
	} {
		d := put(t, fresh(t, great), "a=x|y")
		is(t, d.Short(one.short), api.OK)
		appends(t, d, "a", "pqr", one.n, one.e)
		has(t, d, one.want)
		appends(t, d, "a", "stu", 3, api.OK)
		has(t, d, one.want+"stu")
	}
}

// P6.1: a file of which a part alone was written is there, also with no byte.
func TestShortNewFile(t *testing.T) {
	d := fresh(t, great)
	d.Short(0)
	appends(t, d, "a", "xyz", 0, api.ErrPart)
	has(t, d, "a=|")
	d.Short(2)
	appends(t, d, "b", "xyz", 2, api.ErrPart)
	has(t, d, "a=| b=|xy")
}

// P6.1: a Short waits no more behind an Append that writes nothing, or that has no room; it waits on behind all other calls.
func TestShortWaits(t *testing.T) {
	d := put(t, fresh(t, 5), "a=x|y")
	d.Short(0)
	appends(t, d, "a", "", 0, api.OK)
	appends(t, d, "a", "z", 1, api.OK)
	d.Short(3)
	appends(t, d, "a", "pqrs", 0, api.ErrFull)
	d.Room(7)
	appends(t, d, "b", "pqrs", 4, api.OK)
	has(t, d, "a=x|yz b=|pqrs")
	d.Short(2)
	appends(t, d, "a", "tu", 0, api.ErrFull)
	d.Room(50)
	appends(t, d, "a", "tuv", 3, api.OK)
	has(t, d, "a=x|yztuv b=|pqrs")

	d = put(t, fresh(t, 50), "a=x|y b=z|")
	d.Short(1)
	d.Sync("a")
	d.Sync("c")
	d.Cut("a", 1)
	d.Cut("a", -1)
	d.Rename("a", "c")
	d.Rename("a", "c")
	d.Remove("b")
	d.Room(60)
	d.Fuse(3)
	d.List()
	d.Read("c")
	d.Synced("c")
	d.Used()
	d.Copy().Append("c", []byte("pq"))
	appends(t, d, "C", "pq", 0, api.ErrArg)
	is(t, d.Short(-1), api.ErrArg)
	appends(t, d, "c", "pq", 1, api.ErrPart)
	appends(t, d, "c", "rs", 2, api.OK)
	has(t, d, "c=x|prs")
}

// P6.3: a Short stands in the place of one that waits.
func TestShortAgain(t *testing.T) {
	d := fresh(t, great)
	d.Short(1)
	d.Short(3)
	appends(t, d, "a", "pqrst", 3, api.ErrPart)
	appends(t, d, "a", "uv", 2, api.OK)
	d.Short(3)
	d.Short(0)
	appends(t, d, "a", "pq", 0, api.ErrPart)
	has(t, d, "a=|pqruv")
}

// P6.1: a Short where there is room for its part alone, and where there is none for that.
func TestShortNoRoom(t *testing.T) {
	d := put(t, fresh(t, 4), "a=x|y")
	d.Short(2)
	appends(t, d, "a", "pqrstu", 2, api.ErrPart)
	has(t, d, "a=x|ypq")
	d.Short(1)
	appends(t, d, "a", "rs", 0, api.ErrFull)
	d.Short(1)
	appends(t, d, "b", "rs", 0, api.ErrFull)
	has(t, d, "a=x|ypq")
	d.Short(0)
	appends(t, d, "b", "rs", 0, api.ErrPart)
	has(t, d, "a=x|ypq b=|")
	d.Room(3)
	d.Short(0)
	appends(t, d, "c", "rs", 0, api.ErrFull)
	d.Short(0)
	appends(t, d, "a", "rs", 0, api.ErrFull)
	has(t, d, "a=x|ypq b=|")
}

// P6.3: another room; what is there stays, and below it nothing is appended, not even nothing.
func TestRoom(t *testing.T) {
	d := put(t, fresh(t, great), "a=ab|cd b=x|")
	is(t, d.Room(6), api.OK)
	appends(t, d, "a", "ef", 0, api.ErrFull)
	appends(t, d, "a", "e", 1, api.OK)
	is(t, d.Room(5), api.OK)
	refused(t, d, api.ErrFull, func(d *files.Disk) api.Errno {
		_, e := d.Append("a", nil)
		return e
	})
	refused(t, d, api.ErrFull, func(d *files.Disk) api.Errno {
		_, e := d.Append("c", nil)
		return e
	})
	refused(t, d, api.ErrFull, func(d *files.Disk) api.Errno {
		_, e := d.Append("c", []byte("f"))
		return e
	})
	is(t, d.Sync("a"), api.OK)
	is(t, d.Rename("a", "c"), api.OK)
	has(t, d, "b=x| c=abcde|")
	is(t, d.Cut("c", 4), api.OK)
	appends(t, d, "d", "", 0, api.OK)
	appends(t, d, "d", "f", 0, api.ErrFull)
	is(t, d.Room(0), api.OK)
	appends(t, d, "d", "", 0, api.ErrFull)
	has(t, d, "b=x| c=abcd| d=|")
	is(t, d.Room(great), api.OK)
	appends(t, d, "d", "fgh", 3, api.OK)
	has(t, d, "b=x| c=abcd| d=|fgh")
}

// P6.3: numbers that can't be.
func TestFaultsWrong(t *testing.T) {
	d := put(t, fresh(t, 20), "a=ab|cd")
	d.Short(3)
	d.Fuse(4)
	d.Room(12)
	for _, n := range wrongRooms {
		refused(t, d, api.ErrArg, func(d *files.Disk) api.Errno { return d.Room(n) })
		if n < 0 {
			refused(t, d, api.ErrArg, func(d *files.Disk) api.Errno { return d.Short(n) })
			refused(t, d, api.ErrArg, func(d *files.Disk) api.Errno { return d.Fuse(n) })
		}
	}
	is(t, d.Room(1<<40), api.OK)
	is(t, d.Room(0), api.OK)
}

// changes are all that a fuse counts, each done and each refused for another cause than ErrArg.
func changes() map[string]func(d *files.Disk) api.Errno {
	return map[string]func(d *files.Disk) api.Errno{
		"Append": func(d *files.Disk) api.Errno {
			_, e := d.Append("a", []byte("z"))
			return e
		},
		"Append of nothing": func(d *files.Disk) api.Errno {
			_, e := d.Append("new", nil)
			return e
		},
		"Append, full": func(d *files.Disk) api.Errno {
			_, e := d.Append("a", make([]byte, 100))
			return e
		},
		"Sync":                  func(d *files.Disk) api.Errno { return d.Sync("a") },
		"Sync, not there":       func(d *files.Disk) api.Errno { return d.Sync("c") },
		"Sync, no name":         func(d *files.Disk) api.Errno { return d.Sync("") },
		"Cut":                   func(d *files.Disk) api.Errno { return d.Cut("a", 1) },
		"Cut, all":              func(d *files.Disk) api.Errno { return d.Cut("b", 0) },
		"Cut, not there":        func(d *files.Disk) api.Errno { return d.Cut("c", 1) },
		"Cut, no name":          func(d *files.Disk) api.Errno { return d.Cut("C", 1) },
		"Rename":                func(d *files.Disk) api.Errno { return d.Rename("a", "b") },
		"Rename, not there":     func(d *files.Disk) api.Errno { return d.Rename("c", "b") },
		"Rename, from no name":  func(d *files.Disk) api.Errno { return d.Rename("", "b") },
		"Rename, itself":        func(d *files.Disk) api.Errno { return d.Rename("a", "a") },
		"Rename, not there too": func(d *files.Disk) api.Errno { return d.Rename("c", "c") },
		"Remove":                func(d *files.Disk) api.Errno { return d.Remove("a") },
		"Remove, not there":     func(d *files.Disk) api.Errno { return d.Remove("c") },
		"Remove, no name":       func(d *files.Disk) api.Errno { return d.Remove("A") },
	}
}

// wrongs are no changes: they are refused by ErrArg.
func wrongs() map[string]func(d *files.Disk) api.Errno {
	return map[string]func(d *files.Disk) api.Errno{
		"Append": func(d *files.Disk) api.Errno {
			_, e := d.Append("A", []byte("z"))
			return e
		},
		"Cut, below 0":            func(d *files.Disk) api.Errno { return d.Cut("a", -1) },
		"Cut, not there, below 0": func(d *files.Disk) api.Errno { return d.Cut("c", -1) },
		"Cut, too much":           func(d *files.Disk) api.Errno { return d.Cut("a", 3) },
		"Rename":                  func(d *files.Disk) api.Errno { return d.Rename("a", "A") },
		"Rename, not there":       func(d *files.Disk) api.Errno { return d.Rename("c", "") },
	}
}

// A fuse counts each change, whatever it answers; up to its end changes are as without it.
func TestFuse(t *testing.T) {
	for what, change := range changes() {
		for fuse := range 4 {
			d := put(t, fresh(t, 20), "a=x|y b=z|")
			is(t, d.Fuse(fuse), api.OK)
			for range fuse {
				c := d.Copy()
				is(t, c.Fuse(1000), api.OK)
				want := change(c)
				got := change(d)
				if got != want || got == api.ErrDead || got == api.ErrArg {
					t.Errorf("%s with a fuse of %d is %d, not %d", what, fuse, got, want)
				}
				has(t, d, told(t, c))
			}
			for range 3 {
				for other, late := range changes() {
					before := told(t, d)
					if got := late(d); got != api.ErrDead {
						t.Errorf("%s behind a fuse of %d %s is %d", other, fuse, what, got)
					}
					has(t, d, before)
				}
			}
		}
	}
}

// What is refused by ErrArg is no change: it is told ahead of ErrDead, and burns nothing.
func TestFuseWrong(t *testing.T) {
	for what, wrong := range wrongs() {
		d := put(t, fresh(t, 20), "a=x|y b=z|")
		d.Fuse(1)
		for range 5 {
			if e := wrong(d); e != api.ErrArg {
				t.Errorf("%s is %d", what, e)
			}
		}
		is(t, d.Sync("b"), api.OK)
		for range 2 {
			is(t, d.Sync("b"), api.ErrDead)
			if e := wrong(d); e != api.ErrArg {
				t.Errorf("%s on a dead disk is %d", what, e)
			}
		}
		has(t, d, "a=x|y b=z|")
	}
}

// A dead disk tells what it has, and changes nothing: a Short waits on.
func TestDead(t *testing.T) {
	d := put(t, fresh(t, 20), "a=x|y b=z|")
	d.Fuse(0)
	d.Short(1)
	appends(t, d, "a", "pq", 0, api.ErrDead)
	appends(t, d, "a", "", 0, api.ErrDead)
	has(t, d, "a=x|y b=z|")
	refused(t, d, api.ErrDead, func(d *files.Disk) api.Errno { return d.Remove("a") })
	refused(t, d, api.ErrDead, func(d *files.Disk) api.Errno {
		_, e := d.Append("a", []byte("pq"))
		return e
	})
	is(t, d.Room(15), api.OK)
	is(t, d.Short(2), api.OK)
	is(t, d.Fuse(2), api.OK)
	appends(t, d, "a", "pqr", 2, api.ErrPart)
	appends(t, d, "a", "st", 2, api.OK)
	appends(t, d, "a", "uv", 0, api.ErrDead)
	has(t, d, "a=x|ypqst b=z|")
}

// P6.3: a fuse stands in the place of another one; what is no change burns nothing.
func TestFuseAgain(t *testing.T) {
	d := put(t, fresh(t, 20), "a=x|y")
	d.Fuse(1)
	d.Fuse(3)
	is(t, d.Sync("a"), api.OK)
	d.List()
	d.Read("a")
	d.Synced("a")
	d.Used()
	d.Copy().Sync("a")
	d.Short(9)
	d.Room(19)
	is(t, d.Short(-1), api.ErrArg)
	is(t, d.Room(-1), api.ErrArg)
	is(t, d.Fuse(-1), api.ErrArg)
	is(t, d.Sync("a"), api.OK)
	is(t, d.Sync("a"), api.OK)
	is(t, d.Sync("a"), api.ErrDead)
	d.Fuse(math.MaxInt)
	for range 100 {
		is(t, d.Sync("a"), api.OK)
	}
	d.Fuse(0)
	is(t, d.Sync("a"), api.ErrDead)
}

// P6.4: what is synced stays, and so many bytes more.
func TestCrash(t *testing.T) {
	for _, one := range []struct {
		tails []api.Tail
		want  string
	}{
		{nil, "a=ab| b=| c=xy|"},
		{[]api.Tail{}, "a=ab| b=| c=xy|"},
		{[]api.Tail{{}}, "a=ab| b=| c=xy|"},
		{[]api.Tail{{Name: "a"}}, "a=ab| b=| c=xy|"},
		{[]api.Tail{{Name: "a", Keep: 1}}, "a=abc| b=| c=xy|"},
		{[]api.Tail{{Name: "a", Keep: 2}}, "a=abcd| b=| c=xy|"},
		{[]api.Tail{{Name: "a", Keep: 3}}, "a=abcde| b=| c=xy|"},
		{[]api.Tail{{Name: "a", Keep: 4}}, "a=abcde| b=| c=xy|"},
		{[]api.Tail{{Name: "a", Keep: math.MaxInt}}, "a=abcde| b=| c=xy|"},
		{[]api.Tail{{Name: "a", Keep: -1}}, "a=ab| b=| c=xy|"},
		{[]api.Tail{{Name: "a", Keep: math.MinInt, Turn: true}}, "a=ab| b=| c=xy|"},
		{[]api.Tail{{Name: "a", Turn: true}}, "a=ab| b=| c=xy|"},
		{[]api.Tail{{Name: "a", Keep: 1, Turn: true}}, "a=abb| b=| c=xy|"},
		{[]api.Tail{{Name: "a", Keep: 2, Turn: true}}, "a=abce| b=| c=xy|"},
		{[]api.Tail{{Name: "a", Keep: 9, Turn: true}}, "a=abcdd| b=| c=xy|"},
		{[]api.Tail{{Name: "b", Keep: 1, Turn: true}}, "a=ab| b=q| c=xy|"},
		{[]api.Tail{{Name: "c", Keep: 1, Turn: true}}, "a=ab| b=| c=xy|"},
		{[]api.Tail{{Name: "d", Keep: 1, Turn: true}, {Name: "A", Keep: 2}, {Name: "", Keep: 2}}, "a=ab| b=| c=xy|"},
		{[]api.Tail{{Name: "a", Keep: 1}, {Name: "a", Keep: 3, Turn: true}}, "a=abc| b=| c=xy|"},
		{[]api.Tail{{Name: "a", Keep: 0}, {Name: "a", Keep: 3}}, "a=ab| b=| c=xy|"},
		{[]api.Tail{{Name: "a", Keep: -5}, {Name: "b", Keep: 1}, {Name: "a", Keep: 3}, {Name: "b", Keep: 2}}, "a=ab| b=p| c=xy|"},
		{[]api.Tail{{Name: "b", Keep: 9}, {Name: "d"}, {Name: "a", Keep: 3, Turn: true}, {Name: "a", Keep: 1}}, "a=abcdd| b=pq| c=xy|"},
	} {
		d := put(t, fresh(t, great), "a=ab|cde b=|pq c=xy|")
		is(t, d.Crash(one.tails), api.OK)
		has(t, d, one.want)
		is(t, d.Crash([]api.Tail{{Name: "a", Keep: 9, Turn: true}, {Name: "b", Keep: 9, Turn: true}}), api.OK)
		has(t, d, one.want)
	}
}

// P6.4: of the last byte the lowest bit alone is turned, from each of its values.
func TestCrashTurn(t *testing.T) {
	for c := range 256 {
		d := fresh(t, great)
		d.Append("a", []byte{byte(c), byte(c), byte(c)})
		is(t, d.Crash([]api.Tail{{Name: "a", Keep: 2, Turn: true}}), api.OK)
		has(t, d, "a="+string([]byte{byte(c), byte(c ^ 1)})+"|")
	}
}

// P6.4: behind a crash no Short waits, and there is no fuse; the room stays, and files of no bytes.
func TestCrashFaults(t *testing.T) {
	for _, fuse := range []int{0, 1} {
		d := put(t, fresh(t, 10), "a=x|yyy b=|zz")
		d.Short(1)
		d.Fuse(fuse)
		is(t, d.Crash(nil), api.OK)
		has(t, d, "a=x| b=|")
		appends(t, d, "b", "0123456789", 0, api.ErrFull)
		appends(t, d, "b", "012345678", 9, api.OK)
		for range 3 {
			is(t, d.Sync("b"), api.OK)
		}
	}
	d := put(t, fresh(t, 10), "a=|xyz")
	d.Room(2)
	is(t, d.Crash([]api.Tail{{Name: "a", Keep: 3}}), api.OK)
	has(t, d, "a=xyz|")
	appends(t, d, "a", "", 0, api.ErrFull)
	is(t, d.Crash(nil), api.OK)
	has(t, d, "a=xyz|")
}

// P6.2, P6.4: names are at once durable, and what is cut and renamed is so behind a crash.
func TestCrashNames(t *testing.T) {
	d := put(t, fresh(t, great), "a=ab|cd b=q|r c=|s d=|")
	d.Rename("a", "e")
	d.Rename("b", "c")
	d.Append("f", []byte("new"))
	d.Cut("e", 1)
	d.Append("e", []byte("BCD"))
	d.Remove("d")
	is(t, d.Crash([]api.Tail{{Name: "a", Keep: 9}, {Name: "e", Keep: 2}}), api.OK)
	has(t, d, "c=q| e=aBC| f=|")
}

// The chapter's example.
func TestExample(t *testing.T) {
	d := fresh(t, great)
	appends(t, d, "a", "ab", 2, api.OK)
	is(t, d.Sync("a"), api.OK)
	appends(t, d, "a", "cd", 2, api.OK)
	is(t, d.Crash([]api.Tail{{Name: "a", Keep: 1, Turn: true}}), api.OK)
	has(t, d, "a=abb|")
}
