package store_test

import (
	"fmt"
	"slices"
	"testing"

	"cicerone/api"
	"cicerone/files"
	"cicerone/seglog"
	"cicerone/store"
)

// memoryOnly asks that nothing is written any more, whatever is called, and that all goes on in memory.
func memoryOnly(t *testing.T, d *files.Disk, s *store.Store, want ...api.Set) {
	t.Helper()
	if !s.Memory() {
		t.Fatal("the store still writes")
	}
	d.Room(room)
	for range 2 {
		more := with(set("\x01z\x00", 900, "more"), func(s *api.Set) { s.Rank = api.RankAnswer })
		silent(t, d, api.OK, func() api.Errno { return s.Put(more, 0) })
		has(t, s, append(slices.Clone(want), more)...)
		silent(t, d, api.OK, func() api.Errno { return s.Put(with(more, func(s *api.Set) { s.Rank = api.RankGlue }), 0) })
		silent(t, d, api.ErrArg, func() api.Errno { return s.Put(more, 900) })
		silent(t, d, api.OK, s.Sync)
		silent(t, d, api.OK, func() api.Errno { return s.Compact(0) })
		has(t, s, append(slices.Clone(want), more)...)
		silent(t, d, api.OK, func() api.Errno { return s.Delete("\x01Z\x00", textType, 1) })
		silent(t, d, api.ErrAbsent, func() api.Errno { return s.Delete("\x01Z\x00", textType, 1) })
		has(t, s, want...)
		if !s.Memory() {
			t.Error("the store writes again")
		}
		is(t, d.Crash(nil), api.OK)
	}
}

// goesOn asks that a store writes.
func goesOn(t *testing.T, d *files.Disk, s *store.Store) {
	t.Helper()
	if s.Memory() {
		t.Error("nothing is written any more")
	}
	d.Room(room)
	before := len(records(t, d))
	keep(t, s, 0, set("\x01z\x00", 900, "more"))
	is(t, s.Sync(), api.OK)
	is(t, d.Crash(nil), api.OK)
	if n := len(records(t, d)); n != before+1 {
		t.Errorf("the log had %d records, and has %d", before, n)
	}
}

// start is a store of three sets, one of which is not fresh from 20 on.
func start(t *testing.T) (d *files.Disk, s *store.Store, a, old, no api.Set) {
	t.Helper()
	d, s = made(t, most)
	a, old, no = set(www, 500, "a"), set(example, 20, "old"), nothing(great, 300)
	keep(t, s, 0, a, old, no)
	is(t, s.Sync(), api.OK)
	return d, s, a, old, no
}

// A write that goes wrong at its first part: all sets that are fresh are written anew, in order, the new one among them.
func TestPutPart(t *testing.T) {
	for n := range 60 {
		d, s, a, old, no := start(t)
		x := set(root, 90, "x")
		is(t, d.Short(n), api.OK)
		keep(t, s, 20, x)
		has(t, s, x, old, no, a)
		written(t, d, put(x), put(no), put(a))
		is(t, d.Crash(nil), api.OK)
		has(t, open(t, d.Copy(), 0, most), x, no, a)
		goesOn(t, d, s)
	}
}

// The same where the first part is a delete: it is written no more, nor needs to be.
func TestPutDropPart(t *testing.T) {
	d, s, a, old, _ := start(t)
	is(t, d.Short(1), api.OK)
	x := with(set(great, 90, "x"), func(s *api.Set) { s.Type = 778 })
	keep(t, s, 19, x)
	has(t, s, old, a, x)
	written(t, d, put(old), put(a), put(x))
	goesOn(t, d, s)
}

// A Delete takes all sets for fresh.
func TestDeletePart(t *testing.T) {
	d, s, a, old, no := start(t)
	keep(t, s, 100, set(root, 110, "x"))
	is(t, s.Compact(100), api.OK)
	is(t, d.Short(1), api.OK)
	is(t, s.Delete(root, textType, 1), api.OK)
	has(t, s, old, no, a)
	written(t, d, put(old), put(no), put(a))
	goesOn(t, d, s)
}

// A disk that is full: nothing is written any more, and what was synced stays.
func TestFull(t *testing.T) {
	d, s, a, old, no := start(t)
	log := puts(a, old, no)
	is(t, d.Room(d.Used()), api.OK)
	x := set(root, 90, "x")
	keep(t, s, 0, x)
	written(t, d, log...)
	has(t, s, x, old, no, a)
	memoryOnly(t, d, s, x, old, no, a)
	written(t, d, log...)
	has(t, open(t, d, 0, most), old, no, a)
}

// A disk with room for the delete, but not for the put.
func TestFullBetween(t *testing.T) {
	d, s, a, old, no := start(t)
	x := set(great, 90, "x")
	frame := 40 + len(bytesOf(drop(great, 0, 1)))
	is(t, d.Room(d.Used()+frame), api.OK)
	keep(t, s, 0, x)
	written(t, d, put(a), put(old), put(no), drop(great, 0, 1))
	// The delete was not synced, so a crash takes it away.
	c := d.Copy()
	is(t, c.Sync("s00000001"), api.OK)
	has(t, open(t, c, 0, most), old, a)
	memoryOnly(t, d, s, old, x)
	has(t, open(t, d, 0, most), old, no, a)
	d, s, _, _, _ = start(t)
	is(t, d.Room(d.Used()+frame+40+size(x)), api.OK)
	keep(t, s, 0, x)
	written(t, d, put(a), put(old), put(no), drop(great, 0, 1), put(x))
	goesOn(t, d, s)
}

// A Delete on a full disk.
func TestFullDelete(t *testing.T) {
	d, s, a, old, no := start(t)
	is(t, d.Room(d.Used()), api.OK)
	is(t, s.Delete(example, textType, 1), api.OK)
	memoryOnly(t, d, s, no, a)
	has(t, open(t, d, 0, most), old, no, a)
}

// Calls that write nothing go wrong by themselves: a full disk, a dead one.
func TestFullCompact(t *testing.T) {
	d, s, a, old, no := start(t)
	is(t, d.Room(d.Used()), api.OK)
	is(t, s.Compact(0), api.ErrFull)
	has(t, s, old, no, a)
	written(t, d, put(a), put(old), put(no))
	goesOn(t, d, s)
	is(t, d.Fuse(0), api.OK)
	is(t, s.Sync(), api.ErrDead)
	is(t, s.Compact(0), api.ErrDead)
	if s.Memory() {
		t.Error("nothing is written any more, though nothing was to be written")
	}
	// The log has stopped, so the next write is the last one.
	d.Crash(nil)
	is(t, s.Sync(), api.ErrDead)
	is(t, s.Delete("\x01z\x00", textType, 1), api.OK)
	memoryOnly(t, d, s, old, no, a)
}

// faults is calls that write, and what goes wrong ahead of them beside the fuse.
func faults() map[string]func(t *testing.T, b *both) {
	short := func(b *both) { b.disks(func(d *files.Disk) { d.Short(5) }) }
	return map[string]func(t *testing.T, b *both){
		"put":         func(t *testing.T, b *both) { b.put(t, set(root, 90, "x"), 30) },
		"again":       func(t *testing.T, b *both) { b.put(t, set(www, 90, "x"), 30) },
		"take":        func(t *testing.T, b *both) { b.put(t, none(www, 90), 30) },
		"delete":      func(t *testing.T, b *both) { b.drop(t, www, textType, 1) },
		"put part":    func(t *testing.T, b *both) { short(b); b.put(t, set(root, 90, "x"), 30) },
		"take part":   func(t *testing.T, b *both) { short(b); b.put(t, none(www, 90), 30) },
		"delete part": func(t *testing.T, b *both) { short(b); b.drop(t, www, textType, 1) },
		"long":        func(t *testing.T, b *both) { b.put(t, sized(1000, 90, 4000), 30) },
		"compact":     func(t *testing.T, b *both) { b.compact(t, 30) },
		"sync":        func(t *testing.T, b *both) { b.sync(t) },
	}
}

// P10.2, P10.4, P10.6: a disk that stops behind each change that a call makes, and all calls from then on; behind a crash there is what was there at the last Sync, or what the call was to leave.
func TestFuses(t *testing.T) {
	first := logged(t, put(set(www, 500, "a")), put(set(example, 20, "old")), put(nothing(great, 300)), put(sized(2000, 400, 3500)), put(sized(2001, 400, 3900)), put(sized(2002, 400, 300)))
	for what, call := range faults() {
		whole := 0
		c := bothOf(t, first, 0, 9000)
		whole = burned(t, c.d, func() { c.e.Fuse(long); call(t, c) })
		for fuse := range whole + 2 {
			t.Run(fmt.Sprint(what, " ", fuse), func(t *testing.T) {
				b := bothOf(t, first, 0, 9000)
				before := b.s.Sets()
				b.disks(func(d *files.Disk) { d.Fuse(fuse) })
				call(t, b)
				writes := what != "sync" && what != "compact"
				if b.s.Memory() != (writes && fuse < whole) {
					t.Errorf("Memory is %v", b.s.Memory())
				}
				after := b.s.Sets()
				b.put(t, sized(1500, 600, 50), 30)
				b.drop(t, root, 1500, 1)
				b.sync(t)
				b.compact(t, 30)
				b.disks(func(d *files.Disk) { d.Crash(nil) })
				b.put(t, sized(1500, 600, 50), 30)
				b.sync(t)
				b.open(t, 30, 1<<40)
				l := slices.DeleteFunc(b.s.Sets(), func(s api.Set) bool { return s.Type == 1500 })
				for _, s := range l {
					if !holds(before, s) && !holds(after, s) {
						t.Errorf("nobody put%s", told(put(s)))
					}
				}
				for _, s := range before {
					if isFresh(s, 30) && holds(after, s) && !holds(l, s) {
						t.Errorf("there is no more%s", told(put(s)))
					}
				}
			})
		}
	}
}

// holds tells whether a set is among others, as it is.
func holds(l []api.Set, s api.Set) bool {
	return slices.ContainsFunc(l, func(x api.Set) bool { return told(put(x)) == told(put(s)) })
}

// filled is a store whose log has just so many bytes, by puts of one set again and again, and one that is not fresh from 20 on.
func filled(t *testing.T, most, bytes int) (*files.Disk, *store.Store, int) {
	t.Helper()
	d, s := made(t, most)
	keep(t, s, 0, sized(1000, 20, 60))
	bytes -= 40 + 60
	count := 1
	for ; bytes > 0; count++ {
		next := min(bytes, 40+500)
		if bytes-next > 0 && bytes-next < 40+60 {
			next -= 100
		}
		keep(t, s, 0, sized(2000, 500, next-40))
		bytes -= next
	}
	return d, s, count
}

// A log that is above twice the sum of most and Segment behind a write is written anew; one byte less is not above.
func TestGreatLog(t *testing.T) {
	const most, twice = 1000, 2 * (1000 + 8000)
	old, last := sized(1000, 20, 60), func(s *store.Store) api.Set { x, _ := s.Lookup(root, 2000, 1, 0); return x }
	// A write that comes to just twice, then one byte more.
	d, s, count := filled(t, most, twice-40-30)
	keep(t, s, 20, sized(3000, 500, 30))
	if n := len(records(t, d)); n != count+1 {
		t.Errorf("the log has %d records, not %d", n, count+1)
	}
	d, s, _ = filled(t, most, twice-40-30)
	keep(t, s, 20, sized(3000, 500, 31))
	written(t, d, put(last(s)), put(sized(3000, 500, 31)))
	has(t, s, old, last(s), sized(3000, 500, 31))
	goesOn(t, d, s)
	// Of a Delete all sets are fresh.
	d, s, _ = filled(t, most, twice-40)
	is(t, s.Delete(root, 2000, 1), api.OK)
	written(t, d, put(old))
	has(t, s, old)
	goesOn(t, d, s)
	// Neither Sync nor a Put that changes nothing is a write.
	d, s, count = filled(t, most, twice)
	low := with(sized(2000, 500, 30), func(s *api.Set) { s.Rank = api.RankGlue })
	keep(t, s, 0, low)
	is(t, s.Sync(), api.OK)
	if n := len(records(t, d)); n != count {
		t.Errorf("the log has %d records, not %d", n, count)
	}
	has(t, open(t, d, 0, 0))
	if n := len(records(t, d)); n != count {
		t.Errorf("behind Open the log has %d records, not %d", n, count)
	}
}

// If that goes wrong it plays no part.
func TestGreatLogFull(t *testing.T) {
	const most, twice = 1000, 2 * (1000 + 8000)
	d, s, count := filled(t, most, twice)
	for i := range 3 {
		is(t, d.Room(d.Used()+40+30), api.OK)
		keep(t, s, 0, sized(3000, 500, 30))
		if n := len(records(t, d)); n != count+1+i || s.Memory() {
			t.Errorf("the log has %d records, not %d; memory %v", n, count+1+i, s.Memory())
		}
	}
	is(t, d.Room(room), api.OK)
	keep(t, s, 0, sized(3000, 500, 30))
	if n := len(records(t, d)); n != 3 {
		t.Errorf("the log has %d records", n)
	}
	goesOn(t, d, s)
}

// Where a write ends by nothing being written any more, that holds for a log that is above, too.
func TestGreatLogMemory(t *testing.T) {
	const most, twice = 1000, 2 * (1000 + 8000)
	d, s, _ := filled(t, most, twice)
	is(t, d.Room(d.Used()+40+30), api.OK)
	keep(t, s, 0, sized(3000, 500, 30))
	is(t, d.Room(d.Used()), api.OK)
	c := d.Copy()
	p, e := plainOpen(c, 0, most)
	is(t, e, api.OK)
	got := burned(t, d, func() { keep(t, s, 0, sized(3000, 500, 30)) })
	want := burned(t, c, func() { is(t, p.put(sized(3000, 500, 30), 0), api.OK) })
	if got != want {
		t.Errorf("%d changes of the disk, not %d", got, want)
	}
	memoryOnly(t, d, s, sized(1000, 20, 60), p.sets[1], sized(3000, 500, 30))
}

// Nor does it if the disk stops within it: what was synced is there behind a crash.
func TestGreatLogDead(t *testing.T) {
	const most, twice = 1000, 2 * (1000 + 8000)
	more := sized(3000, 500, 30)
	d, s, _ := filled(t, most, twice)
	whole := burned(t, d, func() { keep(t, s, 0, more) })
	for fuse := range whole + 1 {
		d, s, _ := filled(t, most, twice)
		is(t, s.Sync(), api.OK)
		before := s.Sets()
		is(t, d.Fuse(fuse), api.OK)
		keep(t, s, 0, more)
		has(t, s, append(slices.Clone(before), more)...)
		// Behind the first change the entry stands in the log.
		if s.Memory() != (fuse == 0) {
			t.Errorf("with a fuse of %d Memory is %v", fuse, s.Memory())
		}
		is(t, d.Crash(nil), api.OK)
		l := open(t, d, 0, most).Sets()
		if !holds(l, before[0]) || !holds(l, before[1]) || len(l) > 2 && !holds(l, more) || len(l) > 3 {
			t.Errorf("with a fuse of %d behind a crash there are%s", fuse, told(puts(l...)...))
		}
	}
}

// A log that takes no further segment is written anew.
func TestSegments(t *testing.T) {
	d := fresh(t)
	l, _, e := seglog.Open(d)
	is(t, e, api.OK)
	rec := bytesOf(put(sized(1000, 90, 3960)))
	for len(l.Segments()) < 500 || l.Bytes() < 500*8000 {
		is(t, l.Append(rec), api.OK)
	}
	s := open(t, d, 0, most)
	keep(t, s, 0, sized(2000, 90, 30))
	written(t, d, put(sized(1000, 90, 3960)), put(sized(2000, 90, 30)))
	goesOn(t, d, s)
}
