package store_test

import (
	"math/rand/v2"
	"slices"
	"strings"
	"testing"

	"cicerone/api"
	"cicerone/files"
)

// one is one of a list.
func one[T any](r *rand.Rand, l ...T) T { return l[r.IntN(len(l))] }

// drawnKey is one of few keys.
func drawnKey(r *rand.Rand) (name string, kind, class int) {
	return one(r, www, www, great, example, "\x07eXample\x00", root, "\x01a\x00"), one(r, textType, textType, 778, 0), one(r, 1, 1, 1, 3)
}

// drawnSet is a set of one of few keys, that expires sometime behind now; few of them can't be kept.
func drawnSet(r *rand.Rand, now int) api.Set {
	name, kind, class := drawnKey(r)
	expires := now + one(r, 1, 2, 5, 10, 10, 20, 50, 0)
	s := set(name, expires, strings.Repeat("x", one(r, 0, 1, 10, 50, 100, 300, 900)))
	if kind == 0 {
		s = nothing(name, expires)
	} else if s.Type = kind; r.IntN(4) == 0 {
		s = none(name, expires)
	}
	s.Class, s.Rank = class, one(r, 1, 2, 3, 3, 3)
	if r.IntN(60) == 0 {
		s.Rank = 0
	}
	return s
}

// fault has both disks fail in a drawn way; it tells whether they have crashed.
func (b *both) fault(r *rand.Rand) bool {
	what, space, n := r.IntN(12), b.d.Used()+r.IntN(400), r.IntN(60)
	tails := drawnTails(r, b.d)
	b.disks(func(d *files.Disk) {
		switch what {
		case 0, 1:
			d.Room(space)
		case 2, 3, 4, 5:
			d.Room(room)
		case 6, 7, 8:
			d.Short(n)
		case 9:
			d.Fuse(n / 4)
		case 10, 11:
			d.Crash(tails)
		}
	})
	return what >= 10
}

// drawnTails keep of each file nothing, all, or some of what is not synced.
func drawnTails(r *rand.Rand, d *files.Disk) []api.Tail {
	var l []api.Tail
	for _, name := range d.List() {
		b, _ := d.Read(name)
		loose := len(b) - d.Synced(name)
		l = append(l, api.Tail{Name: name, Keep: one(r, 0, loose, r.IntN(loose+1)), Turn: r.IntN(3) == 0})
	}
	return l
}

// P10.1 to P10.5, P10.7: whatever is called, on whatever disk, a store and a plain one answer the same, and their disks have the same.
func TestDrawn(t *testing.T) {
	for seed := range uint64(150) {
		r := rand.New(rand.NewPCG(seed, 10))
		now, most := 0, one(r, 100, 200, 300, 500, 1000, 1000, 4000, 1<<40)
		b := bothOf(t, fresh(t), 0, most)
		for range 120 {
			now += one(r, 0, 0, 0, 1, 1, 3, -1)
			switch r.IntN(16) {
			case 0:
				b.sync(t)
			case 1:
				if r.IntN(3) == 0 {
					b.compact(t, now)
				}
			case 2, 3:
				name, kind, class := drawnKey(r)
				b.drop(t, name, kind, class)
			case 4:
				if b.fault(r) || r.IntN(6) == 0 {
					b.disks(func(d *files.Disk) { d.Room(room); d.Crash(nil) })
					b.open(t, now, one(r, most, most, most/2, 2*min(most, 1<<30)))
				}
			case 5, 6:
				name, kind, class := drawnKey(r)
				x, ok := b.s.Lookup(name, kind, class, now)
				if want := b.p.lookup(name, kind, class, now); ok != (len(want) > 0) || ok && told(put(x)) != told(put(want[0])) {
					t.Errorf("Lookup is%s, %v, not%s", told(put(x)), ok, told(puts(want...)...))
				}
			default:
				b.put(t, drawnSet(r, now), now)
			}
			if t.Failed() {
				t.Fatalf("seed %d", seed)
			}
		}
	}
}

// known is what a store must have, and what it may.
type known struct {
	safe, all []api.Set
}

// lose has those not be safe that a call took away: what the store has no more as it was.
func (k *known) lose(now []api.Set) {
	k.safe = slices.DeleteFunc(k.safe, func(s api.Set) bool { return !holds(now, s) })
}

// run has a store go through drawn calls, at times that rise, until the disk stops; it tells what there must be behind a crash, and when that is.
func run(t *testing.T, r *rand.Rand, d *files.Disk, most int) (k known, now int) {
	t.Helper()
	s := open(t, d, 0, most)
	for range 25 {
		now += r.IntN(3)
		if r.IntN(8) == 0 {
			d.Short(r.IntN(50))
		}
		switch r.IntN(12) {
		case 0, 1, 2:
			if s.Sync() == api.OK && !s.Memory() {
				k.safe = s.Sets()
			}
		case 3:
			s.Compact(now)
		case 4:
			name, kind, class := drawnKey(r)
			s.Delete(name, kind, class)
		default:
			x := drawnSet(r, now)
			if s.Put(x, now) == api.OK {
				k.all = append(k.all, x)
			}
		}
		k.lose(s.Sets())
		if d.Copy().Sync("none") == api.ErrDead {
			break
		}
	}
	return k, now
}

// P10.6, P10.7, P2: a crash behind each change of drawn calls.
func TestCrashes(t *testing.T) {
	for seed := range uint64(40) {
		most := []int{150, 400, 1200, 1 << 40}[seed%4]
		for fuse, whole := 0, false; !whole; fuse++ {
			d, _ := made(t, most)
			is(t, d.Fuse(fuse), api.OK)
			k, now := run(t, rand.New(rand.NewPCG(seed, 106)), d, most)
			whole = d.Sync("none") != api.ErrDead
			for range 3 {
				c := d.Copy()
				is(t, c.Crash(drawnTails(rand.New(rand.NewPCG(seed, uint64(fuse))), c)), api.OK)
				behind(t, c, now, most, k)
			}
			if t.Failed() {
				t.Fatalf("seed %d, fuse %d", seed, fuse)
			}
		}
	}
}

// behind asks what there is behind a crash: what must be is there, and all that is was put.
func behind(t *testing.T, d *files.Disk, now, most int, k known) {
	t.Helper()
	small := open(t, d.Copy(), now, most)
	if small.Bytes() > most {
		t.Errorf("the sets have %d bytes, more than %d", small.Bytes(), most)
	}
	// With room for all nothing is pushed out.
	l := open(t, d, now, 1<<40).Sets()
	for _, s := range k.safe {
		if isFresh(s, now) && !holds(l, s) {
			t.Errorf("at %d there is no more%s\nbut there are%s", now, told(put(s)), told(puts(l...)...))
		}
	}
	for _, s := range append(l, small.Sets()...) {
		if !holds(k.all, s) || !isFresh(s, now) {
			t.Errorf("at %d there is%s\nwhich nobody put, or is not fresh", now, told(put(s)))
		}
	}
}

// From arguments alone: the same calls leave the same, whichever disk they are made on.
func TestTwice(t *testing.T) {
	var shots []string
	for range 3 {
		d := fresh(t)
		s := open(t, d, 0, 1000)
		r := rand.New(rand.NewPCG(10, 78))
		for now := range 300 {
			s.Put(drawnSet(r, now), now)
		}
		shots = append(shots, shot(d)+told(puts(s.Sets()...)...))
	}
	if shots[0] != shots[1] || shots[0] != shots[2] {
		t.Error("runs of the same calls have left something else")
	}
}
