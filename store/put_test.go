package store_test

import (
	"math"
	"strings"
	"testing"

	"cicerone/api"
	"cicerone/store"
)

// P10.2: a set that is put is there, and written; one of its key is there no more.
func TestPut(t *testing.T) {
	d, s := made(t, most)
	a := set(www, 50, "b", "a")
	b := with(set(great, 40, "c"), func(s *api.Set) { s.Kind = api.SetData })
	keep(t, s, 10, a)
	has(t, s, a)
	written(t, d, put(a))
	keep(t, s, 10, b)
	has(t, s, b)
	written(t, d, put(a), put(b))
	others := sets(set(example, 50, "x"), b, with(a, func(s *api.Set) { s.Class = 3 }), with(a, func(s *api.Set) { s.Type = 778 }))
	keep(t, s, 10, others[3], others[2], others[0])
	has(t, s, others...)
	keep(t, s, 10, b)
	has(t, s, others...)
	written(t, d, put(a), put(b), put(others[3]), put(others[2]), put(others[0]), put(b))
	has(t, open(t, d, 10, most), others...)
}

// P10.2: sets that can't be kept, and such as are not fresh.
func TestPutWrong(t *testing.T) {
	d, s := made(t, most)
	keep(t, s, 0, set(www, 50, "a"))
	wrong := func(x api.Set, now int) {
		t.Helper()
		unchanged(t, d, s, api.ErrArg, func() api.Errno { return s.Put(x, now) })
	}
	good := set(www, 90, "b")
	for _, change := range []func(s *api.Set){
		func(s *api.Set) { s.Name = "" }, func(s *api.Set) { s.Name = noName }, func(s *api.Set) { s.Type = 0 }, func(s *api.Set) { s.Type = -1 }, func(s *api.Set) { s.Type = 65536 },
		func(s *api.Set) { s.Type = api.TypeA }, func(s *api.Set) { s.Class = -1 }, func(s *api.Set) { s.Class = 65536 }, func(s *api.Set) { s.Rank = 0 }, func(s *api.Set) { s.Rank = 4 },
		func(s *api.Set) { s.Kind = 3 }, func(s *api.Set) { s.Kind = api.SetNone }, func(s *api.Set) { s.Kind = api.SetNothing }, func(s *api.Set) { s.Zone = root }, func(s *api.Set) { s.Datas = nil },
		func(s *api.Set) { s.Expires = -1 }, func(s *api.Set) { s.Expires = 1<<40 + 1 }, func(s *api.Set) { s.Expires = math.MaxInt }, func(s *api.Set) { s.Datas = [][]byte{make([]byte, 4000)} },
		func(s *api.Set) { *s = nothing(www, 90); s.Type = textType }, func(s *api.Set) { *s = none(www, 90); s.Zone = "" }, func(s *api.Set) { *s = none(www, 90); s.Datas = nil },
	} {
		wrong(with(good, change), 0)
	}
	wrong(api.Set{}, 0)
	wrong(set(root, 90, strings.Repeat("x", 4001-22)), 0)
	wrong(good, 90)
	wrong(good, 91)
	wrong(good, math.MaxInt)
	wrong(with(good, func(s *api.Set) { s.Expires = 0 }), math.MinInt)
	wrong(with(good, func(s *api.Set) { s.Expires = 1<<40 - api.MaxTTL }), math.MaxInt)
	keep(t, s, 89, good)
	keep(t, s, math.MinInt, with(good, func(s *api.Set) { s.Expires = 1 }))
	keep(t, s, math.MaxInt, with(good, func(s *api.Set) { s.Expires = 1<<40 - api.MaxTTL + 1 }))
	keep(t, s, 1<<40, set(www, 1<<40, "a"), set(root, 1<<40, strings.Repeat("x", 4000-22)))
}

// P10.2: a set that is as long as all may be is kept, a longer one is not; that comes behind all that is wrong with it.
func TestPutFull(t *testing.T) {
	for _, size := range []int{22, 23, 500, 4000} {
		d, s := made(t, size)
		keep(t, s, 0, sized(1000, 50, size))
		if size < 4000 {
			unchanged(t, d, s, api.ErrFull, func() api.Errno { return s.Put(sized(1000, 50, size+1), 49) })
			unchanged(t, d, s, api.ErrArg, func() api.Errno { return s.Put(sized(1000, 50, size+1), 50) })
			low := with(sized(1000, 50, size+1), func(s *api.Set) { s.Rank = api.RankGlue })
			unchanged(t, d, s, api.ErrFull, func() api.Errno { return s.Put(low, 0) })
		}
	}
	d, s := made(t, 0)
	unchanged(t, d, s, api.ErrFull, func() api.Errno { return s.Put(sized(1000, 50, 22), 0) })
	unchanged(t, d, s, api.ErrArg, func() api.Errno { return s.Put(api.Set{}, 0) })
}

// P10.2: nothing takes the place of a fresh set of a greater rank.
func TestPutRank(t *testing.T) {
	ranked := func(x api.Set, rank int) api.Set { return with(x, func(s *api.Set) { s.Rank = rank }) }
	for old := 1; old <= 3; old++ {
		for rank := 1; rank <= 3; rank++ {
			for _, x := range sets(set(great, 900, "b"), none(great, 900)) {
				d, s := made(t, most)
				first, next := ranked(set(www, 50, "a"), old), ranked(x, rank)
				keep(t, s, 0, first)
				if rank < old {
					unchanged(t, d, s, api.OK, func() api.Errno { return s.Put(next, 49) })
					written(t, d, put(first))
					keep(t, s, 50, next)
				} else {
					keep(t, s, 49, next)
				}
				has(t, s, next)
				written(t, d, put(first), put(next))
				// Another key's is none of its own.
				keep(t, s, 50, with(set(www, 70, "c"), func(s *api.Set) { s.Type, s.Rank = 778, 1 }))
			}
		}
	}
}

// P10.2: a set that says there is no such name, and sets of types of the name.
func TestPutNothing(t *testing.T) {
	a, b := set(www, 50, "a"), with(set(www, 50, "b"), func(s *api.Set) { s.Type = 778 })
	other, class := nothing(example, 60), with(nothing(www, 60), func(s *api.Set) { s.Class = 3 })
	for _, x := range sets(set(great, 90, "c"), none(great, 90), with(set(great, 90, "c"), func(s *api.Set) { s.Rank = api.RankGlue })) {
		d, s := made(t, most)
		keep(t, s, 0, a, b, other, class, nothing(www, 60))
		has(t, s, other, nothing(www, 60), class, a, b)
		keep(t, s, 0, nothing(great, 70))
		has(t, s, other, nothing(great, 70), class, a, b)
		log := puts(a, b, other, class, nothing(www, 60), nothing(great, 70))
		written(t, d, log...)
		x.Type = 779
		keep(t, s, 0, x)
		has(t, s, other, class, a, b, x)
		log = append(log, drop(great, 0, 1), put(x))
		written(t, d, log...)
		keep(t, s, 0, x)
		has(t, s, other, class, a, b, x)
		written(t, d, append(log, put(x))...)
		has(t, open(t, d, 0, most), other, class, a, b, x)
	}
}

// P10.2: one that is not fresh any more is taken away, too; and a set that is not taken takes none away.
func TestPutNothingStale(t *testing.T) {
	d, s := made(t, most)
	keep(t, s, 0, nothing(www, 5), set(www, 90, "a"))
	has(t, s, set(www, 90, "a"))
	keep(t, s, 0, nothing(www, 5))
	unchanged(t, d, s, api.OK, func() api.Errno {
		return s.Put(with(set(www, 80, "b"), func(s *api.Set) { s.Rank = api.RankRefer }), 10)
	})
	unchanged(t, d, s, api.ErrArg, func() api.Errno { return s.Put(set(www, 80), 10) })
	has(t, s, nothing(www, 5), set(www, 90, "a"))
	keep(t, s, 10, set(great, 80, "b"))
	has(t, s, set(great, 80, "b"))
	written(t, d, put(nothing(www, 5)), drop(www, 0, 1), put(set(www, 90, "a")), put(nothing(www, 5)), drop(great, 0, 1), put(set(great, 80, "b")))
}

// P10.4: the set of the key ahead of that which says there is no such name; either as long as it is fresh.
func TestLookup(t *testing.T) {
	_, s := made(t, most)
	a, no := set(www, 50, "a"), nothing(great, 60)
	class := with(set(www, 55, "c"), func(s *api.Set) { s.Class = 3 })
	keep(t, s, 0, a, no, class, none(example, 70))
	for _, c := range []struct {
		name             string
		kind, class, now int
		want             []api.Set
	}{
		{www, textType, 1, 0, sets(a)}, {great, textType, 1, 49, sets(a)}, {www, textType, 1, -9, sets(a)},
		{www, textType, 1, 50, sets(no)}, {www, textType, 1, 59, sets(no)}, {www, textType, 1, 60, nil}, {www, textType, 1, math.MaxInt, nil},
		{www, 778, 1, 0, sets(no)}, {great, 1, 1, 59, sets(no)}, {www, 65535, 1, 60, nil}, {www, 0, 1, 0, sets(no)}, {www, 0, 1, 60, nil},
		{www, textType, 3, 54, sets(class)}, {www, textType, 3, 55, nil}, {www, 778, 3, 0, nil}, {www, 0, 3, 0, nil}, {www, textType, 0, 0, nil},
		{example, textType, 1, 69, sets(none(example, 70))}, {example, textType, 1, 70, nil}, {example, 778, 1, 0, nil}, {root, textType, 1, 0, nil},
		{"", textType, 1, 0, nil}, {noName, textType, 1, 0, nil}, {"www.example.", textType, 1, 0, nil}, {www, textType, -1, 0, nil}, {www, textType, 65537, 0, nil},
		{example, -1, 1, 0, nil}, {example, 65536 + textType, 1, 0, nil}, {strings.Repeat("x", 1<<20), math.MinInt, math.MaxInt, math.MinInt, nil},
	} {
		got, ok := s.Lookup(c.name, c.kind, c.class, c.now)
		want := append(c.want, api.Set{})[0]
		if ok != (len(c.want) > 0) || told(put(got)) != told(put(want)) {
			t.Errorf("Lookup of %.20q, %d, %d at %d is%s, %v", c.name, c.kind, c.class, c.now, told(put(got)), ok)
		}
	}
	has(t, s, none(example, 70), no, a, class)
}

// P10.4: what is deleted is there no more, fresh or not; a delete is written.
func TestDelete(t *testing.T) {
	d, s := made(t, most)
	a, no, old := set(www, 50, "a"), nothing(www, 60), set(example, 5, "x")
	keep(t, s, 0, a, no, old)
	log := puts(a, no, old)
	absent := func(n string, kind, class int) {
		t.Helper()
		unchanged(t, d, s, api.ErrAbsent, func() api.Errno { return s.Delete(n, kind, class) })
	}
	absent(www, 778, 1)
	absent(www, textType, 3)
	absent(example, 0, 1)
	absent(root, textType, 1)
	absent(root, 0, 0)
	absent(root, 65535, 65535)
	is(t, s.Delete(great, textType, 1), api.OK)
	has(t, s, old, no)
	absent(www, textType, 1)
	is(t, s.Delete(example, textType, 1), api.OK)
	has(t, s, no)
	absent(example, textType, 1)
	is(t, s.Delete(www, 0, 1), api.OK)
	has(t, s)
	absent(www, 0, 1)
	written(t, d, append(log, drop(great, textType, 1), drop(example, textType, 1), drop(www, 0, 1))...)
	has(t, open(t, d, 0, most))
	keep(t, s, 0, a)
	has(t, open(t, d, 0, most), a)
}

// P10.4: what is no key can't be deleted.
func TestDeleteWrong(t *testing.T) {
	d, s := made(t, most)
	keep(t, s, 0, set(www, 50, "a"))
	wrong := func(n string, kind, class int) {
		t.Helper()
		unchanged(t, d, s, api.ErrArg, func() api.Errno { return s.Delete(n, kind, class) })
	}
	for _, n := range []string{"", noName, "www.example.", strings.Repeat("\x01a", 128) + "\x00"} {
		wrong(n, textType, 1)
	}
	for _, n := range []int{math.MinInt, -1, 65536, 65536 + textType, math.MaxInt} {
		wrong(www, n, 1)
		wrong(www, textType, n)
	}
}

// P10.3: what a Put pushes out: what is not fresh, in order, then what expires first, but never its own.
func TestPush(t *testing.T) {
	// Types are the order, sizes 100 each.
	x := func(kind, expires int) api.Set { return sized(kind, expires, 100) }
	start := sets(x(1000, 90), x(2000, 8), x(3000, 20), x(4000, 7), x(5000, 20), x(6000, 60))
	for _, c := range []struct {
		now  int
		own  api.Set
		want []api.Set
	}{
		// There is room.
		{0, sized(7000, 50, 99), append(start[:6:6], sized(7000, 50, 99))},
		{0, x(7000, 50), append(start[:6:6], x(7000, 50))},
		// All are fresh: of those that expire first the first one in order, again and again.
		{0, sized(7000, 50, 101), sets(start[0], start[1], start[2], start[4], start[5], sized(7000, 50, 101))},
		{0, sized(7000, 50, 201), sets(start[0], start[2], start[4], start[5], sized(7000, 50, 201))},
		{0, sized(7000, 50, 301), sets(start[0], start[4], start[5], sized(7000, 50, 301))},
		{0, sized(7000, 50, 401), sets(start[0], start[5], sized(7000, 50, 401))},
		{0, sized(7000, 50, 500), sets(start[0], start[5], sized(7000, 50, 500))},
		{0, sized(7000, 50, 501), sets(start[0], sized(7000, 50, 501))},
		{0, sized(7000, 50, 600), sets(start[0], sized(7000, 50, 600))},
		{0, sized(7000, 50, 601), sets(sized(7000, 50, 601))},
		{0, sized(7000, 50, 700), sets(sized(7000, 50, 700))},
		// Its own is the first to expire, and stays.
		{0, sized(7000, 1, 101), sets(start[0], start[1], start[2], start[4], start[5], sized(7000, 1, 101))},
		{0, sized(500, 7, 101), sets(sized(500, 7, 101), start[0], start[1], start[2], start[4], start[5])},
		{0, sized(2500, 20, 401), sets(start[0], sized(2500, 20, 401), start[5])},
		{0, sized(7000, 1, 601), sets(sized(7000, 1, 601))},
		// What is not fresh goes in order, whichever expires first; no more of it than must.
		{7, sized(7000, 50, 101), sets(start[0], start[1], start[2], start[4], start[5], sized(7000, 50, 101))},
		{8, x(7000, 50), append(start[:6:6], x(7000, 50))},
		{8, sized(7000, 50, 101), sets(start[0], start[2], start[3], start[4], start[5], sized(7000, 50, 101))},
		{8, sized(7000, 50, 201), sets(start[0], start[2], start[4], start[5], sized(7000, 50, 201))},
		{8, sized(7000, 50, 301), sets(start[0], start[4], start[5], sized(7000, 50, 301))},
		{30, sized(7000, 50, 101), sets(start[0], start[2], start[3], start[4], start[5], sized(7000, 50, 101))},
		{30, sized(7000, 50, 301), sets(start[0], start[4], start[5], sized(7000, 50, 301))},
		{30, sized(7000, 50, 501), sets(start[0], sized(7000, 50, 501))},
		// Its own has taken a place.
		{0, sized(3000, 50, 200), sets(start[0], start[1], sized(3000, 50, 200), start[3], start[4], start[5])},
		{0, sized(3000, 50, 201), sets(start[0], start[1], sized(3000, 50, 201), start[4], start[5])},
		{8, sized(4000, 50, 201), sets(start[0], start[2], sized(4000, 50, 201), start[4], start[5])},
	} {
		d, s := made(t, 700)
		keep(t, s, 0, start...)
		keep(t, s, c.now, c.own)
		has(t, s, c.want...)
		// Nothing of it is written.
		written(t, d, puts(append(start[:6:6], c.own)...)...)
	}
}

// P10.3: times to their ends tell what goes first.
func TestPushLate(t *testing.T) {
	const last = 1 << 40
	l := sets(sized(1000, last, 100), sized(2000, last-1, 100), sized(3000, last-2, 100), sized(4000, last, 100))
	for size, left := range map[int][]api.Set{100: l, 101: sets(l[0], l[1], l[3]), 201: sets(l[0], l[3]), 301: sets(l[3]), 401: nil} {
		for _, now := range []int{0, math.MaxInt} {
			_, s := made(t, 500)
			keep(t, s, now, l...)
			keep(t, s, now, sized(9000, last, size))
			has(t, s, append(left[:len(left):len(left)], sized(9000, last, size))...)
		}
	}
}

// P10.3: a set that a Put takes away makes room ahead of pushing.
func TestPushNothing(t *testing.T) {
	no, a := nothing(root, 90), sized(2000, 1, 100)
	d, s := made(t, size(no)+150)
	keep(t, s, 0, a, no)
	own := sized(1000, 50, size(no)+50)
	keep(t, s, 0, own)
	has(t, s, own, a)
	written(t, d, put(a), put(no), drop(root, 0, 1), put(own))
}

// P10.5, P10.3: what was pushed out is there again behind Open, if nothing has taken it away.
func TestPushAgain(t *testing.T) {
	d, s := made(t, 250)
	keep(t, s, 0, sized(1000, 20, 100), sized(2000, 30, 100), sized(3000, 40, 100))
	has(t, s, sized(2000, 30, 100), sized(3000, 40, 100))
	unchanged(t, d, s, api.ErrAbsent, func() api.Errno { return s.Delete(root, 1000, 1) })
	has(t, open(t, d, 0, 300), sized(1000, 20, 100), sized(2000, 30, 100), sized(3000, 40, 100))
	has(t, open(t, d, 0, 299), sized(2000, 30, 100), sized(3000, 40, 100))
}

// P10.5: Sync makes what was put durable.
func TestSync(t *testing.T) {
	d, s := made(t, most)
	keep(t, s, 0, set(www, 50, "a"))
	c := d.Copy()
	is(t, c.Crash(nil), api.OK)
	has(t, open(t, c, 0, most))
	if n := burned(t, d, func() { is(t, s.Sync(), api.OK) }); n != 1 {
		t.Errorf("Sync makes %d changes", n)
	}
	keep(t, s, 0, set(example, 50, "b"))
	is(t, d.Crash(nil), api.OK)
	has(t, open(t, d, 0, most), set(www, 50, "a"))
}

// P10.5: Compact writes all that is fresh, in order, and nothing else; all stay there.
func TestCompact(t *testing.T) {
	d, s := made(t, most)
	x := sets(set(example, 50, "a"), set(www, 60, "b"), set(root, 70, "c"))
	keep(t, s, 0, x...)
	is(t, s.Delete(root, textType, 1), api.OK)
	keep(t, s, 0, set(www, 40, "d"))
	for _, c := range []struct {
		now  int
		want []api.Set
	}{{39, sets(x[0], set(www, 40, "d"))}, {40, sets(x[0])}, {50, nil}} {
		is(t, s.Compact(c.now), api.OK)
		written(t, d, puts(c.want...)...)
		has(t, s, x[0], set(www, 40, "d"))
		is(t, d.Crash(nil), api.OK)
		has(t, open(t, d.Copy(), 0, most), c.want...)
	}
	is(t, s.Compact(math.MinInt), api.OK)
	written(t, d, put(x[0]), put(set(www, 40, "d")))
	is(t, s.Compact(math.MaxInt), api.OK)
	written(t, d)
}

// Objects: stores that no call made.
func TestNoStore(t *testing.T) {
	for _, s := range []*store.Store{nil, {}} {
		is(t, s.Put(set(www, 50, "a"), 0), api.ErrNil)
		is(t, s.Put(api.Set{}, 0), api.ErrNil)
		is(t, s.Delete(www, textType, 1), api.ErrNil)
		is(t, s.Delete("", -1, -1), api.ErrNil)
		is(t, s.Sync(), api.ErrNil)
		is(t, s.Compact(0), api.ErrNil)
		x, ok := s.Lookup(www, textType, 1, 0)
		if ok || told(put(x)) != told(put(api.Set{})) || len(s.Sets()) != 0 || s.Bytes() != 0 || s.Memory() {
			t.Errorf("Lookup is%s, %v, Sets%s, Bytes %d, Memory %v", told(put(x)), ok, told(puts(s.Sets()...)...), s.Bytes(), s.Memory())
		}
	}
}

// Memory: what is handed in is neither changed nor kept, and an answer shares nothing.
func TestMemory(t *testing.T) {
	d, s := made(t, most)
	in := [][]byte{[]byte("aaaarest")[:4], []byte("bbbbrest")[:4], []byte("more")}
	x := set(www, 50)
	x.Datas = in[:2]
	keep(t, s, 0, x)
	was := set(www, 50, "aaaa", "bbbb")
	if string(in[0][:8]) != "aaaarest" || string(in[1][:8]) != "bbbbrest" || string(in[2]) != "more" {
		t.Errorf("what was handed in is %q", in)
	}
	spoil := func(l [][]byte) {
		l = l[:cap(l)]
		for i, b := range l {
			for j := range b[:cap(b)] {
				b[:cap(b)][j] = '!'
			}
			for k := range l {
				if k > i && strings.Contains(string(l[k]), "!") {
					t.Errorf("two data of a set share bytes: %q", l)
				}
			}
			l[i] = nil
		}
	}
	spoil(in)
	has(t, s, was)
	for range 2 {
		y, _ := s.Lookup(www, textType, 1, 0)
		spoil(y.Datas)
		l := s.Sets()
		spoil(l[0].Datas)
		l[0] = api.Set{}
		has(t, s, was)
	}
	is(t, s.Compact(0), api.OK)
	written(t, d, put(was))
	again := open(t, d, 0, most)
	spoil(again.Sets()[0].Datas)
	has(t, again, was)
	has(t, s, was)
}
