package store_test

import (
	"bytes"
	"math"
	"slices"
	"testing"

	"cicerone/api"
	"cicerone/files"
	"cicerone/seglog"
	"cicerone/store"
)

// opens asks which sets the store of these entries has at a time, and that nothing of the log is changed.
func opens(t *testing.T, now, most int, l []api.Entry, want ...api.Set) {
	t.Helper()
	d := logged(t, l...)
	s := open(t, d, now, most)
	has(t, s, want...)
	written(t, d, l...)
	if s.Memory() {
		t.Error("nothing is written any more")
	}
}

// refuses asks that Open answers an error and nothing else, and leaves the disk as it was.
func refuses(t *testing.T, d *files.Disk, most int, want api.Errno) {
	t.Helper()
	silent(t, d, want, func() api.Errno {
		s, e := store.Open(d, 0, most)
		if s != nil {
			t.Error("there is a store")
		}
		return e
	})
}

// P10.1: a new disk.
func TestOpenNew(t *testing.T) {
	d, s := made(t, most)
	has(t, s)
	written(t, d)
	if got := d.List(); len(got) != 1 || got[0] != "manifest" {
		t.Errorf("the disk has %q", got)
	}
	has(t, open(t, d, 0, 0))
}

// P10.1: disks that no call made; how many bytes the sets may have.
func TestOpenWrong(t *testing.T) {
	for _, most := range []int{math.MinInt, -1, 0, 1 << 40, 1<<40 + 1, math.MaxInt} {
		for _, d := range []*files.Disk{nil, {}} {
			s, e := store.Open(d, 0, most)
			if s != nil || e != api.ErrNil {
				t.Errorf("Open is %v, %d", s, e)
			}
		}
		for _, d := range []*files.Disk{fresh(t), logged(t, put(set(www, 9, "a"))), laid(t, []byte("none"))} {
			if most < 0 || most > 1<<40 {
				refuses(t, d, most, api.ErrArg)
				refuses(t, d, most, api.ErrArg)
			}
		}
		if most >= 0 && most <= 1<<40 {
			has(t, open(t, fresh(t), 0, most))
		}
	}
}

// P10.1: what the log answers comes ahead of what its records are.
func TestOpenLog(t *testing.T) {
	foreign := fresh(t)
	foreign.Append("foreign", []byte("a"))
	refuses(t, foreign, 0, api.ErrLog)
	full := fresh(t)
	is(t, full.Room(47), api.OK)
	_, e := store.Open(full, 0, most)
	is(t, e, api.ErrFull)
	for _, d := range []*files.Disk{logged(t, put(set(www, 9, "a"))), laid(t, []byte("none"))} {
		is(t, d.Fuse(0), api.OK)
		s, e := store.Open(d, 0, most)
		if s != nil || e != api.ErrDead {
			t.Errorf("of a dead disk Open is %v, %d", s, e)
		}
	}
}

// P10.1: records that are no entry, wherever they stand; the disk is left as it was, also where the log has something to mend.
func TestOpenEntry(t *testing.T) {
	good := bytesOf(put(set(www, 9, "a")))
	for _, bad := range [][]byte{{0}, {1}, {2}, []byte("none"), good[1:], good[:len(good)-1], append(bytes.Clone(good), 0), make([]byte, 4000)} {
		for _, recs := range [][][]byte{{bad}, {bad, good}, {good, bad}, {good, bad, good}} {
			d := laid(t, recs...)
			refuses(t, d, most, api.ErrEntry)
			d.Append("s00000001", []byte("torn"))
			d.Append("manifest.new", []byte("left"))
			d.Append("foreign", nil)
			refuses(t, d, 0, api.ErrEntry)
			l, got, e := seglog.Open(d)
			if l == nil || e != api.OK || len(got) != len(recs) {
				t.Errorf("the log has %d records, %d", len(got), e)
			}
		}
	}
}

// P10.1: what entries come to, one behind the other: none of a Put's rules has a say in it.
func TestOpenEntries(t *testing.T) {
	a, b := set(www, 50, "a"), set(www, 60, "b")
	low := with(set(great, 55, "c"), func(s *api.Set) { s.Rank = api.RankGlue })
	for _, c := range []struct {
		log  []api.Entry
		want []api.Set
	}{
		{nil, nil},
		{puts(a), sets(a)},
		{puts(a, b), sets(b)},
		{puts(b, a), sets(a)},
		{puts(b, low), sets(low)},
		{append(puts(a), drop(www, textType, 1)), nil},
		{append(puts(a), drop(great, textType, 1)), nil},
		{[]api.Entry{put(a), drop(www, textType, 1), put(b)}, sets(b)},
		{[]api.Entry{drop(www, textType, 1), put(a), drop(www, 0, 1), drop(www, textType, 3), drop(example, textType, 1), drop(www, 778, 1)}, sets(a)},
		{puts(nothing(www, 70), a), sets(nothing(www, 70), a)},
		{puts(a, nothing(www, 70)), sets(nothing(www, 70), a)},
		{[]api.Entry{put(nothing(www, 70)), drop(great, 0, 1), put(a)}, sets(a)},
		{puts(a, none(great, 70)), sets(none(great, 70))},
		{puts(none(great, 70), a), sets(a)},
	} {
		opens(t, 10, most, c.log, c.want...)
	}
}

// P10.1: what is not fresh is there no more, and nothing older in its place.
func TestOpenFresh(t *testing.T) {
	a, b := set(www, 50, "a"), set(example, 60, "b")
	for now, want := range map[int][]api.Set{math.MinInt: {b, a}, -1: {b, a}, 0: {b, a}, 49: {b, a}, 50: {b}, 51: {b}, 59: {b}, 60: nil, 61: nil, math.MaxInt: nil} {
		opens(t, now, most, puts(a, b), want...)
	}
	opens(t, 55, most, puts(with(a, func(s *api.Set) { s.Expires = 90 }), a))
	opens(t, 0, most, puts(set(www, 0, "a")))
	opens(t, -5, most, puts(set(www, 0, "a"), set(example, 1, "a")), set(example, 1, "a"))
	last := 1<<40 - api.MaxTTL
	for _, now := range []int{last, last + 1, 1 << 40, math.MaxInt} {
		opens(t, now, most, puts(set(www, last, "a"), set(example, last+1, "a"), set(root, 1<<40, "a")), set(root, 1<<40, "a"), set(example, last+1, "a"))
	}
}

// P10.3: what is too much is pushed out, that first which expires first, of several the first in order.
func TestOpenPush(t *testing.T) {
	early, b, a := sized(5000, 20, 100), sized(3000, 30, 200), sized(4000, 30, 300)
	late := sized(1000, 40, 400)
	log := puts(late, a, early, b)
	for most, want := range map[int][]api.Set{
		1 << 40: {late, b, a, early}, 1001: {late, b, a, early}, 1000: {late, b, a, early},
		999: {late, b, a}, 900: {late, b, a},
		899: {late, a}, 700: {late, a},
		699: {late}, 400: {late},
		399: nil, 22: nil, 1: nil, 0: nil,
	} {
		opens(t, 10, most, log, want...)
	}
	// What is not fresh takes no room.
	opens(t, 20, 900, log, late, b, a)
	opens(t, 30, 400, log, late)
	// A set alone that is too much goes in its turn.
	opens(t, 10, 150, puts(sized(1001, 90, 200), sized(1002, 80, 100)))
	opens(t, 10, 150, puts(sized(1001, 80, 200), sized(1002, 90, 100)), sized(1002, 90, 100))
}

// P10.3: many sets at once are pushed out.
func TestOpenPushMany(t *testing.T) {
	var log []api.Entry
	var left []api.Set
	for i := range 3000 {
		x := sized(1000+i, 100+(i*7919)%3000, 30)
		log = append(log, put(x))
		if x.Expires >= 100+2990 {
			left = append(left, x)
		}
	}
	opens(t, 0, 10*30+29, log, left...)
	opens(t, 0, 29, log)
	left = nil
	for i := range log {
		log[i].Set.Expires = 100
		if i >= 2990 {
			left = append(left, log[i].Set)
		}
	}
	opens(t, 0, 10*30, log, left...)
}

// P10.5: sets in order: of names, then types, then classes.
func TestOrder(t *testing.T) {
	var want []api.Set
	for _, n := range []string{root, "\x01a\x00", "\x01B\x01a\x00", "\x02ba\x01A\x00", "\x01c\x01a\x00", "\x02aa\x00", "\x01B\x00", "\x01a\x01b\x00"} {
		for _, kind := range []int{2000, 60000} {
			for _, class := range []int{0, 1, 255, 256, 65535} {
				want = append(want, with(set(n, 50, "x"), func(s *api.Set) { s.Type, s.Class = kind, class }))
			}
		}
	}
	d, s := made(t, most)
	for i := range want {
		keep(t, s, 0, want[i*7%len(want)])
	}
	has(t, s, want...)
	has(t, open(t, d, 0, most), want...)
	keep(t, s, 0, nothing("\x01b\x00", 9))
	want = slices.Insert(want, 60, nothing("\x01b\x00", 9))
	has(t, s, want...)
	is(t, s.Compact(0), api.OK)
	written(t, d, puts(want...)...)
}
