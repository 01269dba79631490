package rrset_test

import (
	"math/rand/v2"
	"slices"
	"testing"

	"cicerone/api"
	"cicerone/entry"
	"cicerone/name"
	"cicerone/rdata"
	"cicerone/rrset"
)

// one is one of a list.
func one[T any](r *rand.Rand, l ...T) T { return l[r.IntN(len(l))] }

// drawn is a record of few names, types and classes; some play no part.
func drawn(r *rand.Rand) api.RR {
	data := make([]byte, one(r, 4, 4, 4, 16, 1, 0, 2000))
	for i := range data {
		data[i] = byte(r.IntN(2))
	}
	return api.RR{
		Name: one(r, www, www, great, example, "\x07eXample\x00", root, noName, ""), Type: one(r, 1, 1, 28, 777, 777, 0, 65536, 2), Class: one(r, 1, 1, 3, 0, -1, 65536),
		TTL: one(r, 0, 1, 5, 60, day, day+1, -1, 1<<31-1, 1<<31), Data: data,
	}
}

// plain is what records come to, by the chapter's words: set by set, each by going through all of them.
func plain(l []api.RR, rank, now int) []api.Set {
	canBe := func(r api.RR) bool {
		return name.Can(r.Name) && r.Type > 0 && r.Type < 65536 && r.Class >= 0 && r.Class < 65536 && rdata.Can(r.Type, r.Data)
	}
	same := func(a, b api.RR) bool {
		return lower(a.Name) == lower(b.Name) && a.Type == b.Type && a.Class == b.Class
	}
	var sets []api.Set
	for i, first := range l {
		if !canBe(first) || slices.ContainsFunc(l[:i], func(r api.RR) bool { return canBe(r) && same(r, first) }) {
			continue
		}
		s := api.Set{Name: first.Name, Type: first.Type, Class: first.Class, Rank: rank, Expires: now + day}
		for _, r := range l {
			if !canBe(r) || !same(r, first) {
				continue
			}
			lasts := r.TTL
			if lasts < 0 || lasts > 1<<31-1 {
				lasts = 0
			}
			s.Expires = min(s.Expires, now+lasts)
			s.Datas = append(s.Datas, r.Data)
		}
		s.Datas = ordered(s.Datas)
		if entry.Can(s) {
			sets = append(sets, s)
		}
	}
	return sets
}

// P9.2, P9.5: drawn records come to what the words say; each set can be kept, and its records, grouped, are it.
func TestDrawn(t *testing.T) {
	r := rand.New(rand.NewPCG(9, 5))
	for range 4000 {
		var l []api.RR
		for range r.IntN(25) {
			l = append(l, drawn(r))
		}
		rank, now := one(r, 1, 2, 3, 3, 3, 4), one(r, 0, 1, 100, last)
		sets := rrset.Group(l, rank, now)
		is(t, sets, plain(l, rank, now))
		var records []api.RR
		var want []api.Set
		for _, s := range sets {
			if !entry.Can(s) {
				t.Errorf("it can't be kept:%s", told(s))
			}
			for _, later := range []int{now, now + 1, now + 4, now + day - 1} {
				again(t, s, later)
			}
			if rrset.Fresh(s, now) {
				records = append(records, rrset.Records(s, now)...)
				want = append(want, s)
			}
		}
		is(t, rrset.Group(records, rank, now), want)
		if t.Failed() {
			t.FailNow()
		}
	}
}

// again asks that a set's records, grouped, are it.
func again(t *testing.T, s api.Set, now int) {
	t.Helper()
	var want []api.Set
	if min(now, last) < s.Expires {
		want = []api.Set{s}
	}
	is(t, rrset.Group(rrset.Records(s, now), s.Rank, now), want)
}

// P9.5: but for what is left of its time: that of a set which lasts longer than anything is kept.
func TestLongAgain(t *testing.T) {
	for left, lasts := range map[int]int{1: 1, day - 1: day - 1, day: day, day + 1: day, 1<<31 - 1: day, 1 << 31: 0, 1<<40 - 100: 0} {
		s := set(www, 100+left, 1, 2)
		is(t, rrset.Group(rrset.Records(s, 100), 3, 100), []api.Set{set(www, 100+lasts, 1, 2)})
	}
}

// From arguments alone: the same records come to the same sets, each time.
func TestTwice(t *testing.T) {
	r := rand.New(rand.NewPCG(9, 6))
	var l []api.RR
	for range 300 {
		l = append(l, drawn(r))
	}
	first := rrset.Group(l, 3, 0)
	for range 50 {
		is(t, rrset.Group(l, 3, 0), first)
	}
}
