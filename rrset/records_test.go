package rrset_test

import (
	"math"
	"slices"
	"testing"

	"cicerone/api"
	"cicerone/rrset"
)

// fresh asks whether a set that expires then is fresh at a time, and what its record has left.
func fresh(t *testing.T, expires, now, left int) {
	t.Helper()
	s := set(www, expires, 1)
	if got := rrset.Fresh(s, now); got != (left > 0) {
		t.Errorf("a set that expires at %d: at %d Fresh is %v", expires, now, got)
	}
	var want []api.RR
	if left > 0 {
		want = []api.RR{rr(www, left, 1)}
	}
	is(t, rrset.Records(s, now), want)
}

// P9.3: a set is fresh up to the time ahead of that at which it expires.
func TestFresh(t *testing.T) {
	for now, counts := range times() {
		for _, more := range []int{-100, -1, 0, 1, 2, 5, day - 1, day, day + 1} {
			fresh(t, counts+more, now, more)
		}
		fresh(t, math.MinInt, now, 0)
		fresh(t, math.MaxInt, now, math.MaxInt-counts)
		fresh(t, 0, now, 0)
	}
	fresh(t, 1<<40, math.MaxInt, day)
}

// P9.3: whatever else a set has, its time alone tells whether it is fresh.
func TestFreshAnything(t *testing.T) {
	for _, kind := range []int{math.MinInt, -1, 0, 1, 2, 3, math.MaxInt} {
		s := api.Set{Name: noName, Type: -1, Class: 65536, Rank: 9, Kind: kind, Expires: 5, Zone: noName}
		if !rrset.Fresh(s, 4) || rrset.Fresh(s, 5) || !rrset.Fresh(s, -1) {
			t.Errorf("of kind %d: %v, %v, %v", kind, rrset.Fresh(s, 4), rrset.Fresh(s, 5), rrset.Fresh(s, -1))
		}
	}
}

// P9.3: a record of each of the data, in their order.
func TestRecords(t *testing.T) {
	s := api.Set{Name: great, Type: api.TypeTXT, Class: 3, Rank: api.RankGlue, Expires: 105, Datas: datas("\x01b", "\x00", "\x01b", "\x01a")}
	var want []api.RR
	for _, data := range s.Datas {
		want = append(want, api.RR{Name: great, Type: api.TypeTXT, Class: 3, TTL: 5, Data: data})
	}
	is(t, rrset.Records(s, 100), want)
	for i := range want {
		want[i].TTL = 105
	}
	is(t, rrset.Records(s, -7), want)
	for _, now := range []int{105, 106, math.MaxInt} {
		is(t, rrset.Records(s, now), nil)
	}
}

// P9.3: of a set of another kind than SetData there are none.
func TestRecordsKinds(t *testing.T) {
	for _, kind := range []int{math.MinInt, -1, api.SetNone, api.SetNothing, 3, math.MaxInt} {
		s := api.Set{Name: www, Type: api.TypeSOA, Class: 1, Rank: 3, Kind: kind, Expires: 50, Zone: example, Datas: [][]byte{soa(1)}}
		is(t, rrset.Records(s, 10), nil)
		is(t, rrset.Records(with(s, func(s *api.Set) { s.Zone = "" }), 10), nil)
	}
}

// Ends: sets that nobody can keep have records like others.
func TestRecordsAnything(t *testing.T) {
	is(t, rrset.Records(api.Set{}, 0), nil)
	is(t, rrset.Records(api.Set{Expires: 9}, 0), nil)
	is(t, rrset.Records(set(www, 9), 0), nil)
	s := api.Set{Name: noName, Type: -1, Class: math.MaxInt, Rank: -5, Expires: math.MaxInt, Zone: "\xff", Datas: [][]byte{nil, {}, make([]byte, 70000)}}
	r := api.RR{Name: noName, Type: -1, Class: math.MaxInt, TTL: math.MaxInt - 3}
	is(t, rrset.Records(s, 3), []api.RR{r, r, with(r, func(r *api.RR) { r.Data = make([]byte, 70000) })})
}

// Memory: what is handed in stays as it is, and an answer shares nothing.
func TestRecordsMemory(t *testing.T) {
	in := append(datas("aaaa", "bbbb", "aaaa"), datas("more")...)
	s := api.Set{Name: www, Type: api.TypeA, Class: 1, Rank: 3, Expires: 9, Datas: in[:3]}
	was := whole(in)
	first, second := rrset.Records(s, 0), rrset.Records(s, 0)
	if whole(in) != was {
		t.Errorf("what was handed in is %s, and was %s", whole(in), was)
	}
	want := told(second)
	all := in
	for _, r := range slices.Concat(first, second) {
		all = append(all, r.Data)
	}
	apart(t, all...)
	first[0], s.Datas[0] = api.RR{}, nil
	_ = append(first, api.RR{})
	if told(second) != want {
		t.Errorf("another answer is%s\nand was%s", told(second), want)
	}
}
