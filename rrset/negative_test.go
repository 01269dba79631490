package rrset_test

import (
	"math"
	"strings"
	"testing"

	"cicerone/api"
	"cicerone/rrset"
)

// asked is a question.
var asked = api.Question{Name: great, Type: api.TypeMX, Class: 3}

// negative is the set of that question's, of that kind, which expires then.
func negative(kind, expires int, soa []byte) api.Set {
	s := api.Set{Name: great, Type: api.TypeMX, Class: 3, Rank: api.RankAnswer, Kind: kind, Expires: expires, Zone: example, Datas: [][]byte{soa}}
	if kind == api.SetNothing {
		s.Type = 0
	}
	return s
}

// says asks for the set that a record comes to.
func says(t *testing.T, q api.Question, kind int, soa api.RR, now int, want api.Set) {
	t.Helper()
	s, e := rrset.Negative(q, kind, soa, now)
	if e != api.OK {
		t.Errorf("Negative is %d", e)
	}
	is(t, s, want)
}

// refused asks for ErrArg, and nothing else.
func refused(t *testing.T, q api.Question, kind int, soa api.RR) {
	t.Helper()
	for _, now := range []int{-1, 0, math.MaxInt} {
		s, e := rrset.Negative(q, kind, soa, now)
		if e != api.ErrArg || told(s) != told(api.Set{}) {
			t.Errorf("Negative of %q, %d, %d, kind %d is %d, %s", q.Name, q.Type, q.Class, kind, e, told(s))
		}
	}
}

// P9.4: the sets of both kinds.
func TestNegative(t *testing.T) {
	for _, kind := range []int{api.SetNone, api.SetNothing} {
		says(t, asked, kind, zone(50, 7), 10, negative(kind, 17, soa(7)))
		says(t, asked, kind, zone(7, 50), 10, negative(kind, 17, soa(50)))
		says(t, asked, kind, zone(7, 7), 10, negative(kind, 17, soa(7)))
		says(t, asked, kind, zone(0, 7), 10, negative(kind, 10, soa(7)))
		says(t, asked, kind, zone(7, 0), 10, negative(kind, 10, soa(0)))
	}
}

// P9.4: when a set expires: now, and the lesser of TTL and Minimum, as these count.
func TestNegativeTimes(t *testing.T) {
	for now, counts := range times() {
		for ttl, lasts := range ttls() {
			for minimum, also := range ttls() {
				if minimum < 0 || minimum > math.MaxUint32 {
					continue
				}
				for _, kind := range []int{api.SetNone, api.SetNothing} {
					says(t, asked, kind, zone(ttl, uint32(minimum)), now, negative(kind, counts+min(lasts, also), soa(uint32(minimum))))
				}
			}
		}
	}
}

// P9.4: names, types and classes to their ends; of the record's class, and of where its zone lies, nothing is asked.
func TestNegativeEnds(t *testing.T) {
	longest := strings.Repeat("\x01a", 127) + "\x00"
	for _, n := range []string{root, longest, great} {
		for _, kind := range []int{1, api.TypeSOA, 65535} {
			for _, class := range []int{0, 1, 65535} {
				q := api.Question{Name: n, Type: kind, Class: class}
				s := api.Set{Name: n, Type: kind, Class: class, Rank: 3, Kind: api.SetNone, Expires: 5, Zone: longest, Datas: [][]byte{soa(5)}}
				for _, any := range []int{math.MinInt, -1, 0, 3, 65536, math.MaxInt} {
					r := api.RR{Name: longest, Type: api.TypeSOA, Class: any, TTL: 9, Data: soa(5)}
					says(t, q, api.SetNone, r, 0, s)
					says(t, q, api.SetNothing, r, 0, with(s, func(s *api.Set) { s.Kind, s.Type = api.SetNothing, 0 }))
				}
			}
		}
	}
	greatest := []byte(longest + longest + string(make([]byte, 19)) + "\x05")
	says(t, api.Question{Name: longest, Type: 1, Class: 1}, api.SetNone, api.RR{Name: longest, Type: api.TypeSOA, TTL: 9, Data: greatest}, 0,
		api.Set{Name: longest, Type: 1, Class: 1, Rank: 3, Kind: api.SetNone, Expires: 5, Zone: longest, Datas: [][]byte{greatest}})
}

// P9.4: what there is no such set of.
func TestNegativeWrong(t *testing.T) {
	names := []string{"", noName, "www.example.", "\x00\x00", "\xc0\x0c", strings.Repeat("\x01a", 128) + "\x00"}
	for _, kind := range []int{api.SetNone, api.SetNothing} {
		for _, n := range names {
			refused(t, with(asked, func(q *api.Question) { q.Name = n }), kind, zone(9, 9))
			refused(t, asked, kind, with(zone(9, 9), func(r *api.RR) { r.Name = n }))
		}
		for _, n := range []int{math.MinInt, -65535, -1, 0, 65536, 65537, math.MaxInt} {
			refused(t, with(asked, func(q *api.Question) { q.Type = n }), kind, zone(9, 9))
			if n != 0 {
				refused(t, with(asked, func(q *api.Question) { q.Class = n }), kind, zone(9, 9))
			}
		}
		for _, n := range []int{math.MinInt, -6, 0, 1, 5, 7, 777, 65536 + 6, math.MaxInt} {
			refused(t, asked, kind, with(zone(9, 9), func(r *api.RR) { r.Type = n }))
		}
		for _, data := range [][]byte{nil, {}, {0}, soa(9)[1:], append(soa(9), 0), soa(9)[:len(soa(9))-1], make([]byte, 65536)} {
			refused(t, asked, kind, with(zone(9, 9), func(r *api.RR) { r.Data = data }))
		}
		refused(t, api.Question{}, kind, api.RR{})
	}
	for _, kind := range []int{math.MinInt, -1, api.SetData, 3, 256 + 1, math.MaxInt} {
		refused(t, asked, kind, zone(9, 9))
		// As data of the SOA's own type they could be kept.
		refused(t, with(asked, func(q *api.Question) { q.Type = api.TypeSOA }), kind, with(zone(9, 9), func(r *api.RR) { r.Name = "" }))
	}
}

// Memory: what is handed in stays as it is, and an answer shares nothing.
func TestNegativeMemory(t *testing.T) {
	in := datas(string(soa(9)))
	was := whole(in)
	r := with(zone(9, 9), func(r *api.RR) { r.Data = in[0] })
	first, _ := rrset.Negative(asked, api.SetNone, r, 0)
	second, _ := rrset.Negative(asked, api.SetNone, r, 0)
	if whole(in) != was {
		t.Errorf("what was handed in is %s, and was %s", whole(in), was)
	}
	apart(t, in[0], first.Datas[0], second.Datas[0])
	first.Datas[0] = nil
	_ = append(first.Datas, nil)
	is(t, second, negative(api.SetNone, 9, soa(9)))
}
