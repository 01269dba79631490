package audit

import (
	"slices"

	"cicerone/api"
	"cicerone/name"
)

// fact is a record without its TTL. Its name has small letters alone, so that two are the same just if they are equal.
type fact struct {
	name          string
	ofType, class int
	data          string
}

// span is from when on something was accepted, and for how long.
type span struct {
	at, ttl int
}

// backing is what was accepted, and when.
type backing map[fact][]span

// newBacking is that of accepts, but for what a server told of others' names.
func newBacking(l []api.Accept) backing {
	b := backing{}
	for _, a := range l {
		if !name.Within(a.Set.Name, a.Zone) {
			continue
		}
		for _, f := range facts(a.Set) {
			b[f] = append(b[f], span{a.At, a.TTL})
		}
	}
	return b
}

// facts is the records of a set. One that says that there is nothing has its zone's SOA.
func facts(s api.Set) []fact {
	owner, ofType := s.Name, s.Type
	if s.Kind != api.SetData {
		owner, ofType = s.Zone, api.TypeSOA
	}
	var l []fact
	for _, data := range s.Datas {
		l = append(l, fact{name.Lower(owner), ofType, s.Class, string(data)})
	}
	return l
}

// has tells whether a record that went at a time stands in what was accepted.
func (b backing) has(r api.RR, at int) bool {
	if !name.Can(r.Name) {
		return false
	}
	spans := b[fact{name.Lower(r.Name), r.Type, r.Class, string(r.Data)}]
	return slices.ContainsFunc(spans, func(s span) bool {
		left := s.left(at)
		return left > 0 && r.TTL <= left
	})
}

// left is how many ticks of a span are left at a time: none ahead of it.
func (s span) left(at int) int {
	if at < s.at || s.ttl <= 0 {
		return 0
	}
	// The difference is reckoned without a sign, as that of two times far apart has no room in an int.
	passed := uint64(at) - uint64(s.at)
	if passed >= uint64(s.ttl) {
		return 0
	}
	return s.ttl - int(passed)
}
