package zone

import (
	"bytes"
	"slices"
	"strings"

	"cicerone/api"
	"cicerone/name"
	"cicerone/rdata"
)

// root is the name without labels.
const root = "\x00"

// area is a zone, laid out to be asked. All names that it is asked with, and those that it tells by themselves, have small letters alone: so two are the same just if they are equal.
type area struct {
	origin string
	// names are those of the zone's records, in its order.
	names []string
	rrs   []api.RR
	// counts tells how many records there are.
	counts map[spot]int
}

// spot is where a record stands: at a name, with a type.
type spot struct {
	name   string
	ofType int
}

// newArea is a zone's.
func newArea(z api.Zone) area {
	a := area{origin: name.Lower(z.Origin), rrs: z.RRs, counts: map[spot]int{}}
	for _, r := range z.RRs {
		n := name.Lower(r.Name)
		a.names = append(a.names, n)
		a.counts[spot{n, r.Type}]++
	}
	return a
}

// records is those of a name and type, in the zone's order, as new memory.
func (a area) records(n string, t int) []api.RR {
	var l []api.RR
	for i, r := range a.rrs {
		if a.names[i] == n && r.Type == t {
			r.Name, r.Data = strings.Clone(r.Name), bytes.Clone(r.Data)
			l = append(l, r)
		}
	}
	return l
}

// alias is the record that leads on from a name, if a type is asked; none, if none does.
func (a area) alias(n string, t int) []api.RR {
	if t == api.TypeCNAME {
		return nil
	}
	return a.records(n, api.TypeCNAME)
}

// nameIn is the first name in a record's data.
func nameIn(r api.RR) string { return name.Lower(rdata.Names(r.Type, r.Data)[0]) }

// servers is the names in the TypeNS of a name, in their order, each once.
func (a area) servers(n string) []string {
	var l []string
	for _, r := range a.records(n, api.TypeNS) {
		if host := nameIn(r); !slices.Contains(l, host) {
			l = append(l, host)
		}
	}
	return l
}

// isCut tells whether a name within the zone is a cut of it.
func (a area) isCut(n string) bool { return n != a.origin && a.counts[spot{n, api.TypeNS}] > 0 }

// cut is the cut nearest to the origin of those at which, or below which, a name within the zone is; false, if there is none.
func (a area) cut(n string) (string, bool) {
	cut, found := "", false
	for up, ok := n, true; ok && up != a.origin; up, ok = name.Parent(up) {
		if a.isCut(up) {
			cut, found = up, true
		}
	}
	return cut, found
}

// isThere tells whether a name that is not below a cut is there. Records below a cut make no difference to that: where one of them lies within the name, so does the cut, which has records.
func (a area) isThere(n string) bool {
	return slices.ContainsFunc(a.names, func(at string) bool { return name.Within(at, n) })
}

// nearest is the place of the area with the most labels within whose origin a name is; -1, if it is within none.
func nearest(areas []area, n string) int {
	place := -1
walk:
	for up, ok := name.Lower(n), true; ok; up, ok = name.Parent(up) {
		for i, a := range areas {
			if a.origin == up {
				place = i
				break walk
			}
		}
	}
	return place
}

// answer adds to a reply what the zone answers to a question whose name is within it.
func (a area) answer(q api.Question, reply *api.Message) {
	n := name.Lower(q.Name)
	for {
		if cut, ok := a.cut(n); ok {
			a.refer(cut, reply)
			return
		}
		alias := a.alias(n, q.Type)
		if len(alias) == 0 {
			a.end(n, q.Type, reply)
			return
		}
		reply.AA = true
		reply.Answers = append(reply.Answers, alias...)
		n = nameIn(alias[0])
		if !name.Within(n, a.origin) || len(reply.Answers) >= api.MaxChain {
			return
		}
	}
}

// refer adds to a reply that a cut's servers are to be asked; nothing, if aliases have led there.
func (a area) refer(cut string, reply *api.Message) {
	if len(reply.Answers) > 0 {
		return
	}
	reply.Authority = a.records(cut, api.TypeNS)
	for _, n := range a.servers(cut) {
		reply.Additional = append(reply.Additional, a.records(n, api.TypeA)...)
	}
}

// end adds to a reply what there is of a type at a name without an alias, or that there is none.
func (a area) end(n string, t int, reply *api.Message) {
	reply.AA = true
	l := a.records(n, t)
	reply.Answers = append(reply.Answers, l...)
	if len(l) > 0 {
		return
	}
	reply.Authority = a.records(a.origin, api.TypeSOA)
	if !a.isThere(n) {
		reply.Code = api.CodeName
	}
}
