package zone_test

import (
	"slices"
	"strings"

	"cicerone/api"
	"cicerone/name"
	"cicerone/rdata"
)

// plain is a second tree, by the chapter's words, and whether it may be: it goes through all records each time, and takes names apart into labels by itself.
type plain struct {
	api.Tree
	may bool
}

// plainly is a tree's.
func plainly(x api.Tree) plain {
	p := plain{Tree: x}
	p.may = p.can()
	return p
}

// labels is a name's labels in small letters, the last one first; false, if it is no name.
func labels(n string) ([]string, bool) {
	if !name.Can(n) {
		return nil, false
	}
	var l []string
	for n = strings.Map(small, n); n[0] > 0; n = n[1+n[0]:] {
		l = slices.Insert(l, 0, n[1:1+n[0]])
	}
	return l, true
}

// small is a letter's small one; bytes above 127 do not stand in the names of these tests.
func small(c rune) rune {
	if c >= 'A' && c <= 'Z' {
		return c + 32
	}
	return c
}

// within tells whether a name lies within another one.
func within(n, zone string) bool {
	x, ok := labels(n)
	y, also := labels(zone)
	return ok && also && len(x) >= len(y) && slices.Equal(x[:len(y)], y)
}

// same tells whether two names are.
func same(a, b string) bool { return within(a, b) && within(b, a) }

// below tells whether a name lies within another one and is not it.
func below(n, zone string) bool { return within(n, zone) && !same(n, zone) }

// first is the first name in data.
func first(r api.RR) string { return rdata.Names(r.Type, r.Data)[0] }

// at is the records of a name and type.
func at(z api.Zone, n string, t int) []api.RR {
	var l []api.RR
	for _, r := range z.RRs {
		if same(r.Name, n) && r.Type == t {
			l = append(l, r)
		}
	}
	return l
}

// cuts is the names of a zone's cuts, as often as they have records.
func cuts(z api.Zone) []string {
	var l []string
	for _, r := range z.RRs {
		if r.Type == api.TypeNS && below(r.Name, z.Origin) {
			l = append(l, r.Name)
		}
	}
	return l
}

// belowCut tells whether a name is below a cut.
func belowCut(z api.Zone, n string) bool {
	return slices.ContainsFunc(cuts(z), func(cut string) bool { return below(n, cut) })
}

// there tells whether a name is there.
func there(z api.Zone, n string) bool {
	return !belowCut(z, n) && slices.ContainsFunc(z.RRs, func(r api.RR) bool { return within(r.Name, n) && !belowCut(z, r.Name) })
}

// has tells whether a name is among some.
func has(l []string, n string) bool {
	return slices.ContainsFunc(l, func(other string) bool { return same(n, other) })
}

// hosts is the names in the TypeNS at a name.
func hosts(z api.Zone, n string) []string {
	var l []string
	for _, r := range at(z, n, api.TypeNS) {
		l = append(l, first(r))
	}
	return l
}

// once is names in their order, each once.
func once(l []string) []string {
	var out []string
	for _, n := range l {
		if !has(out, n) {
			out = append(out, n)
		}
	}
	return out
}

// subset tells whether all names of one list are in another one.
func subset(a, b []string) bool {
	return !slices.ContainsFunc(a, func(n string) bool { return !has(b, n) })
}

// most is the place of that of some zones, of which a name lies within one or more, which has the most labels.
func (p plain) most(places []int, n string) int {
	best, count := -1, -1
	for _, i := range places {
		if o, _ := labels(p.Zones[i].Origin); within(n, p.Zones[i].Origin) && len(o) > count {
			best, count = i, len(o)
		}
	}
	return best
}

// all is the places of all zones.
func (p plain) all() []int {
	var l []int
	for i := range p.Zones {
		l = append(l, i)
	}
	return l
}

// parent is the place of a zone's parent; -1 of the root.
func (p plain) parent(zone int) int {
	var above []int
	for _, i := range p.all() {
		if below(p.Zones[zone].Origin, p.Zones[i].Origin) {
			above = append(above, i)
		}
	}
	return p.most(above, p.Zones[zone].Origin)
}

func (p plain) can() bool {
	if len(p.Zones) < 1 || len(p.Zones) > 20 || p.Zones[0].Origin != "\x00" || len(p.Servers) > 40 {
		return false
	}
	records := 0
	for i, z := range p.Zones {
		for _, other := range p.Zones[:i] {
			if same(z.Origin, other.Origin) {
				return false
			}
		}
		records += len(z.RRs)
		if !canRecords(z) || !canNames(z) {
			return false
		}
	}
	for i := range p.Zones {
		if !p.canCuts(i) {
			return false
		}
	}
	return records <= 400 && p.canServers()
}

// canRecords tells whether each of a zone's records may be one.
func canRecords(z api.Zone) bool {
	for _, r := range z.RRs {
		if !within(r.Name, z.Origin) || r.Class != 1 || r.TTL < 0 || r.TTL > 2147483647 || r.Type < 1 || r.Type > 65535 || !rdata.Can(r.Type, r.Data) {
			return false
		}
	}
	return true
}

// canNames tells whether each name has what it may, and the origin what it must.
func canNames(z api.Zone) bool {
	for i, r := range z.RRs {
		if r.Type == api.TypeSOA && !same(r.Name, z.Origin) {
			return false
		}
		for j, other := range z.RRs {
			if i != j && r.Type == api.TypeCNAME && same(r.Name, other.Name) {
				return false
			}
		}
		for _, cut := range cuts(z) {
			if below(r.Name, cut) && r.Type != api.TypeA || same(r.Name, cut) && r.Type != api.TypeA && r.Type != api.TypeNS {
				return false
			}
		}
	}
	return len(at(z, z.Origin, api.TypeSOA)) == 1 && len(at(z, z.Origin, api.TypeNS)) > 0
}

// canCuts tells whether a zone's cuts are as they must be.
func (p plain) canCuts(zone int) bool {
	z := p.Zones[zone]
	var children []string
	for i, other := range p.Zones {
		if p.parent(i) != zone {
			continue
		}
		children = append(children, other.Origin)
		above, own := hosts(z, other.Origin), hosts(other, other.Origin)
		if !subset(above, own) || !subset(own, above) {
			return false
		}
	}
	return subset(cuts(z), children) && subset(children, cuts(z))
}

// canServers tells whether the servers may be.
func (p plain) canServers() bool {
	for i, s := range p.Servers {
		for _, other := range p.Servers[:i] {
			if s.Addr == other.Addr {
				return false
			}
		}
		for _, zone := range s.Zones {
			if zone < 0 || zone >= len(p.Zones) {
				return false
			}
		}
		if s.Addr < 0 || s.Addr > 4294967295 {
			return false
		}
	}
	return true
}

func (p plain) serve(addr int, m api.Message) (api.Message, bool) {
	if !p.may || m.Response || len(m.Questions) != 1 || !name.Can(m.Questions[0].Name) {
		return api.Message{}, false
	}
	for _, s := range p.Servers {
		if s.Addr != addr {
			continue
		}
		q := m.Questions[0]
		zone := p.most(s.Zones, q.Name)
		if m.Opcode != 0 {
			return replied(m, false, 4, nil, nil, nil), true
		}
		if q.Class != 1 || zone < 0 {
			return replied(m, false, 5, nil, nil, nil), true
		}
		return answer(p.Zones[zone], m, q.Name, q.Type, nil), true
	}
	return api.Message{}, false
}

// answer is a zone's answer, with what stands in Answers already.
func answer(z api.Zone, m api.Message, n string, t int, answers []api.RR) api.Message {
	var over []string
	for _, cut := range cuts(z) {
		if within(n, cut) {
			over = append(over, cut)
		}
	}
	if len(over) > 0 && len(answers) > 0 {
		return replied(m, true, 0, answers, nil, nil)
	}
	if len(over) > 0 {
		cut := slices.MinFunc(over, func(a, b string) int { return name.Count(a) - name.Count(b) })
		var additional []api.RR
		for _, host := range once(hosts(z, cut)) {
			additional = append(additional, at(z, host, api.TypeA)...)
		}
		return replied(m, false, 0, nil, at(z, cut, api.TypeNS), additional)
	}
	if alias := at(z, n, api.TypeCNAME); t != api.TypeCNAME && len(alias) > 0 {
		answers = append(slices.Clone(answers), alias[0])
		if to := first(alias[0]); within(to, z.Origin) && len(answers) < 8 {
			return answer(z, m, to, t, answers)
		}
		return replied(m, true, 0, answers, nil, nil)
	}
	if l := at(z, n, t); len(l) > 0 {
		return replied(m, true, 0, append(slices.Clone(answers), l...), nil, nil)
	}
	code := 0
	if !there(z, n) {
		code = 3
	}
	return replied(m, true, code, answers, at(z, z.Origin, api.TypeSOA), nil)
}

func (p plain) truth(q api.Question) (api.Result, bool) {
	if !p.may || !name.Can(q.Name) || q.Type < 1 || q.Type > 65535 || q.Class != 1 {
		return api.Result{}, false
	}
	var r api.Result
	for n := q.Name; ; {
		z := p.Zones[p.most(p.all(), n)]
		alias := at(z, n, api.TypeCNAME)
		if q.Type == api.TypeCNAME || len(alias) == 0 {
			r.Answers = append(r.Answers, at(z, n, q.Type)...)
			if !there(z, n) {
				r.Code = 3
			}
			return r, true
		}
		if len(r.Answers) == 8 {
			return api.Result{}, false
		}
		r.Answers = append(r.Answers, alias[0])
		n = first(alias[0])
	}
}

func (p plain) hints() []api.RR {
	if !p.may {
		return nil
	}
	var l []api.RR
	for _, n := range once(hosts(p.Zones[0], "\x00")) {
		found := at(p.Zones[p.most(p.all(), n)], n, api.TypeA)
		if len(found) == 0 {
			found = at(p.Zones[0], n, api.TypeA)
		}
		l = append(l, found...)
	}
	return l
}
