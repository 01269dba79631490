package zone_test

import (
	"math/rand/v2"
	"slices"
	"testing"

	"cicerone/api"
	"cicerone/name"
	"cicerone/wire"
	"cicerone/zone"
)

// drawing draws trees.
type drawing struct{ *rand.Rand }

// one is one of some.
func one[T any](d drawing, l ...T) T { return l[d.IntN(len(l))] }

// letters is a name in drawn letters.
func (d drawing) letters(n string) string {
	b := []byte(n)
	for i, c := range b {
		if c >= 'a' && c <= 'z' && d.IntN(8) == 0 {
			b[i] -= 32
		}
	}
	return string(b)
}

// within is a name that lies within a zone, seldom far.
func (d drawing) within(zone string) string {
	n := zone
	for d.IntN(5) > 1 {
		n = one(d, "\x01a", "\x01b", "\x01c", "\x02a\x01") + n
	}
	if !name.Can(n) {
		return zone
	}
	return n
}

// record is one of a name and type, with drawn data.
func (d drawing) record(n string, t int, origins []string) api.RR {
	to := d.letters(d.within(one(d, origins...)))
	data := map[int]string{
		api.TypeA: "\x0a\x00\x00" + one(d, "1", "2", "3"), api.TypeNS: to, api.TypeCNAME: to, api.TypeSOA: string(soa(".").Data),
		api.TypeMX: "\x00\x01" + to, api.TypeTXT: "\x01" + one(d, "x", "y"),
	}[t]
	return api.RR{Name: d.letters(n), Type: t, Class: 1, TTL: one(d, 0, 5, 300, 1<<31-1), Data: []byte(data)}
}

// tree is a drawn tree that may be, in most cases.
func (d drawing) tree() api.Tree {
	origins := []string{"\x00"}
	for range d.IntN(6) {
		n := d.within(one(d, origins...))
		if !slices.Contains(origins, n) {
			origins = append(origins, n)
		}
	}
	x := api.Tree{}
	for _, o := range origins {
		z := api.Zone{Origin: o, RRs: []api.RR{d.record(o, api.TypeSOA, origins)}}
		for range 1 + d.IntN(3) {
			z.RRs = append(z.RRs, d.record(o, api.TypeNS, origins))
		}
		x.Zones = append(x.Zones, z)
	}
	d.cut(&x)
	for i := range x.Zones {
		for range d.IntN(9) {
			d.add(&x, i, origins)
		}
		rrs := x.Zones[i].RRs
		d.Shuffle(len(rrs), func(a, b int) { rrs[a], rrs[b] = rrs[b], rrs[a] })
		if i > 0 {
			x.Zones[i].Origin = d.letters(x.Zones[i].Origin)
		}
	}
	for i := range 4 {
		s := api.Server{Addr: i}
		for range d.IntN(5) {
			s.Zones = append(s.Zones, d.IntN(len(x.Zones)))
		}
		x.Servers = append(x.Servers, s)
	}
	return x
}

// addr is that of one of the tree's servers, seldom of none.
func (d drawing) addr() int {
	if d.IntN(20) == 0 {
		return one(d, -1, 4, 5)
	}
	return d.IntN(4)
}

// cut gives each zone's parent its cut, and addresses to servers.
func (d drawing) cut(x *api.Tree) {
	p := plain{Tree: *x}
	for i, z := range x.Zones {
		above := p.parent(i)
		for _, r := range at(z, z.Origin, api.TypeNS) {
			host := first(r)
			for j, other := range x.Zones {
				if within(host, other.Origin) && d.IntN(3) > 0 {
					x.Zones[j].RRs = append(x.Zones[j].RRs, d.record(host, api.TypeA, []string{"\x00"}))
				}
			}
			for above >= 0 {
				r.Name, r.Data = d.letters(r.Name), []byte(d.letters(string(r.Data)))
				x.Zones[above].RRs = append(x.Zones[above].RRs, r)
				if d.IntN(8) > 0 {
					break
				}
			}
		}
	}
}

// add gives a zone a drawn record that it may have, in most cases.
func (d drawing) add(x *api.Tree, zone int, origins []string) {
	z := &x.Zones[zone]
	r := d.record(d.within(one(d, z.Origin, one(d, z.RRs...).Name)), one(d, 1, 1, 5, 5, 5, 15, 16), origins)
	if slices.ContainsFunc(cuts(*z), func(cut string) bool { return within(r.Name, cut) }) {
		r = d.record(r.Name, api.TypeA, origins)
	}
	meets := slices.ContainsFunc(z.RRs, func(other api.RR) bool {
		return same(other.Name, r.Name) && (other.Type == api.TypeCNAME || r.Type == api.TypeCNAME)
	})
	if !meets || d.IntN(40) == 0 {
		z.RRs = append(z.RRs, r)
	}
}

// change changes one thing of a tree.
func (d drawing) change(x *api.Tree) {
	z := &x.Zones[d.IntN(len(x.Zones))]
	r := &z.RRs[d.IntN(len(z.RRs))]
	switch d.IntN(16) {
	case 0:
		r.TTL = one(d, -1, 0, 1<<31-1, 1<<31)
	case 1:
		r.Class = one(d, 0, 1, 2)
	case 2:
		r.Type = one(d, 0, 1, 2, 5, 6, 15, 16, 99, 65535, 65536)
	case 3:
		r.Data = append(r.Data, 0)
	case 4:
		r.Name = d.within(one(d, z.Origin, "\x00"))
	case 5:
		z.RRs = append(z.RRs, *r)
	case 6, 7:
		at := d.IntN(len(z.RRs))
		z.RRs = slices.Delete(z.RRs, at, at+1)
	case 8:
		other := &x.Zones[d.IntN(len(x.Zones))]
		other.RRs = append(other.RRs, *r)
	case 9:
		z.RRs = append(z.RRs, d.record(d.within(z.Origin), one(d, 1, 2, 5, 6, 15), []string{"\x00"}))
	case 10:
		z.Origin = d.within("\x00")
	case 11:
		at := d.IntN(len(x.Zones))
		x.Zones = slices.Delete(x.Zones, at, at+1)
	case 12:
		x.Zones = append(x.Zones, *z)
	case 13:
		x.Servers = append(x.Servers, api.Server{Addr: one(d, -1, 0, 1, 7, 1<<32-1, 1<<32), Zones: []int{d.IntN(7) - 1}})
	case 14:
		a, b := d.IntN(len(x.Zones)), d.IntN(len(x.Zones))
		x.Zones[a], x.Zones[b] = x.Zones[b], x.Zones[a]
	case 15:
		if r.Type == api.TypeNS {
			r.Data = []byte(d.within("\x00"))
		}
	}
}

// name is one that a tree may have, or one near it.
func (d drawing) name(x api.Tree) string {
	z := one(d, x.Zones...)
	n := z.Origin
	if len(z.RRs) > 0 {
		n = one(d, z.RRs...).Name
	}
	if d.IntN(4) == 0 {
		n, _ = name.Parent(n)
	}
	if d.IntN(4) == 0 {
		n = d.within(n)
	}
	return d.letters(n)
}

// query is a drawn one.
func (d drawing) query(x api.Tree) api.Message {
	m := api.Message{Header: api.Header{ID: d.IntN(9), RD: d.IntN(2) == 0}}
	m.Questions = []api.Question{{Name: d.name(x), Type: one(d, 1, 1, 2, 5, 6, 15, 16, 99), Class: 1}}
	switch d.IntN(60) {
	case 0:
		m.Response = true
	case 1:
		m.Opcode = 4
	case 2:
		m.Questions[0].Class = 3
	case 3:
		m.Questions[0].Type = one(d, 0, -1, 65535, 65536)
	case 4:
		m.Questions = append(m.Questions, m.Questions[0])
	case 5:
		m.Questions[0].Name = "\x01"
	}
	return m
}

// holds compares what a tree's calls answer with what the second tree's do, and tells how a query was answered.
func holds(t *testing.T, p plain, addr int, m api.Message) string {
	t.Helper()
	x := p.Tree
	got, ok := zone.Serve(x, addr, m)
	want, also := p.serve(addr, m)
	if ok != also || !wire.Same(got, want) {
		t.Fatalf("Serve(%v, %d, %v) is %v, %t, not %v, %t", x, addr, m, got, ok, want, also)
	}
	if len(m.Questions) > 0 {
		truth, ok := zone.Truth(x, m.Questions[0])
		want, also := p.truth(m.Questions[0])
		if ok != also || truth.Code != want.Code || !sameRecords(truth.Answers, want.Answers) {
			t.Fatalf("Truth(%v, %v) is %v, %t, not %v, %t", x, m.Questions[0], truth, ok, want, also)
		}
	}
	switch {
	case !ok:
		return "no reply"
	case got.Code == api.CodeNot || got.Code == api.CodeRefused:
		return "refused"
	case !got.AA:
		return "referred"
	case got.Code == api.CodeName:
		return "not there"
	case len(got.Answers) == 0:
		return "nothing"
	case got.Answers[len(got.Answers)-1].Type == api.TypeCNAME && m.Questions[0].Type != api.TypeCNAME:
		return "aliases"
	}
	return "answers"
}

// P18.1 to P18.4: drawn trees and changed ones, held against the second tree.
func TestDrawn(t *testing.T) {
	d := drawing{rand.New(rand.NewPCG(18, 1))}
	may, not, hinted := 0, 0, 0
	how := map[string]int{}
	for range 3000 {
		x := d.tree()
		for d.IntN(2) == 0 && len(x.Zones) > 0 && !slices.ContainsFunc(x.Zones, func(z api.Zone) bool { return len(z.RRs) == 0 }) {
			d.change(&x)
		}
		p := plainly(x)
		if got := zone.Can(x); got != p.may {
			t.Fatalf("Can(%v) is %t", x, got)
		}
		if l := zone.Hints(x); !sameRecords(l, p.hints()) {
			t.Fatalf("Hints(%v) is %v, not %v", x, l, p.hints())
		} else if len(l) > 0 {
			hinted++
		}
		if !p.may {
			not++
			holds(t, p, 0, asked("a.", api.TypeA))
			continue
		}
		may++
		for range 16 {
			how[holds(t, p, d.addr(), d.query(x))]++
		}
	}
	if may < 1000 || not < 1000 || hinted < 1000 {
		t.Errorf("%d trees may be, %d may not, %d have hints", may, not, hinted)
	}
	for _, what := range []string{"no reply", "refused", "referred", "not there", "nothing", "aliases", "answers"} {
		if how[what] < 300 {
			t.Errorf("only %d queries: %s", how[what], what)
		}
	}
}

// P18.5: what a server answers with AA is the truth, unless a chain leaves its zone, or has MaxChain aliases.
func TestTrue(t *testing.T) {
	d := drawing{rand.New(rand.NewPCG(18, 5))}
	held, chains := 0, 0
	for range 3000 {
		x := d.tree()
		if !zone.Can(x) {
			continue
		}
		for range 10 {
			m := d.query(x)
			got, ok := zone.Serve(x, d.addr(), m)
			if !ok || !got.AA || m.Questions[0].Type < 1 || m.Questions[0].Type > 65535 {
				continue
			}
			aliases := 0
			for _, r := range got.Answers {
				if r.Type == api.TypeCNAME && m.Questions[0].Type != api.TypeCNAME {
					aliases++
				}
			}
			// A chain that is cut off tells no records, and no SOA.
			if aliases > 0 && aliases == len(got.Answers) && len(got.Authority) == 0 {
				continue
			}
			want, ok := zone.Truth(x, m.Questions[0])
			if !ok || got.Code != want.Code || !sameRecords(got.Answers, want.Answers) {
				t.Fatalf("of %v the reply to %v is %v, but the truth %v, %t", x, m, got, want, ok)
			}
			if held++; aliases > 0 {
				chains++
			}
		}
	}
	if held < 2000 || chains < 200 {
		t.Errorf("%d replies, %d of them with aliases", held, chains)
	}
}

// P18.5: the same of the tree that is written out, for each name and type, and each server.
func TestTrueTree(t *testing.T) {
	p := plainly(tree())
	for _, z := range p.Zones {
		for _, r := range z.RRs {
			for _, kind := range []int{api.TypeA, api.TypeNS, api.TypeCNAME, api.TypeSOA, api.TypeMX, api.TypeTXT, 99} {
				for addr := range 8 {
					m := asked(".", kind)
					m.Questions[0].Name = r.Name
					holds(t, p, addr, m)
				}
			}
		}
	}
}

// Ends: trees and queries that are far too long.
func TestLong(t *testing.T) {
	x := tree()
	x.Servers = make([]api.Server, 1000000)
	may(t, "many servers", x, false)
	x = tree()
	x.Zones = append(x.Zones, make([]api.Zone, 1000000)...)
	may(t, "many zones", x, false)
	x = tree()
	x.Zones[3].RRs = make([]api.RR, 1000000)
	may(t, "many records", x, false)
	x = tree()
	x.Servers[4].Zones = slices.Repeat([]int{0, 1, 2, 3}, 500000)
	m := asked("www.com.", api.TypeMX)
	serves(t, x, ofAll, m, replied(m, true, api.CodeOK, []api.RR{mx("www.com.", "mail.com.")}, nil, nil))
}

// Ends: names of as many labels as can be, at a cut far down, in an alias, and not there.
func TestDeepNames(t *testing.T) {
	deep := ""
	for range 127 {
		deep += "d."
	}
	x := lone(cname("deep.", deep), cname("miss.", "x."+deep[2:]))
	cut := deep[4:]
	x.Zones[0].RRs = append(x.Zones[0].RRs, ns(cut, "a.root."), host(deep, 3))
	x.Zones = append(x.Zones, api.Zone{Origin: named(cut), RRs: []api.RR{soa(cut), ns(cut, "a.root."), host(deep, 4), record(deep, 99, "")}})
	x.Servers = append(x.Servers, api.Server{Addr: 1, Zones: []int{0, 1}})
	m := asked(deep, api.TypeA)
	serves(t, x, 0, m, replied(m, false, api.CodeOK, nil, []api.RR{ns(cut, "a.root.")}, nil))
	serves(t, x, 1, m, replied(m, true, api.CodeOK, []api.RR{host(deep, 4)}, nil, nil))
	comes(t, x, question("deep.", api.TypeA), api.CodeOK, cname("deep.", deep), host(deep, 4))
	comes(t, x, question("miss.", api.TypeA), api.CodeName, cname("miss.", "x."+deep[2:]))
	comes(t, x, question(deep[100:], api.TypeA), api.CodeOK)
}
