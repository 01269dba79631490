package zone_test

import (
	"math"
	"slices"
	"testing"

	"cicerone/api"
	"cicerone/zone"
)

// The chapter's example: a question below a cut is referred, with the addresses that the zone has.
func TestExample(t *testing.T) {
	x := tree()
	m := asked("www.com.", api.TypeA)
	serves(t, x, atRoot, m, replied(m, false, api.CodeOK, nil,
		[]api.RR{ns("com.", "ns.com."), ns("com.", "ns.net.")},
		[]api.RR{host("ns.com.", 4), host("ns.net.", 2), host("ns.net.", 3)}))
}

// P18.2: there is no reply of a server that is not there.
func TestServeNone(t *testing.T) {
	x := tree()
	for _, addr := range []int{7, 8, -1, 1 << 32, 1<<32 + 1, math.MinInt, math.MaxInt} {
		silent(t, x, addr, asked("www.com.", api.TypeA))
	}
	x.Servers = nil
	silent(t, x, 0, asked("www.com.", api.TypeA))
	silent(t, api.Tree{}, 0, asked("www.com.", api.TypeA))
	x.Servers = []api.Server{{Addr: 1<<32 - 1, Zones: []int{1}}}
	m := asked("in.com.", api.TypeA)
	serves(t, x, 1<<32-1, m, replied(m, true, api.CodeName, nil, []api.RR{soa("com.")}, nil))
}

// P18.2: there is no reply to what is no query of one question with a name.
func TestServeNoQuery(t *testing.T) {
	x := tree()
	q := asked("www.com.", api.TypeA).Questions[0]
	for _, m := range []api.Message{
		{}, {Questions: []api.Question{}}, {Questions: []api.Question{q, q}}, {Questions: []api.Question{q, q, q}},
		{Header: api.Header{Response: true}, Questions: []api.Question{q}},
		{Header: api.Header{Response: true, Opcode: 1}, Questions: []api.Question{q}},
		{Header: api.Header{Response: true}}, {Questions: make([]api.Question, 100000)},
	} {
		for addr := range 7 {
			silent(t, x, addr, m)
		}
	}
	for _, n := range []string{"", "com.", "\x03com", "\x03com\x00\x00", "\x01", "\xc0\x0c", "\x40" + string(make([]byte, 65))} {
		for _, opcode := range []int{0, 1} {
			m := api.Message{Header: api.Header{Opcode: opcode}, Questions: []api.Question{{Name: n, Type: 1, Class: 1}}}
			silent(t, x, ofAll, m)
			m.Questions[0].Class = 3
			silent(t, x, ofAll, m)
		}
	}
}

// P18.2: what of the query stands in the reply, and what does not.
func TestServeHeader(t *testing.T) {
	x := tree()
	for _, id := range []int{0, 1, 65535, -1, 65536, math.MaxInt} {
		for _, rd := range []bool{false, true} {
			m := asked("lost.com.", api.TypeMX)
			m.Questions[0].Name = great(m.Questions[0].Name)
			m.Header = api.Header{ID: id, RD: rd, AA: true, TC: true, RA: true, Code: api.CodeServer}
			m.Answers, m.Authority, m.Additional = []api.RR{host("a.", 1)}, []api.RR{host("b.", 1)}, []api.RR{host("c.", 1)}
			want := api.Message{
				Header:    api.Header{ID: id, Response: true, AA: true, RD: rd, Code: api.CodeName},
				Questions: []api.Question{{Name: great(named("lost.com.")), Type: api.TypeMX, Class: 1}},
				Answers:   []api.RR{cname("lost.com.", "not.com.")}, Authority: []api.RR{soa("com.")},
			}
			serves(t, x, atCom, m, want)
			m.Questions[0].Name = named("www.sub.com.")
			want.Questions = m.Questions
			want.AA, want.Code, want.Answers, want.Authority = false, api.CodeOK, nil, []api.RR{ns("sub.com.", "ns.sub.com."), ns("sub.com.", "ns.com."), ns("sub.com.", "far.net.")}
			want.Additional = []api.RR{host("ns.sub.com.", 8), host("ns.sub.com.", 9), host("ns.com.", 4)}
			serves(t, x, atCom, m, want)
		}
	}
}

// P18.2: other Opcodes, ahead of other Classes, ahead of names that are not the server's.
func TestServeCodes(t *testing.T) {
	x := tree()
	for _, opcode := range []int{1, 2, 5, 15, 16, -1, math.MinInt, math.MaxInt} {
		for _, class := range []int{1, 3} {
			for _, text := range []string{"www.com.", "www.org.", "."} {
				for addr := range 7 {
					m := asked(text, 1)
					m.Opcode, m.Questions[0].Class = opcode, class
					serves(t, x, addr, m, replied(m, false, api.CodeNot, nil, nil, nil))
				}
			}
		}
	}
	for _, class := range []int{0, 2, 3, 255, 257, 65535, -1, 65536, 65537, math.MinInt} {
		for _, text := range []string{"www.com.", "www.org.", "."} {
			m := asked(text, 1)
			m.Questions[0].Class = class
			serves(t, x, atCom, m, replied(m, false, api.CodeRefused, nil, nil, nil))
			serves(t, x, ofNone, m, replied(m, false, api.CodeRefused, nil, nil, nil))
		}
	}
	for addr, l := range map[int][]string{
		atCom: {".", "org.", "www.net.", "xcom.", "com.org.", "x\\003com."}, atNet: {".", "www.com.", "to."}, atSub: {"com.", "www.com.", "net.", "xsub.com."},
		ofComSub: {".", "net.", "www.net."}, ofNone: {".", "com.", "www.net.", "www.sub.com."},
	} {
		for _, text := range l {
			m := asked(text, 1)
			serves(t, x, addr, m, replied(m, false, api.CodeRefused, nil, nil, nil))
		}
	}
}

// P18.2: of the server's zones that with the most labels answers.
func TestServeZones(t *testing.T) {
	x := tree()
	m := asked("www.sub.com.", api.TypeA)
	answer := replied(m, true, api.CodeOK, []api.RR{host("www.sub.com.", 12)}, nil, nil)
	refer := replied(m, false, api.CodeOK, nil,
		[]api.RR{ns("sub.com.", "ns.sub.com."), ns("sub.com.", "ns.com."), ns("sub.com.", "far.net.")},
		[]api.RR{host("ns.sub.com.", 8), host("ns.sub.com.", 9), host("ns.com.", 4)})
	up := replied(m, false, api.CodeOK, nil,
		[]api.RR{ns("com.", "ns.com."), ns("com.", "ns.net.")},
		[]api.RR{host("ns.com.", 4), host("ns.net.", 2), host("ns.net.", 3)})
	for addr, want := range map[int]api.Message{atRoot: up, atCom: refer, atSub: answer, ofAll: answer, ofComSub: answer} {
		serves(t, x, addr, m, want)
	}
	for _, zones := range [][]int{{0, 2}, {2, 0}, {0}, {0, 0, 2, 0}} {
		x.Servers[6].Zones = zones
		serves(t, x, ofNone, m, up)
	}
	for _, zones := range [][]int{{0, 1}, {1, 0}, {2, 1, 0}, {1}} {
		x.Servers[6].Zones = zones
		serves(t, x, ofNone, m, refer)
	}
	for _, zones := range [][]int{{0, 1, 2, 3}, {3, 2, 1, 0}, {3, 0}, {0, 3}, {1, 3, 1}} {
		x.Servers[6].Zones = zones
		serves(t, x, ofNone, m, answer)
	}
}

// P18.2: at a cut and below it is a referral, whatever is asked, and whatever the zone has there.
func TestServeCut(t *testing.T) {
	x := tree()
	for _, text := range []string{"sub.com.", "www.sub.com.", "ns.sub.com.", "old.sub.com.", "not.sub.com.", "a.b.c.sub.com.", "x.old.sub.com."} {
		for _, kind := range []int{api.TypeA, api.TypeNS, api.TypeSOA, api.TypeCNAME, api.TypeMX, 99, 255, 0, -1, 65536} {
			m := asked(text, kind)
			serves(t, x, atCom, m, replied(m, false, api.CodeOK, nil,
				[]api.RR{ns("sub.com.", "ns.sub.com."), ns("sub.com.", "ns.com."), ns("sub.com.", "far.net.")},
				[]api.RR{host("ns.sub.com.", 8), host("ns.sub.com.", 9), host("ns.com.", 4)}))
			m.Questions[0].Name = great(m.Questions[0].Name)
			if got, ok := zone.Serve(x, atCom, m); !ok || got.AA || len(got.Authority) != 3 || got.Questions[0] != m.Questions[0] {
				t.Errorf("in great letters %v is %v, %t", m, got, ok)
			}
		}
	}
	// None of a cut's servers has an address in the zone.
	add(&x, atNet, ns("cut.net.", "ns.com."))
	x.Zones = append(x.Zones, api.Zone{Origin: named("cut.net."), RRs: []api.RR{soa("cut.net."), ns("cut.net.", "ns.com.")}})
	m := asked("cut.net.", api.TypeA)
	serves(t, x, atNet, m, replied(m, false, api.CodeOK, nil, []api.RR{ns("cut.net.", "ns.com.")}, nil))
}

// P18.2: Additional has the addresses name by name, in the names' order, each name once, those of a name in the zone's order.
func TestServeAdditional(t *testing.T) {
	upper, at := ns("cut.", "one."), host("cut.", 31)
	upper.Data, at.Name = []byte(great(named("one."))), great(named("cut."))
	told := []api.RR{
		ns("cut.", "none."), ns("cut.", "one."), ns("cut.", "two."), upper, ns("cut.", "cut."), ns("cut.", "alias."),
		ns("cut.", "one."), ns("cut.", "text."), ns("cut.", "in.cut."), ns("cut.", "two."),
	}
	x := lone(
		host("two.", 21), at, told[0], host("in.cut.", 41), told[1], host("one.", 11), told[2], told[3], host("two.", 20), told[4], told[5],
		host("one.", 10), record("text.", api.TypeTXT, "\x00"), told[6], host("one.", 11), cname("alias.", "one."), told[7], told[8], told[9], host("else.", 1))
	x.Zones = append(x.Zones, api.Zone{Origin: named("cut."), RRs: append([]api.RR{soa("cut.")}, told...)})
	m := asked("www.cut.", api.TypeA)
	serves(t, x, 0, m, replied(m, false, api.CodeOK, nil, told,
		[]api.RR{host("one.", 11), host("one.", 10), host("one.", 11), host("two.", 21), host("two.", 20), at, host("in.cut.", 41)}))
}

// P18.2: records of the Type, in the zone's order, as they stand there.
func TestServeRecords(t *testing.T) {
	x := tree()
	x.Zones[atCom].RRs[6].Name, x.Zones[atCom].RRs[6].TTL = great(named("www.com.")), 0
	last := host("www.com.", 6)
	last.Name, last.TTL = great(last.Name), 0
	for _, w := range []struct {
		addr int
		text string
		kind int
		want []api.RR
	}{
		{atCom, "www.com.", api.TypeA, []api.RR{host("www.com.", 5), last}},
		{atCom, "www.com.", api.TypeMX, []api.RR{mx("www.com.", "mail.com.")}},
		{atCom, "com.", api.TypeNS, []api.RR{ns("com.", "ns.com."), ns("com.", "ns.net.")}},
		{atCom, "com.", api.TypeSOA, []api.RR{soa("com.")}},
		{atRoot, ".", api.TypeNS, []api.RR{ns(".", "a.root."), ns(".", "ns.net.")}},
		{atRoot, ".", api.TypeSOA, []api.RR{soa(".")}},
		{atRoot, "text.", api.TypeTXT, []api.RR{record("text.", api.TypeTXT, "\x02hi")}},
		{atCom, "ns.com.", api.TypeA, []api.RR{host("ns.com.", 4)}},
		{atCom, "x.y.z.com.", api.TypeA, []api.RR{host("x.y.z.com.", 7)}},
		{atSub, "ns.sub.com.", api.TypeA, []api.RR{host("ns.sub.com.", 8)}},
		{ofComSub, "sub.com.", api.TypeA, []api.RR{host("sub.com.", 13)}},
		{atCom, "one.com.", api.TypeCNAME, []api.RR{cname("one.com.", "two.com.")}},
		{atCom, "down.com.", api.TypeCNAME, []api.RR{cname("down.com.", "www.sub.com.")}},
	} {
		m := asked(w.text, w.kind)
		serves(t, x, w.addr, m, replied(m, true, api.CodeOK, w.want, nil, nil))
		m.Questions[0].Name = great(m.Questions[0].Name)
		serves(t, x, w.addr, m, replied(m, true, api.CodeOK, w.want, nil, nil))
	}
}

// P18.2: no records of the Type: the zone's SOA, and whether the name is there.
func TestServeNoRecords(t *testing.T) {
	x := tree()
	for _, w := range []struct {
		addr  int
		text  string
		kinds []int
		zone  string
		code  int
	}{
		{atCom, "www.com.", []int{api.TypeNS, api.TypeCNAME, api.TypeSOA, 99, 255, 0, -1, 65536, math.MinInt, math.MaxInt}, "com.", api.CodeOK},
		{atCom, "com.", []int{api.TypeA, api.TypeCNAME, 0}, "com.", api.CodeOK},
		{atCom, "y.z.com.", []int{api.TypeA, api.TypeNS, api.TypeCNAME}, "com.", api.CodeOK},
		{atCom, "z.com.", []int{api.TypeA, api.TypeNS, api.TypeCNAME}, "com.", api.CodeOK},
		{atRoot, ".", []int{api.TypeA, api.TypeCNAME}, ".", api.CodeOK},
		{atRoot, "root.", []int{api.TypeA, api.TypeNS}, ".", api.CodeOK},
		{atSub, "sub.com.", []int{api.TypeMX}, "sub.com.", api.CodeOK},
		{atCom, "not.com.", []int{api.TypeA, api.TypeCNAME, 0, -1}, "com.", api.CodeName},
		{atCom, "w.x.y.z.com.", []int{api.TypeA}, "com.", api.CodeName},
		{atCom, "a.www.com.", []int{api.TypeA, api.TypeMX}, "com.", api.CodeName},
		{atCom, "w.com.", []int{api.TypeA}, "com.", api.CodeName},
		{atCom, "ww.com.", []int{api.TypeA}, "com.", api.CodeName},
		{atCom, "xwww.com.", []int{api.TypeA}, "com.", api.CodeName},
		{atCom, "a.one.com.", []int{api.TypeA}, "com.", api.CodeName},
		{atCom, "\\003www.com.", []int{api.TypeA}, "com.", api.CodeName},
		{atRoot, "org.", []int{api.TypeA}, ".", api.CodeName},
		{atSub, "old.sub.com.", []int{api.TypeA}, "sub.com.", api.CodeName},
	} {
		for _, kind := range w.kinds {
			m := asked(w.text, kind)
			serves(t, x, w.addr, m, replied(m, true, w.code, nil, []api.RR{soa(w.zone)}, nil))
			m.Questions[0].Name = great(m.Questions[0].Name)
			serves(t, x, w.addr, m, replied(m, true, w.code, nil, []api.RR{soa(w.zone)}, nil))
		}
	}
}

// P18.2: a name above a cut is there by the cut alone; a part of a label is no name within it.
func TestServeThere(t *testing.T) {
	x := lone(ns("b.a.", "a.root."), host("d\\001c.", 1))
	x.Zones = append(x.Zones, api.Zone{Origin: named("b.a."), RRs: []api.RR{soa("b.a."), ns("b.a.", "a.root.")}})
	m := asked("a.", api.TypeA)
	serves(t, x, 0, m, replied(m, true, api.CodeOK, nil, []api.RR{soa(".")}, nil))
	m = asked("c.", api.TypeA)
	serves(t, x, 0, m, replied(m, true, api.CodeName, nil, []api.RR{soa(".")}, nil))
}

// P18.2: aliases are followed within the zone.
func TestServeAliases(t *testing.T) {
	x := tree()
	one, two := cname("one.com.", "two.com."), cname("two.com.", "www.com.")
	m := asked("one.com.", api.TypeA)
	serves(t, x, atCom, m, replied(m, true, api.CodeOK, []api.RR{one, two, host("www.com.", 5), host("www.com.", 6)}, nil, nil))
	m = asked("one.com.", api.TypeMX)
	serves(t, x, atCom, m, replied(m, true, api.CodeOK, []api.RR{one, two, mx("www.com.", "mail.com.")}, nil, nil))
	m = asked("one.com.", 99)
	serves(t, x, atCom, m, replied(m, true, api.CodeOK, []api.RR{one, two}, []api.RR{soa("com.")}, nil))
	m = asked("one.com.", 255)
	serves(t, x, atCom, m, replied(m, true, api.CodeOK, []api.RR{one, two}, []api.RR{soa("com.")}, nil))
	m = asked("one.com.", -5)
	serves(t, x, atCom, m, replied(m, true, api.CodeOK, []api.RR{one, two}, []api.RR{soa("com.")}, nil))
	m = asked("lost.com.", api.TypeA)
	serves(t, x, atCom, m, replied(m, true, api.CodeName, []api.RR{cname("lost.com.", "not.com.")}, []api.RR{soa("com.")}, nil))
	m = asked("to.", api.TypeA)
	serves(t, x, atRoot, m, replied(m, true, api.CodeOK, []api.RR{cname("to.", "a.root."), host("a.root.", 1)}, nil, nil))
	// In other letters.
	x.Zones[atCom].RRs[8].Data = []byte(great(named("two.com.")))
	one.Data = x.Zones[atCom].RRs[8].Data
	m = asked("one.com.", api.TypeMX)
	serves(t, x, atCom, m, replied(m, true, api.CodeOK, []api.RR{one, two, mx("www.com.", "mail.com.")}, nil, nil))
}

// P18.2: an alias to what is not the zone's, or at or below a cut, is the end, also where the server has that zone, too.
func TestServeAliasesEnd(t *testing.T) {
	x := tree()
	for text, alias := range map[string]api.RR{
		"out.com.": cname("out.com.", "www.net."), "down.com.": cname("down.com.", "www.sub.com."), "at.com.": cname("at.com.", "sub.com."),
	} {
		for _, addr := range []int{atCom, ofAll, ofComSub} {
			for _, kind := range []int{api.TypeA, api.TypeNS, 99} {
				m := asked(text, kind)
				serves(t, x, addr, m, replied(m, true, api.CodeOK, []api.RR{alias}, nil, nil))
			}
		}
	}
	m := asked("away.", api.TypeA)
	serves(t, x, ofAll, m, replied(m, true, api.CodeOK, []api.RR{cname("away.", "www.com.")}, nil, nil))
	m = asked("in.net.", api.TypeA)
	serves(t, x, ofAll, m, replied(m, true, api.CodeOK, []api.RR{cname("in.net.", "one.com.")}, nil, nil))
}

// P18.2: chains of aliases up to MaxChain and beyond, and one that ends in nothing.
func TestServeChains(t *testing.T) {
	for many := range 12 {
		l := chain(many)
		x := lone(append(slices.Clone(l), host(link(many+1), 9))...)
		none := lone(l...)
		for _, kind := range []int{api.TypeA, 99} {
			m := asked(link(1), kind)
			want := replied(m, true, api.CodeOK, l, nil, nil)
			switch {
			case many >= api.MaxChain:
				want.Answers = l[:api.MaxChain]
			case kind == api.TypeA:
				want.Answers = append(slices.Clone(l), host(link(many+1), 9))
			default:
				want.Authority = []api.RR{soa(".")}
			}
			serves(t, x, 0, m, want)
			if many < api.MaxChain {
				want = replied(m, true, api.CodeName, l, []api.RR{soa(".")}, nil)
			}
			serves(t, none, 0, m, want)
		}
		if many > 0 {
			m := asked(link(1), api.TypeCNAME)
			serves(t, x, 0, m, replied(m, true, api.CodeOK, l[:1], nil, nil))
		}
	}
}

// P18.2: aliases in a circle, and one to itself.
func TestServeCircle(t *testing.T) {
	for many := 1; many <= 9; many++ {
		l := chain(many)
		l[many-1] = cname(link(many), link(1))
		x := lone(l...)
		var want []api.RR
		for i := range api.MaxChain {
			want = append(want, l[i%many])
		}
		m := asked(link(1), api.TypeA)
		serves(t, x, 0, m, replied(m, true, api.CodeOK, want, nil, nil))
		m = asked(link(1), api.TypeCNAME)
		serves(t, x, 0, m, replied(m, true, api.CodeOK, l[:1], nil, nil))
	}
}

// P18.2: a chain whose last name is at a cut, below one, or elsewhere, behind so many aliases.
func TestServeChainsEnd(t *testing.T) {
	for many := 1; many <= 9; many++ {
		for _, end := range []string{"cut.", "a.cut.", "b.a.cut."} {
			l := chain(many)
			l[many-1] = cname(link(many), end)
			x := lone(append(slices.Clone(l), ns("cut.", "a.root."))...)
			x.Zones = append(x.Zones, api.Zone{Origin: named("cut."), RRs: []api.RR{soa("cut."), ns("cut.", "a.root."), host("a.cut.", 1)}})
			m := asked(link(1), api.TypeA)
			serves(t, x, 0, m, replied(m, true, api.CodeOK, l[:min(many, api.MaxChain)], nil, nil))
		}
	}
}

// P18.2: a zone with several servers, each of which has several zones.
func TestServeSeveral(t *testing.T) {
	x := tree()
	for i := range 33 {
		x.Servers = append(x.Servers, api.Server{Addr: 1000 - i, Zones: []int{i % 4, (i + 1) % 4}})
	}
	m := asked("www.net.", api.TypeTXT)
	none := replied(m, true, api.CodeOK, nil, []api.RR{soa("net.")}, nil)
	refer := replied(m, false, api.CodeOK, nil, []api.RR{ns("net.", "ns.net.")}, []api.RR{host("ns.net.", 2), host("ns.net.", 3)})
	for i := range 33 {
		serves(t, x, 1000-i, m, []api.Message{refer, none, none, refer}[i%4])
	}
}
