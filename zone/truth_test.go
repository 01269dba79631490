package zone_test

import (
	"math"
	"slices"
	"testing"

	"cicerone/api"
	"cicerone/zone"
)

// question is what a query for a text's name asks.
func question(text string, t int) api.Question { return asked(text, t).Questions[0] }

// P18.3: questions of which there is no truth.
func TestTruthNone(t *testing.T) {
	x := tree()
	for _, n := range []string{"", "www.com.", "\x03www\x03com", "\x03com\x00\x00", "\x01", "\xc0\x0c"} {
		unknown(t, x, api.Question{Name: n, Type: 1, Class: 1})
	}
	for _, kind := range []int{0, -1, 65536, 65537, math.MinInt, math.MaxInt} {
		unknown(t, x, question("www.com.", kind))
		unknown(t, x, question("not.com.", kind))
	}
	for _, class := range []int{0, 2, 3, 255, 257, 65535, -1, 65537, math.MinInt, math.MaxInt} {
		unknown(t, x, api.Question{Name: named("www.com."), Type: 1, Class: class})
	}
	unknown(t, api.Tree{}, question("www.com.", 1))
	x.Zones[0].RRs = x.Zones[0].RRs[1:]
	unknown(t, x, question("www.com.", 1))
}

// P18.3: the records of the Type, of the zone with the most labels; servers play no part.
func TestTruth(t *testing.T) {
	x := tree()
	for range 2 {
		comes(t, x, question("www.com.", api.TypeA), api.CodeOK, host("www.com.", 5), host("www.com.", 6))
		comes(t, x, question("www.com.", api.TypeMX), api.CodeOK, mx("www.com.", "mail.com."))
		comes(t, x, question("www.com.", 255), api.CodeOK)
		comes(t, x, question("www.com.", 65535), api.CodeOK)
		comes(t, x, question("com.", api.TypeNS), api.CodeOK, ns("com.", "ns.com."), ns("com.", "ns.net."))
		comes(t, x, question("com.", api.TypeSOA), api.CodeOK, soa("com."))
		comes(t, x, question("com.", api.TypeA), api.CodeOK)
		comes(t, x, question(".", api.TypeNS), api.CodeOK, ns(".", "a.root."), ns(".", "ns.net."))
		comes(t, x, question(".", api.TypeSOA), api.CodeOK, soa("."))
		comes(t, x, question("sub.com.", api.TypeNS), api.CodeOK, ns("sub.com.", "far.net."), ns("sub.com.", "ns.sub.com."), ns("sub.com.", "ns.com."))
		comes(t, x, question("sub.com.", api.TypeA), api.CodeOK, host("sub.com.", 13))
		comes(t, x, question("ns.net.", api.TypeA), api.CodeOK, host("ns.net.", 2))
		comes(t, x, question("ns.sub.com.", api.TypeA), api.CodeOK, host("ns.sub.com.", 8))
		x.Servers = nil
	}
}

// P18.3: whether a name is there, in the zone with the most labels.
func TestTruthThere(t *testing.T) {
	x := tree()
	for _, text := range []string{"z.com.", "y.z.com.", "root.", "www.net.", "one.net."} {
		code := api.CodeOK
		if text == "one.net." {
			code = api.CodeName
		}
		comes(t, x, question(text, api.TypeTXT), code)
	}
	for _, text := range []string{"old.sub.com.", "far.net.", "not.com.", "a.www.com.", "org.", "a.b.org.", "w.x.y.z.com.", "ww.com.", "\\003www.com.", "a.one.com."} {
		for _, kind := range []int{api.TypeA, api.TypeNS, api.TypeCNAME, 255, 65535} {
			comes(t, x, question(text, kind), api.CodeName)
		}
	}
	// A name that is there by a cut alone.
	y := lone(ns("b.a.", "a.root."))
	y.Zones = append(y.Zones, api.Zone{Origin: named("b.a."), RRs: []api.RR{soa("b.a."), ns("b.a.", "a.root.")}})
	comes(t, y, question("a.", api.TypeA), api.CodeOK)
	comes(t, y, question("b.", api.TypeA), api.CodeName)
	comes(t, y, question("c.b.a.", api.TypeA), api.CodeName)
	comes(t, y, question("b.a.", api.TypeA), api.CodeOK)
}

// P18.3: names in other letters; records stand as the zone has them.
func TestTruthLetters(t *testing.T) {
	x := tree()
	for i, r := range x.Zones[atCom].RRs {
		if i%2 == 0 {
			x.Zones[atCom].RRs[i].Name = great(r.Name)
		}
		if r.Type == api.TypeCNAME {
			x.Zones[atCom].RRs[i].Data = []byte(great(string(r.Data)))
		}
	}
	var want []api.RR
	for _, r := range x.Zones[atCom].RRs {
		if n := great(r.Name); r.Type == api.TypeA && n == great(named("www.com.")) {
			want = append(want, r)
		}
	}
	q := question("www.com.", api.TypeA)
	comes(t, x, q, api.CodeOK, want...)
	q.Name = great(q.Name)
	comes(t, x, q, api.CodeOK, want...)
	q.Name = great(named("one.com."))
	comes(t, x, q, api.CodeOK, append(slices.Clone(x.Zones[atCom].RRs[8:10]), want...)...)
	if len(want) != 2 || want[0].Name == want[1].Name && want[0].Name == named("www.com.") {
		t.Errorf("the tree has %v", want)
	}
}

// P18.3: aliases are followed through all zones; one that is asked is not.
func TestTruthAliases(t *testing.T) {
	x := tree()
	one, two := cname("one.com.", "two.com."), cname("two.com.", "www.com.")
	comes(t, x, question("one.com.", api.TypeA), api.CodeOK, one, two, host("www.com.", 5), host("www.com.", 6))
	comes(t, x, question("one.com.", api.TypeTXT), api.CodeOK, one, two)
	comes(t, x, question("one.com.", api.TypeCNAME), api.CodeOK, one)
	comes(t, x, question("two.com.", api.TypeCNAME), api.CodeOK, two)
	comes(t, x, question("in.net.", api.TypeMX), api.CodeOK, cname("in.net.", "one.com."), one, two, mx("www.com.", "mail.com."))
	comes(t, x, question("away.", api.TypeMX), api.CodeOK, cname("away.", "www.com."), mx("www.com.", "mail.com."))
	comes(t, x, question("out.com.", api.TypeA), api.CodeOK, cname("out.com.", "www.net."), host("www.net.", 11))
	comes(t, x, question("down.com.", api.TypeA), api.CodeOK, cname("down.com.", "www.sub.com."), host("www.sub.com.", 12))
	comes(t, x, question("at.com.", api.TypeA), api.CodeOK, cname("at.com.", "sub.com."), host("sub.com.", 13))
	comes(t, x, question("at.com.", api.TypeNS), api.CodeOK, cname("at.com.", "sub.com."), ns("sub.com.", "far.net."), ns("sub.com.", "ns.sub.com."), ns("sub.com.", "ns.com."))
	comes(t, x, question("lost.com.", api.TypeA), api.CodeName, cname("lost.com.", "not.com."))
	comes(t, x, question("lost.com.", api.TypeCNAME), api.CodeOK, cname("lost.com.", "not.com."))
	// One that only the parent has, below its cut, leads nowhere.
	add(&x, atSub, cname("old.sub.com.", "gone.org."))
	comes(t, x, question("old.sub.com.", api.TypeA), api.CodeName, cname("old.sub.com.", "gone.org."))
}

// P18.3: chains of aliases up to MaxChain have a truth, longer ones and circles do not.
func TestTruthChains(t *testing.T) {
	for many := range 12 {
		l := chain(many)
		x := lone(append(slices.Clone(l), host(link(many+1), 9))...)
		none := lone(l...)
		if many > api.MaxChain {
			unknown(t, x, question(link(1), api.TypeA))
			unknown(t, x, question(link(1), 99))
			unknown(t, none, question(link(1), api.TypeA))
			comes(t, x, question(link(many-api.MaxChain+1), api.TypeA), api.CodeOK, append(slices.Clone(l[many-api.MaxChain:]), host(link(many+1), 9))...)
		} else {
			comes(t, x, question(link(1), api.TypeA), api.CodeOK, append(slices.Clone(l), host(link(many+1), 9))...)
			comes(t, x, question(link(1), 99), api.CodeOK, l...)
			comes(t, none, question(link(1), api.TypeA), api.CodeName, l...)
		}
		if many > 0 {
			comes(t, x, question(link(1), api.TypeCNAME), api.CodeOK, l[0])
			l[many-1] = cname(link(many), link(1))
			unknown(t, lone(l...), question(link(1), api.TypeA))
			comes(t, lone(l...), question(link(1), api.TypeCNAME), api.CodeOK, l[0])
		}
	}
}

// P18.3: a chain through two zones, back and forth.
func TestTruthBackForth(t *testing.T) {
	for many := range 12 {
		x := tree()
		var want []api.RR
		names := []string{"c0.com."}
		for i := range many {
			zone, next := []int{atCom, atNet}[i%2], link(i + 1)[:i+1]+[]string{".net.", ".com."}[i%2]
			r := cname(names[i], next)
			add(&x, zone, r)
			want, names = append(want, r), append(names, next)
		}
		last := host(names[many], 9)
		add(&x, []int{atCom, atNet}[many%2], last)
		if many > api.MaxChain {
			unknown(t, x, question("c0.com.", api.TypeA))
		} else {
			comes(t, x, question("c0.com.", api.TypeA), api.CodeOK, append(want, last)...)
		}
	}
}

// P18.4: the addresses of the root's servers: of the zone with the most labels, and, if that has none, of the first one.
func TestHints(t *testing.T) {
	x := tree()
	hints(t, x, host("a.root.", 1), host("ns.net.", 2))
	drop(&x, atNet, "ns.net.", api.TypeA)
	hints(t, x, host("a.root.", 1), host("ns.net.", 2), host("ns.net.", 3))
	add(&x, atNet, record("ns.net.", api.TypeTXT, "\x00"))
	hints(t, x, host("a.root.", 1), host("ns.net.", 2), host("ns.net.", 3))
	drop(&x, atRoot, "ns.net.", api.TypeA)
	hints(t, x, host("a.root.", 1))
	drop(&x, atRoot, "a.root.", api.TypeA)
	hints(t, x)
	add(&x, atNet, host("ns.net.", 7), host("a.net.", 8), host("ns.net.", 6))
	hints(t, x, host("ns.net.", 7), host("ns.net.", 6))
}

// P18.4: names in their order, each once, in other letters too; those of a name in the zone's order.
func TestHintsOrder(t *testing.T) {
	second := ns(".", "two.")
	second.Data = []byte(great(named("two.")))
	last := host("one.", 10)
	last.Name, last.TTL = great(last.Name), 0
	x := lone(host("one.", 12), host("two.", 20), ns(".", "two."), ns(".", "one."), host("one.", 11), second, ns(".", "one."), last, host("three.", 30), ns(".", "four."), ns(".", "a.root."))
	hints(t, x, host("two.", 20), host("one.", 12), host("one.", 11), last)
	add(&x, 0, host("a.root.", 40))
	hints(t, x, host("a.root.", 40), host("two.", 20), host("one.", 12), host("one.", 11), last)
}

// P18.4: addresses alone, and those of the name itself; an alias leads nowhere.
func TestHintsOthers(t *testing.T) {
	hints(t, lone(record("a.root.", api.TypeAAAA, "0123456789abcdef"), record("a.root.", api.TypeTXT, "\x00"), host("x.a.root.", 1), host("root.", 1)))
	hints(t, lone(cname("a.root.", "b.root."), host("b.root.", 1)))
	hints(t, lone(host(".", 1), host("a.root.", 2), host("a.root.", 2)), host("a.root.", 2), host("a.root.", 2))
	hints(t, lone(host(".", 1), ns(".", ".")), host(".", 1))
}

// P18.4: a name three zones deep; only the first zone and the deepest one count.
func TestHintsDeep(t *testing.T) {
	x := tree()
	add(&x, atRoot, ns(".", "ns.sub.com."))
	add(&x, atRoot, host("ns.sub.com.", 99))
	hints(t, x, host("a.root.", 1), host("ns.net.", 2), host("ns.sub.com.", 8))
	drop(&x, atSub, "ns.sub.com.", api.TypeA)
	hints(t, x, host("a.root.", 1), host("ns.net.", 2), host("ns.sub.com.", 99))
	drop(&x, atRoot, "ns.sub.com.", api.TypeA)
	// com. has some below its cut, which play no part.
	hints(t, x, host("a.root.", 1), host("ns.net.", 2))
	x.Servers = nil
	hints(t, x, host("a.root.", 1), host("ns.net.", 2))
	hints(t, api.Tree{})
	x.Zones[0].Origin = "."
	hints(t, x)
	if l := zone.Hints(x); len(l) != 0 {
		t.Errorf("Hints is %v", l)
	}
}
