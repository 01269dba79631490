package zone_test

import (
	"math"
	"slices"
	"strconv"
	"strings"
	"testing"

	"cicerone/api"
)

// change is a tree with something else about it.
type change map[string]func(x *api.Tree)

// add puts records behind a zone's.
func add(x *api.Tree, zone int, l ...api.RR) {
	x.Zones[zone].RRs = append(x.Zones[zone].RRs, l...)
}

// drop takes the records of a name and type out of a zone.
func drop(x *api.Tree, zone int, owner string, t int) {
	x.Zones[zone].RRs = slices.DeleteFunc(x.Zones[zone].RRs, func(r api.RR) bool { return r.Name == named(owner) && r.Type == t })
}

// with is the tree's www.net. with something else about it.
func with(do func(r *api.RR)) func(x *api.Tree) {
	return func(x *api.Tree) { do(&x.Zones[atNet].RRs[3]) }
}

// all asks of each changed tree whether it may be.
func (c change) all(t *testing.T, want bool) {
	t.Helper()
	for what, do := range c {
		x := tree()
		do(&x)
		may(t, what, x, want)
	}
}

// P18.1: trees that may be as they stand.
func TestCan(t *testing.T) {
	may(t, "the tree", tree(), true)
	may(t, "a zone alone", lone(), true)
	may(t, "no server", api.Tree{Zones: lone().Zones}, true)
	may(t, "nothing", api.Tree{}, false)
	may(t, "servers alone", api.Tree{Servers: []api.Server{{Addr: 1}}}, false)
	may(t, "a zone without records", api.Tree{Zones: []api.Zone{{Origin: named(".")}}}, false)
	may(t, "a zone that is nothing", api.Tree{Zones: []api.Zone{{}}}, false)
}

// P18.1: zones and their origins.
func TestCanZones(t *testing.T) {
	change{
		"no zones":         func(x *api.Tree) { x.Zones, x.Servers = nil, nil },
		"an empty list":    func(x *api.Tree) { x.Zones, x.Servers = []api.Zone{}, nil },
		"the root second":  func(x *api.Tree) { x.Zones[0], x.Zones[1] = x.Zones[1], x.Zones[0] },
		"no root":          func(x *api.Tree) { x.Zones, x.Servers = x.Zones[1:], nil },
		"a root's text":    func(x *api.Tree) { x.Zones[0].Origin = "." },
		"no origin":        func(x *api.Tree) { x.Zones[0].Origin = "" },
		"the root twice":   func(x *api.Tree) { x.Zones = append(x.Zones, x.Zones[0]) },
		"a zone twice":     func(x *api.Tree) { x.Zones = append(x.Zones, x.Zones[2]) },
		"in other letters": func(x *api.Tree) { x.Zones = append(x.Zones, x.Zones[2]); x.Zones[4].Origin = great(named("net.")) },
		"an origin's text": func(x *api.Tree) { x.Zones[3].Origin = "sub.com." },
		"an origin empty":  func(x *api.Tree) { x.Zones[3].Origin = "" },
		"one that is none": func(x *api.Tree) { x.Zones = append(x.Zones, api.Zone{Origin: "\x01"}) },
		"another origin":   func(x *api.Tree) { x.Zones[3].Origin = named("sup.com.") },
	}.all(t, false)
	change{
		"great letters": func(x *api.Tree) { x.Zones[1].Origin = great(named("com.")) },
		"another order": func(x *api.Tree) {
			x.Zones[1], x.Zones[3] = x.Zones[3], x.Zones[1]
			x.Zones[2], x.Zones[3] = x.Zones[3], x.Zones[2]
		},
	}.all(t, true)
}

// many is a tree of so many zones, all below the root.
func many(zones int) api.Tree {
	x := lone()
	for i := range zones - 1 {
		o := "z" + strconv.Itoa(i) + "."
		add(&x, 0, ns(o, "a.root."))
		x.Zones = append(x.Zones, api.Zone{Origin: named(o), RRs: []api.RR{soa(o), ns(o, "a.root.")}})
	}
	return x
}

// P18.1: from 1 to 20 zones.
func TestCanManyZones(t *testing.T) {
	for zones := 1; zones <= 25; zones++ {
		may(t, strconv.Itoa(zones)+" zones", many(zones), zones <= 20)
	}
}

// P18.1: what each record must be.
func TestCanRecords(t *testing.T) {
	change{
		"outside":           func(x *api.Tree) { add(x, atNet, host("www.org.", 1)) },
		"above":             func(x *api.Tree) { add(x, atSub, host("com.", 1)) },
		"beside":            func(x *api.Tree) { add(x, atNet, host("xnet.", 1)) },
		"labels alike":      func(x *api.Tree) { add(x, atNet, host("x\\003net.", 1)) },
		"the root":          func(x *api.Tree) { add(x, atNet, host(".", 1)) },
		"no name":           with(func(r *api.RR) { r.Name = "" }),
		"a name's text":     with(func(r *api.RR) { r.Name = "www.net." }),
		"bytes behind":      with(func(r *api.RR) { r.Name += "\x00" }),
		"a name too long":   with(func(r *api.RR) { r.Name = strings.Repeat("\x01x", 126) + named("net.") }),
		"Class 0":           with(func(r *api.RR) { r.Class = 0 }),
		"Class 3":           with(func(r *api.RR) { r.Class = 3 }),
		"Class 255":         with(func(r *api.RR) { r.Class = 255 }),
		"Class -1":          with(func(r *api.RR) { r.Class = -1 }),
		"Class 65537":       with(func(r *api.RR) { r.Class = 65537 }),
		"TTL -1":            with(func(r *api.RR) { r.TTL = -1 }),
		"TTL 2^31":          with(func(r *api.RR) { r.TTL = 1 << 31 }),
		"TTL 2^32":          with(func(r *api.RR) { r.TTL = 1 << 32 }),
		"the least TTL":     with(func(r *api.RR) { r.TTL = math.MinInt }),
		"the greatest TTL":  with(func(r *api.RR) { r.TTL = math.MaxInt }),
		"Type 0":            with(func(r *api.RR) { r.Type = 0 }),
		"Type 0, no data":   with(func(r *api.RR) { r.Type, r.Data = 0, nil }),
		"Type -1":           with(func(r *api.RR) { r.Type = -1 }),
		"Type 65536":        with(func(r *api.RR) { r.Type = 65536 }),
		"Type 65537":        with(func(r *api.RR) { r.Type = 65537 }),
		"the greatest Type": with(func(r *api.RR) { r.Type = math.MaxInt }),
		"no data":           with(func(r *api.RR) { r.Data = nil }),
		"five bytes":        with(func(r *api.RR) { r.Data = []byte("12345") }),
		"no name in MX":     with(func(r *api.RR) { r.Type = api.TypeMX }),
		"no name in CNAME":  with(func(r *api.RR) { r.Type, r.Data = api.TypeCNAME, []byte("www.net.") }),
		"no name in NS":     func(x *api.Tree) { x.Zones[atNet].RRs[1].Data = nil },
		"no SOA's data":     func(x *api.Tree) { x.Zones[atNet].RRs[0].Data = x.Zones[atNet].RRs[0].Data[1:] },
		"data too long":     with(func(r *api.RR) { r.Type, r.Data = 99, make([]byte, 65536) }),
	}.all(t, false)
	change{
		"great letters":    with(func(r *api.RR) { r.Name = great(r.Name) }),
		"a long name":      with(func(r *api.RR) { r.Name = strings.Repeat("\x01x", 125) + named("net.") }),
		"at the origin":    with(func(r *api.RR) { r.Name = named("net.") }),
		"TTL 0":            with(func(r *api.RR) { r.TTL = 0 }),
		"TTL 2^31 - 1":     with(func(r *api.RR) { r.TTL = 1<<31 - 1 }),
		"Type 65535":       with(func(r *api.RR) { r.Type = 65535 }),
		"Type 255":         with(func(r *api.RR) { r.Type = 255 }),
		"TypeAAAA":         with(func(r *api.RR) { r.Type, r.Data = api.TypeAAAA, make([]byte, 16) }),
		"TypePTR":          with(func(r *api.RR) { r.Type, r.Data = api.TypePTR, []byte("\x00") }),
		"TypeOPT":          with(func(r *api.RR) { r.Type, r.Data = api.TypeOPT, nil }),
		"much data":        with(func(r *api.RR) { r.Type, r.Data = 99, make([]byte, 65535) }),
		"no data of a few": with(func(r *api.RR) { r.Type, r.Data = 99, nil }),
		"a record twice":   func(x *api.Tree) { add(x, atNet, host("www.net.", 11), host("www.net.", 11)) },
	}.all(t, true)
}

// P18.1: what stands at an origin, and there alone.
func TestCanOrigins(t *testing.T) {
	c := change{}
	for zone, o := range []string{".", "com.", "net.", "sub.com."} {
		c["no SOA at "+o] = func(x *api.Tree) { drop(x, zone, o, api.TypeSOA) }
		c["two SOAs at "+o] = func(x *api.Tree) { add(x, zone, soa(o)) }
		c["another SOA at "+o] = func(x *api.Tree) { r := soa("else."); r.Name = named(o); add(x, zone, r) }
		c["no NS at "+o] = func(x *api.Tree) { drop(x, zone, o, api.TypeNS) }
		c["SOA elsewhere, below "+o] = func(x *api.Tree) {
			r := soa(o)
			r.Name = named("soa." + strings.TrimPrefix(o, "."))
			add(x, zone, r)
		}
		c["CNAME at "+o] = func(x *api.Tree) { add(x, zone, cname(o, "www.net.")) }
	}
	c["SOA moved"] = func(x *api.Tree) { x.Zones[atNet].RRs[0].Name = named("www.net.") }
	c["SOA moved to a name of its own"] = func(x *api.Tree) { x.Zones[atNet].RRs[0].Name = named("soa.net.") }
	c["SOA at a cut"] = func(x *api.Tree) { add(x, atRoot, soa("net.")) }
	c.all(t, false)
	change{
		"other letters": func(x *api.Tree) {
			x.Zones[atNet].RRs[0].Name, x.Zones[atNet].RRs[1].Name = great(named("net.")), great(named("net."))
		},
		"SOA behind":          func(x *api.Tree) { slices.Reverse(x.Zones[atCom].RRs) },
		"others at an origin": func(x *api.Tree) { add(x, atNet, host("net.", 1), mx("net.", "."), record("net.", 99, "")) },
		"the root's NS twice": func(x *api.Tree) { add(x, atRoot, ns(".", "a.root.")) },
	}.all(t, true)
}

// P18.1: a name with an alias has no other records.
func TestCanAliases(t *testing.T) {
	change{
		"an address behind":    func(x *api.Tree) { add(x, atNet, host("in.net.", 1)) },
		"an address ahead":     func(x *api.Tree) { add(x, atNet, cname("www.net.", "ns.net.")) },
		"in other letters":     func(x *api.Tree) { r := host("in.net.", 1); r.Name = great(r.Name); add(x, atNet, r) },
		"of any type":          func(x *api.Tree) { add(x, atNet, record("in.net.", 99, "")) },
		"two aliases":          func(x *api.Tree) { add(x, atNet, cname("in.net.", "two.com.")) },
		"the same alias twice": func(x *api.Tree) { add(x, atNet, cname("in.net.", "one.com.")) },
		"two, other letters":   func(x *api.Tree) { r := cname("in.net.", "a."); r.Name = great(r.Name); add(x, atNet, r) },
	}.all(t, false)
	change{
		"to itself":        func(x *api.Tree) { add(x, atNet, cname("self.net.", "self.net.")) },
		"a name within it": func(x *api.Tree) { add(x, atNet, host("www.in.net.", 1), cname("x.in.net.", ".")) },
		"many to one name": func(x *api.Tree) { add(x, atNet, cname("a.net.", "www.net."), cname("b.net.", "www.net.")) },
		"in two zones":     func(x *api.Tree) { add(x, atSub, cname("old.sub.com.", "www.net.")) },
	}.all(t, true)
}

// P18.1: cuts are just the origins of the zones of which a zone is the parent.
func TestCanCuts(t *testing.T) {
	change{
		"a cut without its zone":    func(x *api.Tree) { add(x, atNet, ns("cut.net.", "ns.net.")) },
		"at the root":               func(x *api.Tree) { add(x, atRoot, ns("org.", "ns.net.")) },
		"below a name with records": func(x *api.Tree) { add(x, atNet, ns("a.www.net.", "ns.net.")) },
		"a zone without its cut":    func(x *api.Tree) { drop(x, atRoot, "net.", api.TypeNS) },
		"with its addresses alone":  func(x *api.Tree) { drop(x, atCom, "sub.com.", api.TypeNS); add(x, atCom, host("sub.com.", 1)) },
		"cut in the wrong zone": func(x *api.Tree) {
			drop(x, atCom, "sub.com.", api.TypeNS)
			add(x, atRoot, ns("sub.com.", "ns.sub.com."), ns("sub.com.", "ns.com."), ns("sub.com.", "far.net."))
		},
		"cut in both": func(x *api.Tree) {
			add(x, atRoot, ns("sub.com.", "ns.sub.com."), ns("sub.com.", "ns.com."), ns("sub.com.", "far.net."))
		},
		"cut in another one, too": func(x *api.Tree) {
			add(x, atSub, ns("net.", "ns.net."))
		},
		"the zone between gone": func(x *api.Tree) {
			x.Zones, x.Servers = slices.Delete(x.Zones, atCom, atCom+1), nil
		},
		"a zone gone": func(x *api.Tree) { x.Zones, x.Servers = slices.Delete(x.Zones, atNet, atNet+1), nil },
		"a zone's name in other labels": func(x *api.Tree) {
			drop(x, atCom, "sub.com.", api.TypeNS)
			add(x, atCom, ns("sub\\003com.com.", "ns.sub.com."))
		},
	}.all(t, false)
	change{
		"the zone between gone, with its cut": func(x *api.Tree) {
			drop(x, atRoot, "com.", api.TypeNS)
			drop(x, atRoot, "away.", api.TypeCNAME)
			add(x, atRoot, ns("sub.com.", "ns.sub.com."), ns("sub.com.", "ns.com."), ns("sub.com.", "far.net."), host("com.", 9))
			x.Zones, x.Servers = slices.Delete(x.Zones, atCom, atCom+1), nil
		},
		"other letters": func(x *api.Tree) {
			for i, r := range x.Zones[atRoot].RRs {
				x.Zones[atRoot].RRs[i].Name = great(r.Name)
			}
		},
	}.all(t, true)
}

// P18.1: zones several deep: the parent is the nearest one above.
func TestCanDeep(t *testing.T) {
	deep := func(cuts map[string]int) api.Tree {
		x := lone()
		for i, o := range []string{"a.", "b.a.", "d.c.b.a.", "f.d.c.b.a."} {
			x.Zones = append(x.Zones, api.Zone{Origin: named(o), RRs: []api.RR{soa(o), ns(o, "a.root.")}})
			above := i
			if at, ok := cuts[o]; ok {
				above = at
			}
			add(&x, above, ns(o, "a.root."))
		}
		return x
	}
	may(t, "each in the nearest one", deep(nil), true)
	for _, cuts := range []map[string]int{
		{"b.a.": 0}, {"d.c.b.a.": 0}, {"d.c.b.a.": 1}, {"f.d.c.b.a.": 2}, {"f.d.c.b.a.": 1}, {"f.d.c.b.a.": 0}, {"d.c.b.a.": 1, "f.d.c.b.a.": 1},
	} {
		may(t, "not in the nearest one", deep(cuts), false)
	}
	shuffled := deep(nil)
	slices.Reverse(shuffled.Zones[1:])
	may(t, "the deepest one first", shuffled, true)
}

// P18.1: the names in a cut's TypeNS are the zone's own, as a set.
func TestCanServers(t *testing.T) {
	change{
		"one less above":     func(x *api.Tree) { x.Zones[atRoot].RRs = slices.Delete(x.Zones[atRoot].RRs, 7, 8) },
		"one less below":     func(x *api.Tree) { x.Zones[atCom].RRs = slices.Delete(x.Zones[atCom].RRs, 2, 3) },
		"one more above":     func(x *api.Tree) { add(x, atRoot, ns("net.", "a.root.")) },
		"one more below":     func(x *api.Tree) { add(x, atNet, ns("net.", "a.root.")) },
		"another one":        func(x *api.Tree) { x.Zones[atNet].RRs[1] = ns("net.", "a.root.") },
		"another one, twice": func(x *api.Tree) { x.Zones[atCom].RRs[1] = ns("com.", "ns.net.") },
		"a name above":       func(x *api.Tree) { x.Zones[atNet].RRs[1] = ns("net.", "net.") },
	}.all(t, false)
	change{
		"another order":   func(x *api.Tree) { rrs := x.Zones[atCom].RRs; rrs[1], rrs[2] = rrs[2], rrs[1] },
		"one twice above": func(x *api.Tree) { add(x, atRoot, ns("com.", "ns.net."), ns("com.", "ns.net.")) },
		"one twice below": func(x *api.Tree) { add(x, atNet, ns("net.", "ns.net.")) },
		"other letters":   func(x *api.Tree) { x.Zones[atNet].RRs[1].Data = []byte(great(named("ns.net."))) },
		"another TTL":     func(x *api.Tree) { x.Zones[atNet].RRs[1].TTL = 5 },
		"no addresses":    func(x *api.Tree) { drop(x, atCom, "ns.sub.com.", api.TypeA) },
		"other addresses": func(x *api.Tree) { x.Zones[atRoot].RRs[8] = host("ns.com.", 99) },
		"twice in letters": func(x *api.Tree) {
			r := ns("net.", "ns.net.")
			r.Data = []byte(great(named("ns.net.")))
			add(x, atNet, r)
		},
	}.all(t, true)
}

// P18.1: below a cut, and at it, stand records of TypeA and TypeNS alone.
func TestCanBelow(t *testing.T) {
	c := change{}
	for what, owner := range map[string]string{"at": "sub.com.", "below": "www.sub.com.", "far below": "a.b.c.sub.com."} {
		for _, r := range []api.RR{
			record(owner, api.TypeTXT, "\x00"), mx(owner, "www.com."), cname(owner, "www.com."), record(owner, api.TypeAAAA, strings.Repeat("x", 16)),
			record(owner, api.TypePTR, "\x00"), record(owner, api.TypeOPT, ""), record(owner, 99, "any"), record(owner, 65535, ""), soa(owner),
		} {
			c["Type "+strconv.Itoa(r.Type)+" "+what] = func(x *api.Tree) { add(x, atCom, r) }
		}
		if what != "at" {
			c["NS "+what] = func(x *api.Tree) { add(x, atCom, ns(owner, "ns.com.")) }
		}
	}
	c["NS at the server's name"] = func(x *api.Tree) { add(x, atCom, ns("ns.sub.com.", "ns.com.")) }
	c["in other letters"] = func(x *api.Tree) { r := mx("www.sub.com.", "."); r.Name = great(r.Name); add(x, atCom, r) }
	c["ahead of the cut"] = func(x *api.Tree) {
		x.Zones[atRoot].RRs = slices.Insert(x.Zones[atRoot].RRs, 0, mx("www.com.", "."))
	}
	c.all(t, false)
	change{
		"addresses": func(x *api.Tree) {
			add(x, atCom, host("sub.com.", 1), host("any.sub.com.", 1), host("a.b.c.sub.com.", 1))
		},
		"other letters": func(x *api.Tree) { r := host("any.sub.com.", 1); r.Name = great(r.Name); add(x, atCom, r) },
		"ahead of it":   func(x *api.Tree) { x.Zones[atRoot].RRs = slices.Insert(x.Zones[atRoot].RRs, 0, host("www.com.", 1)) },
		"beside":        func(x *api.Tree) { add(x, atCom, mx("xsub.com.", "."), mx("su\\098.x.com.", ".")) },
		"labels alike":  func(x *api.Tree) { add(x, atCom, mx("x\\003sub.com.", ".")) },
	}.all(t, true)
}

// P18.1: servers, their addresses and zones.
func TestCanServed(t *testing.T) {
	c, good := change{}, change{}
	for _, addr := range []int{-1, 1 << 32, 1<<32 + 77, 1 << 40, math.MinInt, math.MaxInt} {
		c["address "+strconv.Itoa(addr)] = func(x *api.Tree) { x.Servers[6].Addr = addr }
	}
	for _, addr := range []int{7, 1 << 31, 1<<32 - 1} {
		good["address "+strconv.Itoa(addr)] = func(x *api.Tree) { x.Servers[6].Addr = addr }
	}
	for i := range 6 {
		c["address "+strconv.Itoa(i)+" twice"] = func(x *api.Tree) { x.Servers[6].Addr = i }
		c["address twice, ahead of "+strconv.Itoa(i)] = func(x *api.Tree) { x.Servers = append([]api.Server{{Addr: i}}, x.Servers...) }
	}
	for _, zone := range []int{-1, 4, 5, 20, math.MinInt, math.MaxInt} {
		c["zone "+strconv.Itoa(zone)] = func(x *api.Tree) { x.Servers[6].Zones = []int{zone} }
		c["zone among others "+strconv.Itoa(zone)] = func(x *api.Tree) { x.Servers[4].Zones = []int{0, zone, 1} }
		c["zone behind others "+strconv.Itoa(zone)] = func(x *api.Tree) { x.Servers[0].Zones = []int{0, 1, zone} }
	}
	for _, many := range []int{0, 1, 39, 40, 41, 42, 1000} {
		do := func(x *api.Tree) {
			x.Servers = nil
			for i := range many {
				x.Servers = append(x.Servers, api.Server{Addr: 100 + i, Zones: []int{i % 4}})
			}
		}
		if many > 40 {
			c[strconv.Itoa(many)+" servers"] = do
		} else {
			good[strconv.Itoa(many)+" servers"] = do
		}
	}
	c.all(t, false)
	good["a zone twice"] = func(x *api.Tree) { x.Servers[0].Zones = []int{3, 3, 3, 0, 3} }
	good["no zones"] = func(x *api.Tree) { x.Servers[0].Zones = []int{} }
	good["many zones"] = func(x *api.Tree) { x.Servers[0].Zones = slices.Repeat([]int{0, 1, 2, 3}, 100000) }
	good.all(t, true)
}

// P18.1: at most 400 records, in one zone and in all together.
func TestCanManyRecords(t *testing.T) {
	for _, more := range []int{0, 1, 50, 399, 400, 401, 100000} {
		x := lone()
		for i := range more {
			add(&x, 0, host("h"+strconv.Itoa(i)+".", byte(i)))
		}
		may(t, strconv.Itoa(more+2)+" records in one zone", x, more+2 <= 400)
	}
	for _, many := range []int{398, 399, 400, 401, 402} {
		x := tree()
		count := 0
		for _, z := range x.Zones {
			count += len(z.RRs)
		}
		for i := range many - count {
			add(&x, []int{atRoot, atCom, atNet, atSub}[i%4], []api.RR{host("q.", 1), host("q.com.", 2), host("q.net.", 3), host("q.sub.com.", 4)}[i%4])
		}
		may(t, strconv.Itoa(many)+" records", x, many <= 400)
	}
}
