package iterate_test

import (
	"math/rand/v2"
	"slices"
	"testing"

	"cicerone/api"
	"cicerone/iterate"
	"cicerone/name"
	"cicerone/rate"
	"cicerone/rrset"
	"cicerone/store"
	"cicerone/zone"
)

// Addresses of the tree's servers: one for each zone alone, and one that serves com. and sub.com.
const (
	atRoot = iota + 1
	atCom
	atNet
	atSub
	atOrg
	ofBoth
)

// tree is one that may be: sub.com. lies below com., the server of org. is net.'s, net.'s is com.'s.
func tree() api.Tree {
	return api.Tree{
		Zones: []api.Zone{
			{Origin: named("."), RRs: []api.RR{
				soa(".", 60), ns(".", "r."), host("r.", atRoot),
				ns("com.", "ns.com."), ns("com.", "two.com."), host("ns.com.", atCom), host("two.com.", ofBoth),
				ns("net.", "ns.com."), ns("org.", "o.net."),
				cname("to.", "www.com."), text("text.", "root"),
			}},
			{Origin: named("com."), RRs: []api.RR{
				soa("com.", 60), ns("com.", "ns.com."), ns("com.", "two.com."), host("ns.com.", atCom), host("ns.com.", atNet), host("two.com.", ofBoth),
				ns("sub.com.", "ns.sub.com."), host("ns.sub.com.", atSub),
				text("www.com.", "www"), text("www.com.", "more"), cname("a.com.", "b.com."), cname("b.com.", "www.com."), cname("out.com.", "www.org."), cname("lost.com.", "not.com."), cname("down.com.", "www.sub.com."),
				cname("self.com.", "self.com."),
			}},
			{Origin: named("net."), RRs: []api.RR{
				soa("net.", 60), ns("net.", "ns.com."), host("o.net.", atOrg), text("www.net.", "net"), cname("long.net.", "to."),
			}},
			{Origin: named("sub.com."), RRs: []api.RR{
				soa("sub.com.", 60), ns("sub.com.", "ns.sub.com."), host("ns.sub.com.", atSub), text("www.sub.com.", "sub"), text("x.y.sub.com.", "deep"),
			}},
			{Origin: named("org."), RRs: []api.RR{
				soa("org.", 60), ns("org.", "o.net."), text("www.org.", "org"), cname("back.org.", "a.com."),
			}},
		},
		Servers: []api.Server{
			{Addr: atRoot, Zones: []int{0}}, {Addr: atCom, Zones: []int{1}}, {Addr: atNet, Zones: []int{2, 1}}, {Addr: atSub, Zones: []int{3}}, {Addr: atOrg, Zones: []int{4}}, {Addr: ofBoth, Zones: []int{1, 3, 2}},
		},
	}
}

// machine is a tree whose servers are asked, and a cache.
type machine struct {
	*testing.T
	tree  api.Tree
	store *store.Store
	table *rate.Table
	// dead are servers that do not answer.
	dead []int
	now  int
}

// newMachine is one of an empty cache.
func newMachine(t *testing.T, x api.Tree, dead ...int) *machine {
	t.Helper()
	if !zone.Can(x) {
		t.Fatal("no tree")
	}
	return &machine{T: t, tree: x, store: stored(t, 1<<40), table: rate.New(), dead: dead}
}

// asks works on a question till its end: that, and the addresses that were asked. What is accepted lies within the zone that was asked: P20.4; so does that: P20.5.
func (x *machine) asks(q api.Question, draw func() int) (api.Want, []int) {
	x.Helper()
	k, e := iterate.New(q, zone.Hints(x.tree))
	if e != api.OK {
		x.Fatalf("New(%v) is %d", q, e)
	}
	var l []int
	for {
		w := k.Next(x.store, x.table, draw(), x.now)
		if w.Kind != api.WantAsk {
			if k.Work() != len(l) || len(l) > api.MaxWork || k.Question() != q {
				x.Fatalf("Work is %d, but asked were %v", k.Work(), l)
			}
			return w, l
		}
		l = append(l, w.Addr)
		m, ok := zone.Serve(x.tree, w.Addr, api.Message{Questions: []api.Question{w.Question}})
		if !ok || slices.Contains(x.dead, w.Addr) {
			x.table.Failed(w.Addr)
			k.Lost()
			continue
		}
		x.table.Answered(w.Addr, 0)
		for _, a := range k.Hear(x.store, m, x.now) {
			if a.Zone != w.Zone || !name.Within(a.Set.Name, w.Zone) || a.At != x.now || a.At+a.TTL != a.Set.Expires {
				x.Fatalf("of %v accepted is %v", w, a)
			}
		}
	}
}

// noDraw is the draw 0.
func noDraw() int { return 0 }

// told is what a client is told by what was found: a code, and the records, of sets in order.
func told(w api.Want, now int) (int, []api.RR) {
	var l []api.RR
	for _, s := range append(w.Found.Chain, w.Found.Last) {
		l = append(l, rrset.Records(s, now)...)
	}
	if w.Found.Kind == api.FoundNothing {
		return api.CodeName, l
	}
	return api.CodeOK, l
}

// isTrue tells whether what was found is what the tree has, TTLs apart.
func (x *machine) isTrue(q api.Question, w api.Want) bool {
	truth, ok := zone.Truth(x.tree, q)
	code, l := told(w, x.now)
	line := func(r api.RR) string {
		if names := rdataNames(r); len(names) > 0 {
			return name.Lower(r.Name) + string(rune(r.Type)) + name.Lower(names[0])
		}
		return name.Lower(r.Name) + string(rune(r.Type)) + string(r.Data)
	}
	return ok && code == truth.Code && slices.Equal(lines(l, line), lines(truth.Answers, line))
}

// rdataNames is the name in the data of records that lead on, or to servers.
func rdataNames(r api.RR) []string {
	if r.Type == api.TypeNS || r.Type == api.TypeCNAME {
		return []string{string(r.Data)}
	}
	return nil
}

// lines is each record's line, once, sorted.
func lines(l []api.RR, line func(r api.RR) string) []string {
	var out []string
	for _, r := range l {
		out = append(out, line(r))
	}
	slices.Sort(out)
	return slices.Compact(out)
}

// finds asks for a true answer, and which servers are asked for it.
func (x *machine) finds(q api.Question, kind int, want ...int) {
	x.Helper()
	w, l := x.asks(q, noDraw)
	if w.Kind != api.WantDone || w.Found.Kind != kind || !x.isTrue(q, w) {
		x.Errorf("%v comes to %v", q, w)
	}
	if !slices.Equal(l, want) {
		x.Errorf("for %v asked were %v, not %v", q, l, want)
	}
}

// From an empty store down through referrals to an answer; what came along is not asked again.
func TestTree(t *testing.T) {
	x := newMachine(t, tree())
	x.finds(asked("www.com.", textType), api.FoundData, atRoot, atCom)
	x.finds(asked("www.com.", textType), api.FoundData)
	x.finds(asked("WWW.com.", textType), api.FoundData)
	x.finds(asked("www.com.", 1), api.FoundNone, atCom)
	x.finds(asked("www.com.", 1), api.FoundNone)
	x.finds(asked("not.com.", 1), api.FoundNothing, atCom)
	x.finds(asked("not.com.", textType), api.FoundNothing)
	x.finds(asked("text.", textType), api.FoundData, atRoot)
	x.finds(asked("www.sub.com.", textType), api.FoundData, atCom, atSub)
	x.finds(asked("y.sub.com.", textType), api.FoundNone, atSub)
	x.finds(asked("com.", api.TypeNS), api.FoundData, atCom)
	x.finds(asked("com.", api.TypeSOA), api.FoundData, atCom)
}

// Aliases within a zone, into another one, and to what is not there.
func TestTreeAliases(t *testing.T) {
	newMachine(t, tree()).finds(asked("a.com.", textType), api.FoundData, atRoot, atCom)
	newMachine(t, tree()).finds(asked("a.com.", api.TypeCNAME), api.FoundData, atRoot, atCom)
	newMachine(t, tree()).finds(asked("lost.com.", textType), api.FoundNothing, atRoot, atCom)
	newMachine(t, tree()).finds(asked("to.", textType), api.FoundData, atRoot, atRoot, atCom)
	newMachine(t, tree()).finds(asked("down.com.", textType), api.FoundData, atRoot, atCom, atCom, atSub)
	x := newMachine(t, tree())
	x.finds(asked("a.com.", textType), api.FoundData, atRoot, atCom)
	x.finds(asked("b.com.", textType), api.FoundData)
	x.finds(asked("www.com.", textType), api.FoundData)
	w, _ := newMachine(t, tree()).asks(asked("self.com.", 1), noDraw)
	if w.Kind != api.WantFail {
		t.Errorf("a circle comes to %v", w)
	}
}

// A zone whose server lies in another zone, and that one's in a third: its address is asked first.
func TestTreeElsewhere(t *testing.T) {
	// The server of org. is o.net., that of net. ns.com.: of this one the root tells an address alone that knows nothing of net., so it is sought, too.
	x := newMachine(t, tree())
	x.finds(asked("www.org.", textType), api.FoundData, atRoot, atRoot, atCom, atRoot, atCom, atNet, atOrg)
	x.finds(asked("no.org.", textType), api.FoundNothing, atOrg)
	x.finds(asked("back.org.", textType), api.FoundData, atOrg, atCom)
	newMachine(t, tree()).finds(asked("out.com.", textType), api.FoundData, atRoot, atCom, atRoot, atRoot, atCom, atCom, atNet, atOrg)
}

// Servers that do not answer, or not for that zone: others are asked.
func TestTreeDead(t *testing.T) {
	newMachine(t, tree(), atCom).finds(asked("www.com.", textType), api.FoundData, atRoot, atCom, ofBoth)
	newMachine(t, tree(), atCom).finds(asked("www.sub.com.", textType), api.FoundData, atRoot, atCom, ofBoth)
	for _, dead := range [][]int{{atRoot}, {atCom, ofBoth}} {
		if w, _ := newMachine(t, tree(), dead...).asks(asked("www.com.", textType), noDraw); w.Kind != api.WantFail {
			t.Errorf("without %v the answer is %v", dead, w)
		}
	}
	lame := tree()
	lame.Servers[1].Zones = nil
	newMachine(t, lame).finds(asked("www.com.", textType), api.FoundData, atRoot, atCom, ofBoth)
}

// Each name of the tree, with each type, is answered as the tree has it, whatever is asked ahead, and whatever is drawn.
func TestTreeAll(t *testing.T) {
	d := drawing{rand.New(rand.NewPCG(20, 3))}
	for range 40 {
		x := newMachine(t, tree())
		for range 30 {
			z := one(d, x.tree.Zones...)
			q := api.Question{Name: d.letters(one(d, z.RRs...).Name), Type: one(d, 1, 2, 5, 6, textType), Class: 1}
			if d.IntN(5) == 0 {
				q.Name = "\x01x" + q.Name
			}
			w, _ := x.asks(q, func() int { return int(d.Uint64()) })
			loops := name.Same(q.Name, named("self.com.")) && q.Type != api.TypeCNAME
			if loops && w.Kind != api.WantFail || !loops && (w.Kind != api.WantDone || !x.isTrue(q, w)) {
				t.Fatalf("%v comes to %v", q, w)
			}
			x.now += d.IntN(40)
		}
	}
}

// tree is a drawn tree that may be: zones below one another, with servers here and there, and aliases across them.
func (d drawing) tree() api.Tree {
	origins := []string{"."}
	for range 1 + d.IntN(5) {
		above := one(d, origins...)
		if above == "." {
			above = ""
		}
		if o := one(d, "a.", "b.", "c.") + above; !slices.Contains(origins, o) {
			origins = append(origins, o)
		}
	}
	x := api.Tree{}
	for i, o := range origins {
		z := api.Zone{Origin: named(o), RRs: []api.RR{soa(o, 60)}}
		x.Zones = append(x.Zones, z)
		x.Servers = append(x.Servers, api.Server{Addr: i + 1, Zones: []int{i}})
	}
	d.serve(&x, origins)
	for i, o := range origins {
		for _, label := range []string{"u", "v", "w"} {
			l := []api.RR{cname(".", one(d, "w.", "v.", "u.", "")+one(d, origins[1:]...))}
			if d.IntN(2) == 0 {
				l = []api.RR{text(".", "x"), text(".", "y"), host(".", 77)}[d.IntN(3):]
			}
			for _, r := range l {
				r.Name = "\x01" + label + named(o)
				x.Zones[i].RRs = append(x.Zones[i].RRs, r)
			}
		}
	}
	return x
}

// serve gives zones their servers: a name or two of each zone's own, whose addresses the zone above tells, too; or, if elsewhere is what was drawn, a name of the root, or of a zone right below it that has its own.
func (d drawing) serve(x *api.Tree, origins []string) {
	homes := []int{0}
	for i := range origins {
		parent := 0
		for j, o := range origins {
			if j != i && name.Within(named(origins[i]), named(o)) && len(o) > len(origins[parent]) {
				parent = j
			}
		}
		at := i
		if i > 0 && d.IntN(3) == 0 {
			at = one(d, homes...)
		} else if parent == 0 {
			homes = append(homes, i)
		}
		for k := range 1 + d.IntN(2) {
			n, a := ns(".", "."), host(".", i+1)
			a.Name = "\x02n" + string(rune('a'+2*i+k)) + named(origins[at])
			n.Name, n.Data = named(origins[i]), []byte(a.Name)
			x.Zones[i].RRs = append(x.Zones[i].RRs, n)
			x.Zones[at].RRs = append(x.Zones[at].RRs, a)
			if i > 0 {
				x.Zones[parent].RRs = append(x.Zones[parent].RRs, n)
			}
			if i > 0 && at == i {
				x.Zones[parent].RRs = append(x.Zones[parent].RRs, a)
			}
		}
	}
}

// P20.4, P20.5, P4: in drawn trees, whose servers can all be found, a task comes to the truth, whatever was asked ahead, and fails just where there is none.
func TestDrawnTrees(t *testing.T) {
	d := drawing{rand.New(rand.NewPCG(20, 4))}
	done, failed, long, chains := 0, 0, 0, 0
	for range 2000 {
		m := newMachine(t, d.tree())
		for range 4 {
			q := api.Question{Name: d.letters(one(d, one(d, m.tree.Zones...).RRs...).Name), Type: one(d, 1, 1, 2, 5, textType, textType), Class: 1}
			if d.IntN(5) == 0 {
				q.Name = "\x01x" + q.Name
			}
			w, l := m.asks(q, func() int { return int(d.Uint64()) })
			if _, ok := zone.Truth(m.tree, q); !ok {
				failed++
				if w.Kind != api.WantFail {
					t.Fatalf("in %v %v comes to %v", m.tree, q, w)
				}
				continue
			}
			if w.Kind != api.WantDone || !m.isTrue(q, w) {
				t.Fatalf("in %v %v comes to %v", m.tree, q, w)
			}
			done++
			if len(l) > 3 {
				long++
			}
			if len(w.Found.Chain) > 1 {
				chains++
			}
			m.now += d.IntN(60)
		}
	}
	if done < 5000 || failed < 50 || long < 300 || chains < 200 {
		t.Errorf("%d questions were answered, %d not; %d with many queries, %d with many aliases", done, failed, long, chains)
	}
}
