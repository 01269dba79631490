package iterate_test

import (
	"slices"
	"strings"
	"testing"

	"cicerone/api"
)

// P20.3: the set of the question's name and type; other records of the answers play no part.
func TestAnswer(t *testing.T) {
	x, y := text("www.com.", "x"), text("www.com.", "y")
	w := waiting(t, q)
	w.hears(answer(x), "com.", came(0, 3, x))
	w.done(api.FoundData, came(0, 3, x))
	w = waiting(t, q)
	w.hears(answer(y, text("a.www.com.", "z"), great(x), host("www.com.", 4), text("com.", "z"), lasting(100, y)), "com.", came(0, 3, lasting(100, x), y))
	w = waiting(t, asked("wWw.cOm.", textType))
	w.hears(answer(great(x)), "cOm.", came(0, 3, great(x)))
	w = waiting(t, q)
	w.hearsNothing(answer(text("a.com.", "x"), host("www.com.", 4), text("com.", "x"), text("x.www.com.", "x")))
}

// P20.3: an alias is accepted, and leads to the next one, or to the type's set, as long as these come along.
func TestAnswerAlias(t *testing.T) {
	a, b, x := cname("www.com.", "a.com."), cname("a.com.", "b.com."), text("b.com.", "x")
	w := waiting(t, q)
	w.hears(answer(a), "com.", came(0, 3, a))
	w.asks(5, "com.", asked("a.com.", textType))
	for _, l := range [][]api.RR{{a, b, x}, {x, b, a}, {b, a, x}} {
		w = waiting(t, q)
		w.hears(answer(l...), "com.", came(0, 3, a), came(0, 3, b), came(0, 3, x))
		w.done(api.FoundData, came(0, 3, x), came(0, 3, a), came(0, 3, b))
	}
	w = waiting(t, q)
	w.hears(answer(a, x), "com.", came(0, 3, a))
	w = waiting(t, q)
	w.hearsNothing(answer(b, x))
	// In other letters.
	w = waiting(t, q)
	w.hears(answer(great(a), great(b), great(x)), "com.", came(0, 3, great(a)), came(0, 3, great(b)), came(0, 3, great(x)))
}

// P20.3: an alias comes ahead of the type's set of the same name.
func TestAnswerBoth(t *testing.T) {
	a := cname("www.com.", "a.com.")
	for _, l := range [][]api.RR{{text("www.com.", "x"), a}, {a, text("www.com.", "x")}} {
		w := waiting(t, q)
		w.hears(answer(l...), "com.", came(0, 3, a))
	}
}

// P20.3: of an alias with several data the first one in order leads on.
func TestAnswerFirst(t *testing.T) {
	l := []api.RR{cname("www.com.", "c.com."), cname("www.com.", "a.com."), cname("www.com.", "b.com.")}
	w := waiting(t, q)
	w.hears(answer(append(l, text("b.com.", "b"), text("a.com.", "a"), text("c.com.", "c"))...), "com.", came(0, 3, l[1], l[2], l[0]), came(0, 3, text("a.com.", "a")))
}

// P20.3: where TypeCNAME is asked, an alias is the set of the type, and leads nowhere.
func TestAnswerCNAME(t *testing.T) {
	a, b := cname("www.com.", "a.com."), cname("a.com.", "b.com.")
	w := waiting(t, asked("www.com.", 5))
	w.hears(answer(a, b), "com.", came(0, 3, a))
	w.done(api.FoundData, came(0, 3, a))
	w = waiting(t, asked("www.com.", 5))
	w.hearsNothing(answer(b))
	w = waiting(t, asked("www.com.", 5))
	w.hears(denial(api.CodeOK, []api.RR{soa("com.", 60)}, b), "com.", denied(0, api.SetNone, asked("www.com.", 5), soa("com.", 60), 60))
}

// P20.3: a chain that leaves the zone ends there; what comes along of the name outside is let go, and nothing is said of it.
func TestAnswerOut(t *testing.T) {
	a, out := cname("www.com.", "a.com."), cname("a.com.", "b.net.")
	w := waiting(t, q)
	w.hears(denial(api.CodeName, []api.RR{soa("com.", 60), soa("net.", 60), soa(".", 60)}, a, out, text("b.net.", "x"), cname("b.net.", "c.com."), text("c.com.", "y")), "com.", came(0, 3, a), came(0, 3, out))
	w.fails()
	// The zone itself is within it, the root is not.
	w = waiting(t, q)
	w.hears(answer(cname("www.com.", "com."), text("com.", "x")), "com.", came(0, 3, cname("www.com.", "com.")), came(0, 3, text("com.", "x")))
	w = waiting(t, q)
	w.hears(answer(cname("www.com.", "."), text(".", "x")), "com.", came(0, 3, cname("www.com.", ".")))
}

// cames is the sets of records, each of its own, that came at the time 0.
func cames(l []api.RR) []api.Set {
	var sets []api.Set
	for _, r := range l {
		sets = append(sets, came(0, 3, r))
	}
	return sets
}

// P20.3: MaxChain aliases are accepted at most; behind the last one nothing is looked at.
func TestAnswerChain(t *testing.T) {
	for many := range api.MaxChain + 4 {
		l := links(many, "com.")
		end := text(link(many+1, "com."), "x")
		first := asked("l1.com.", textType)
		want := cames(l[:min(many, api.MaxChain)])
		w := waiting(t, first)
		full := slices.Clone(want)
		if many < api.MaxChain {
			full = append(full, came(0, 3, end))
		}
		w.hears(answer(append(l, end)...), "com.", full...)
		w = waiting(t, first)
		m := denial(api.CodeName, []api.RR{soa("com.", 60)}, l...)
		if many < api.MaxChain {
			want = append(want, denied(0, api.SetNothing, asked(link(many+1, "com."), textType), soa("com.", 60), 60))
		}
		w.hears(m, "com.", want...)
	}
}

// P20.3: aliases in a circle: as many are met as in a chain.
func TestAnswerCircle(t *testing.T) {
	for many := 1; many <= api.MaxChain+1; many++ {
		l := links(many, "com.")
		l[many-1].Data = []byte(named("L1.com."))
		var want []api.Set
		for i := range api.MaxChain {
			want = append(want, came(0, 3, l[i%many]))
		}
		w := waiting(t, asked("l1.com.", textType))
		w.hears(denial(api.CodeName, []api.RR{soa("com.", 60)}, append(l, text("l1.com.", "x"))...), "com.", want...)
		// A circle of more than MaxChain is not met whole.
		if many <= api.MaxChain {
			w.fails()
		}
	}
}

// P20.3: a set that is not fresh is not accepted, nor is anything in its place; an alias leads on all the same, and is met.
func TestAnswerFresh(t *testing.T) {
	w := waiting(t, q)
	w.hearsNothing(denial(api.CodeOK, []api.RR{soa("com.", 60)}, lasting(0, text("www.com.", "x"))))
	w = waiting(t, q)
	w.hearsNothing(denial(api.CodeName, []api.RR{soa("com.", 60)}, text("www.com.", "x"), lasting(0, text("www.com.", "y"))))
	w = waiting(t, asked("www.com.", 5))
	w.hearsNothing(denial(api.CodeOK, []api.RR{soa("com.", 60)}, lasting(0, cname("www.com.", "a.com.")), text("a.com.", "x")))
	a, b, x := cname("www.com.", "a.com."), cname("a.com.", "b.com."), text("b.com.", "x")
	w = waiting(t, q)
	w.hears(answer(lasting(0, a), b, x), "com.", came(0, 3, b), came(0, 3, x))
	w = waiting(t, q)
	w.hears(answer(a, lasting(0, b), x), "com.", came(0, 3, a), came(0, 3, x))
	w = waiting(t, q)
	w.hears(answer(lasting(0, a), lasting(0, b), x), "com.", came(0, 3, x))
	w = waiting(t, q)
	w.hears(denial(api.CodeName, []api.RR{soa("com.", 60)}, lasting(0, a)), "com.", denied(0, api.SetNothing, asked("a.com.", textType), soa("com.", 60), 60))
	w = waiting(t, q)
	w.hearsNothing(answer(lasting(0, cname("www.com.", "a.net.")), text("www.com.", "x"), text("a.net.", "x")))
	l := links(api.MaxChain, "com.")
	for i := range l {
		l[i].TTL = 0
	}
	w = waiting(t, asked("l1.com.", textType))
	w.hearsNothing(answer(append(l, text(link(api.MaxChain+1, "com."), "x"))...))
	l[0].TTL = ttl
	w = waiting(t, asked("l2.com.", textType))
	w.hears(answer(append(l, text(link(api.MaxChain+1, "com."), "x"))...), "com.", came(0, 3, text(link(api.MaxChain+1, "com."), "x")))
}

// P20.3: records whose set can't be kept count as if they had not come.
func TestAnswerCant(t *testing.T) {
	long := text("www.com.", strings.Repeat("x", 4000))
	w := waiting(t, q)
	w.hearsNothing(answer(long))
	w = waiting(t, q)
	w.hears(denial(api.CodeOK, []api.RR{soa("com.", 60)}, long), "com.", denied(0, api.SetNone, q, soa("com.", 60), 60))
	// An alias with too many data leads nowhere.
	var l []api.RR
	for i := range 500 {
		l = append(l, cname("www.com.", link(i, "com.")))
	}
	w = waiting(t, q)
	w.hears(answer(append(l, text("www.com.", "x"))...), "com.", came(0, 3, text("www.com.", "x")))
	// Records that are none.
	w = waiting(t, asked("www.com.", 1))
	w.hears(answer(record("www.com.", 1, "12345"), record("www.com.", 5, "www.com."), api.RR{Name: "www.com.", Type: 1, Class: 1, TTL: 9, Data: []byte("1234")}, host("www.com.", 6), record("www.com.", 1, "")), "com.", came(0, 3, host("www.com.", 6)))
	w = waiting(t, q)
	w.hearsNothing(answer(record("www.com.", 5, "a.com."), record("www.com.", textType+65536, "x")))
}

// P20.3: where the name has no set, an SOA says that there is none, or no such name.
func TestDenial(t *testing.T) {
	for kind, code := range map[int]int{api.SetNone: api.CodeOK, api.SetNothing: api.CodeName} {
		w := waiting(t, q)
		want := denied(0, kind, q, soa("com.", 60), 60)
		w.hears(denial(code, []api.RR{soa("com.", 60)}), "com.", want)
		w.done(kind+1, want)
		// Behind an alias it says so of the last name, and the chain counts with both.
		a := cname("www.com.", "A.com.")
		w = waiting(t, q)
		want = denied(0, kind, asked("A.com.", textType), soa("com.", 60), 60)
		w.hears(denial(code, []api.RR{soa("com.", 60)}, a, text("b.com.", "x")), "com.", came(0, 3, a), want)
		w.done(kind+1, want, came(0, 3, a))
		// The name is told in the question's letters, the zone in the record's.
		w = waiting(t, asked("wWW.com.", textType))
		w.hears(denial(code, []api.RR{great(soa("com.", 60))}), "com.", denied(0, kind, asked("wWW.com.", textType), great(soa("com.", 60)), 60))
	}
}

// P20.3: it lasts as long as the lesser of the record's TTL and its Minimum.
func TestDenialTimes(t *testing.T) {
	for _, c := range [][3]int{{60, 300, 60}, {300, 60, 60}, {1, 1, 1}, {300, 0, 0}, {0, 300, 0}, {1 << 31, 300, 0}, {300, 1 << 31, 0}, {90000, 1<<31 - 1, 86400}} {
		r := lasting(c[0], soa("com.", c[1]))
		w := waiting(t, q)
		w.now = 70
		if c[2] == 0 {
			// Not fresh, nor is anything taken in its place.
			w.hearsNothing(denial(api.CodeName, []api.RR{r, soa("com.", 60)}))
		} else {
			w.hears(denial(api.CodeName, []api.RR{r, soa("com.", 60)}), "com.", denied(70, api.SetNothing, q, r, c[2]))
		}
	}
}

// P20.3: the first TypeSOA whose owner the name is within, and which has data of its type.
func TestDenialOwners(t *testing.T) {
	bad := record("com.", api.TypeSOA, "\x00\x00")
	none := func(r api.RR) api.Set { return denied(0, api.SetNone, q, r, 60) }
	for _, c := range []struct {
		l    []api.RR
		want []api.Set
	}{
		{[]api.RR{soa("www.com.", 60)}, []api.Set{none(soa("www.com.", 60))}},
		{[]api.RR{soa("com.", 60), soa("www.com.", 60)}, []api.Set{none(soa("com.", 60))}},
		{[]api.RR{soa("www.com.", 60), soa("com.", 60)}, []api.Set{none(soa("www.com.", 60))}},
		{[]api.RR{soa("a.www.com.", 60), soa("w.com.", 60), soa("net.", 60), soa(".", 60)}, nil},
		{[]api.RR{soa("a.www.com.", 60), soa("w.com.", 60), soa("net.", 60), soa(".", 60), soa("com.", 60)}, []api.Set{none(soa("com.", 60))}},
		{[]api.RR{ns("com.", "ns.com."), text("com.", "x"), soa("com.", 60)}, []api.Set{none(soa("com.", 60))}},
		{[]api.RR{bad}, nil},
		{[]api.RR{record("com.", textType, string(soa("com.", 60).Data)), soa("com.", 60)}, []api.Set{none(soa("com.", 60))}},
		{[]api.RR{bad, soa("com.", 60)}, []api.Set{none(soa("com.", 60))}},
		{[]api.RR{classed(3, soa("com.", 60)), soa("www.com.", 60)}, []api.Set{none(soa("www.com.", 60))}},
		{[]api.RR{lasting(0, soa("com.", 60)), soa("com.", 60)}, nil},
		{[]api.RR{ns("www.com.", "ns.com.")}, nil},
		{nil, nil},
	} {
		w := waiting(t, q)
		w.hears(denial(api.CodeOK, c.l), "com.", c.want...)
		// In other sections it says nothing.
		w = waiting(t, q)
		m := denial(api.CodeOK, nil, c.l...)
		m.Additional = c.l
		w.hearsNothing(m)
	}
}

// P20.3: behind an alias the SOA's owner must be above the last name.
func TestDenialAlias(t *testing.T) {
	a := cname("www.com.", "x.a.com.")
	w := waiting(t, q)
	w.hears(denial(api.CodeOK, []api.RR{soa("www.com.", 60), soa("a.com.", 60), soa("com.", 60)}, a), "com.", came(0, 3, a), denied(0, api.SetNone, asked("x.a.com.", textType), soa("a.com.", 60), 60))
	w = waiting(t, q)
	w.hears(denial(api.CodeOK, []api.RR{soa("www.com.", 60)}, a), "com.", came(0, 3, a))
}

// P20.3: a set of the type that came leaves nothing to be denied.
func TestDenialBoth(t *testing.T) {
	for _, code := range []int{api.CodeOK, api.CodeName} {
		w := waiting(t, q)
		w.hears(denial(code, []api.RR{soa("com.", 60)}, text("www.com.", "x")), "com.", came(0, 3, text("www.com.", "x")))
	}
}
