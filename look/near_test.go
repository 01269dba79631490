package look_test

import (
	"math"
	"strings"
	"testing"

	"cicerone/api"
)

// P19.2: at the name itself, or above it, the root last; the nearest one of several.
func TestNear(t *testing.T) {
	s := stored(t, ns("com.", "a.", "b.com."), ns("x.y.com.", "ns.x.y.com."), ns(".", "r."))
	for _, now := range times {
		nears(t, s, "com.", now, "com.", "a.", "b.com.")
		nears(t, s, "y.com.", now, "com.", "a.", "b.com.")
		nears(t, s, "z.com.", now, "com.", "a.", "b.com.")
		nears(t, s, "x.y.com.", now, "x.y.com.", "ns.x.y.com.")
		nears(t, s, "www.x.y.com.", now, "x.y.com.", "ns.x.y.com.")
		nears(t, s, "a.b.c.d.www.x.y.com.", now, "x.y.com.", "ns.x.y.com.")
		nears(t, s, "xx.y.com.", now, "com.", "a.", "b.com.")
		for _, n := range []string{".", "net.", "xcom.", "com.net.", "x.y."} {
			nears(t, s, n, now, ".", "r.")
		}
	}
}

// P19.2: where nothing is known above a name.
func TestNearNone(t *testing.T) {
	s := stored(t, ns("com.", "a."), host(".", "1234"), text("net.", "x"), cname("x.net.", "com."))
	for _, n := range []string{".", "net.", "x.net.", "a.b.c.", "xcom."} {
		lonely(t, s, named(n), 0)
	}
	nears(t, s, "com.", 0, "com.", "a.")
}

// P19.2: a zone is told in the letters of the name that was asked, its servers' names in those of the data, in their order.
func TestNearLetters(t *testing.T) {
	l := ns("eXample.", "z.", "B.a.", "b.A.", "C.", "z.z.")
	s := stored(t, l)
	want := []string{"z.", "B.a.", "b.A.", "C.", "z.z."}
	nears(t, s, "Www.Example.", 0, "Example.", want...)
	nears(t, s, "EXAMPLE.", 0, "EXAMPLE.", want...)
	nears(t, s, "x.exampLE.", 0, "exampLE.", want...)
}

// P19.2: sets of all ranks tell servers.
func TestNearRanks(t *testing.T) {
	for _, rank := range []int{api.RankGlue, api.RankRefer, api.RankAnswer} {
		s := stored(t, ranked(rank, ns("com.", "a.")), ns(".", "r."))
		nears(t, s, "www.com.", 0, "com.", "a.")
	}
}

// P19.2: a set that is no SetData is passed by, also one that came by way of another type.
func TestNearKinds(t *testing.T) {
	for _, x := range []api.Set{none("com.", api.TypeNS), nothing("com."), host("com.", "1234"), cname("com.", "net.")} {
		s := stored(t, x, ns(".", "r."), ns("net.", "n."))
		nears(t, s, "www.com.", 0, ".", "r.")
		nears(t, s, "com.", 0, ".", "r.")
		lonely(t, stored(t, x), named("www.com."), 0)
		// Nor does it hide what is nearer.
		s = stored(t, x, ns("www.com.", "w."))
		nears(t, s, "a.www.com.", 0, "www.com.", "w.")
	}
	// It counts for its own name alone.
	s := stored(t, nothing("www.com."), ns("com.", "a."))
	nears(t, s, "www.com.", 0, "com.", "a.")
	s = stored(t, ns("com.", "a."), nothing("com."))
	nears(t, s, "com.", 0, "com.", "a.")
}

// P19.2: other classes play no part.
func TestNearClasses(t *testing.T) {
	for _, class := range []int{0, 2, 3, 255, 65535} {
		s := stored(t, classed(class, ns("com.", "a.")))
		lonely(t, s, named("www.com."), 0)
		lonely(t, s, named("com."), 0)
	}
}

// P19.2: a zone whose servers are not fresh any more is passed by.
func TestNearFresh(t *testing.T) {
	s := stored(t, until(10, ns("www.com.", "w.")), until(20, ns("com.", "a.")), until(30, ns(".", "r.")))
	n := "www.com."
	nears(t, s, n, 9, n, "w.")
	nears(t, s, n, 10, "com.", "a.")
	nears(t, s, n, 19, "com.", "a.")
	nears(t, s, n, 20, ".", "r.")
	nears(t, s, n, 29, ".", "r.")
	lonely(t, s, named(n), 30)
	lonely(t, s, named(n), math.MaxInt)
	nears(t, s, n, math.MinInt, n, "w.")
}

// P19.2: a name that is none, and stores that no call made.
func TestNearWrong(t *testing.T) {
	full := stored(t, ns("com.", "a."), ns(".", "r."), ns("x.", "r."))
	for _, n := range noNames {
		lonely(t, full, n, 0)
	}
	for _, s := range append(unmade(), stored(t)) {
		for _, n := range append(noNames, "\x00", named("com."), named("www.com.")) {
			lonely(t, s, n, 0)
			lonely(t, s, n, math.MaxInt)
		}
	}
}

// P19.2: a name of as many labels as can be, whose servers are known nowhere, at it, in between, at the root.
func TestNearDeep(t *testing.T) {
	deep := strings.Repeat("d.", 127)
	lonely(t, stored(t, ns("x.", "a.")), named(deep), 0)
	nears(t, stored(t, ns(".", "r.")), deep, 0, ".", "r.")
	for labels := 1; labels <= 127; labels++ {
		n := strings.Repeat("d.", labels)
		nears(t, stored(t, ns(n, "a."), ns(".", "r.")), deep, 0, n, "a.")
	}
}

// P19.3: the addresses, in the order of the data, the highest byte first; of any rank, in any letters.
func TestAddrs(t *testing.T) {
	for _, rank := range []int{api.RankGlue, api.RankRefer, api.RankAnswer} {
		s := stored(t, ranked(rank, host("a.b.", "\x00\x00\x01\x02")), ranked(rank, host("c.", "\xff\xff\xff\xff", "\x01\x02\x03\x04", "\x00\x00\x00\x00", "\x80\x00\x00\x00")))
		for _, now := range times {
			leads(t, s, named("a.b."), now, 258)
			leads(t, s, great(named("a.b.")), now, 258)
			leads(t, s, named("c."), now, 4294967295, 16909060, 0, 2147483648)
			leads(t, s, named("b."), now)
			leads(t, s, named("x.c."), now)
		}
	}
	leads(t, stored(t, host("a.", "1234", "1234")), named("a."), 0, 825373492, 825373492)
}

// P19.3: sets that are no SetData, other types and classes, aliases: none.
func TestAddrsNone(t *testing.T) {
	s := stored(t, none("a.", api.TypeA), nothing("b."), set("c.", api.TypeAAAA, "0123456789abcdef"), classed(3, host("d.", "1234")), cname("e.", "f."), host("f.", "1234"), set("g.", textType, "1234"))
	for _, n := range []string{"a.", "b.", "c.", "d.", "e.", "g.", "."} {
		leads(t, s, named(n), 0)
	}
	leads(t, s, named("f."), 0, 825373492)
}

// P19.3: addresses that are not fresh any more are none.
func TestAddrsFresh(t *testing.T) {
	s := stored(t, until(10, host("a.", "\x00\x00\x00\x07")))
	leads(t, s, named("a."), 9, 7)
	leads(t, s, named("a."), -5, 7)
	leads(t, s, named("a."), 10)
	leads(t, s, named("a."), math.MaxInt)
}

// P19.3: a name that is none, and stores that no call made.
func TestAddrsWrong(t *testing.T) {
	full := stored(t, host("a.", "1234"), host(".", "1234"))
	for _, s := range append(unmade(), full) {
		for _, n := range noNames {
			leads(t, s, n, 0)
		}
	}
	for _, s := range append(unmade(), stored(t)) {
		leads(t, s, named("a."), 0)
		leads(t, s, ".", math.MinInt)
	}
}
