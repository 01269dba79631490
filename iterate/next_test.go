package iterate_test

import (
	"fmt"
	"math"
	"testing"

	"cicerone/api"
	"cicerone/iterate"
	"cicerone/rate"
	"cicerone/store"
)

// q is a question that most tests ask.
var q = asked("www.com.", textType)

// P20.2: what the store knows already is told, and no query is sent.
func TestKnown(t *testing.T) {
	hints := hinted(1, 2)
	begun(t, q, hints, data("www.com.", "x")).done(api.FoundData, data("www.com.", "x"))
	begun(t, q, hints, none("www.com.", textType)).done(api.FoundNone, none("www.com.", textType))
	begun(t, q, hints, nothing("www.com.")).done(api.FoundNothing, nothing("www.com."))
	chain := []api.Set{alias("www.com.", "a."), alias("a.", "b.")}
	begun(t, q, hints, append(chain, data("b.", "x"))...).done(api.FoundData, data("b.", "x"), chain...)
	begun(t, q, hints, append(chain, none("b.", textType))...).done(api.FoundNone, none("b.", textType), chain...)
	begun(t, q, hints, append(chain, nothing("b."))...).done(api.FoundNothing, nothing("b."), chain...)
	begun(t, asked("a.", 5), hints, chain...).done(api.FoundData, chain[1])
	begun(t, q, hints, append(chain, alias("b.", "a."))...).fails()
	begun(t, q, hints, alias("www.com.", "wwW.cOm.")).fails()
}

// P20.2: what the store learns behind New counts, till the task is at its end; from then on nothing does.
func TestKnownLater(t *testing.T) {
	w := begun(t, q, hinted(1))
	w.asks(1, ".", q)
	w.put(data("www.com.", "x"))
	w.done(api.FoundData, data("www.com.", "x"))
	w.put(data("www.com.", "y"))
	w.done(api.FoundData, data("www.com.", "x"))
	w = begun(t, q, hinted(1))
	w.loses(1, ".", q)
	w.fails()
	w.put(data("www.com.", "x"), servers("com.", "ns.com."), addrs("ns.com.", 5))
	w.fails()
}

// P20.2: what is not fresh any more is not known.
func TestKnownFresh(t *testing.T) {
	w := begun(t, q, hinted(1), until(20, data("www.com.", "x")), until(30, servers("com.", "ns.com.")), until(40, addrs("ns.com.", 5)))
	w.now = 20
	w.asks(5, "com.", q)
	w.now = 30
	w.asks(1, ".", q)
	w = begun(t, q, hinted(1), until(40, servers("com.", "ns.com.")), until(30, addrs("ns.com.", 5)))
	w.now = 30
	w.asks(1, ".", q)
	w = begun(t, q, hinted(1), until(20, data("www.com.", "x")))
	w.now = 19
	w.done(api.FoundData, until(20, data("www.com.", "x")))
	w = begun(t, q, hinted(1), until(20, data("www.com.", "x")))
	w.now = math.MinInt
	w.done(api.FoundData, until(20, data("www.com.", "x")))
	w = begun(t, q, hinted(1), until(20, data("www.com.", "x")), servers("com.", "ns.com."), addrs("ns.com.", 5))
	w.now = math.MaxInt
	w.asks(1, ".", q)
}

// P20.2: the servers that are known the nearest to the name are asked: at it, above it, at the root, or the hints.
func TestNearest(t *testing.T) {
	l := []api.Set{addrs("ns.", 5), servers("www.com.", "ns."), servers("com.", "ns."), servers(".", "ns.")}
	begun(t, q, hinted(1), l...).asks(5, "www.com.", q)
	begun(t, q, hinted(1), l[0], l[2], l[3]).asks(5, "com.", q)
	begun(t, q, hinted(1), l[0], l[3]).asks(5, ".", q)
	begun(t, q, hinted(1), l[0]).asks(1, ".", q)
	begun(t, q, hinted(1)).asks(1, ".", q)
	begun(t, asked(".", textType), hinted(1)).asks(1, ".", asked(".", textType))
	begun(t, asked(".", textType), hinted(1), l...).asks(5, ".", asked(".", textType))
	// Servers of names beside it, or below it, know nothing of it.
	begun(t, q, hinted(1), addrs("ns.", 5), servers("net.", "ns."), servers("w.com.", "ns."), servers("a.www.com.", "ns.")).asks(1, ".", q)
	// A zone is told in the letters of the question.
	begun(t, asked("wWw.cOm.", textType), nil, l[0], l[2]).asks(5, "cOm.", asked("wWw.cOm.", textType))
}

// P20.2: when all of a zone's addresses were tried, those of the next zone above are, then those of the root, then the hints; then the task fails.
func TestZoneByZone(t *testing.T) {
	l := []api.Set{
		servers("www.com.", "a.www.com.", "b.www.com."), servers("com.", "ns.com."), servers(".", "r."),
		addrs("a.www.com.", 2), addrs("b.www.com.", 3), addrs("ns.com.", 4, 5), addrs("r.", 6),
	}
	w := begun(t, asked("x.www.com.", textType), hinted(7, 8), l...)
	q := asked("x.www.com.", textType)
	for _, try := range []struct {
		addr int
		zone string
	}{{2, "www.com."}, {3, "www.com."}, {4, "com."}, {5, "com."}, {6, "."}, {7, "."}, {8, "."}} {
		w.loses(try.addr, try.zone, q)
	}
	w.fails()
	// The same where nobody tells that they are lost.
	w = begun(t, q, hinted(7), l...)
	for _, addr := range []int{2, 3} {
		w.asks(addr, "www.com.", q)
	}
	for _, addr := range []int{4, 5} {
		w.asks(addr, "com.", q)
	}
	w.asks(6, ".", q)
	w.asks(7, ".", q)
	w.fails()
}

// P20.2: an address that was tried with one zone was not tried with another one; the root with names and without is one zone.
func TestTriedZones(t *testing.T) {
	w := begun(t, asked("x.www.com.", 1), hinted(5, 6, 5), servers("www.com.", "ns.www.com."), servers("com.", "ns.www.com."), servers(".", "ns.www.com."), addrs("ns.www.com.", 5))
	q := asked("x.www.com.", 1)
	w.loses(5, "www.com.", q)
	w.loses(5, "com.", q)
	w.loses(5, ".", q)
	w.loses(6, ".", q)
	w.fails()
	w = begun(t, q, hinted(5))
	w.loses(5, ".", q)
	w.put(servers(".", "ns."), addrs("ns.", 5))
	w.fails()
	w = begun(t, q, hinted(5))
	w.loses(5, ".", q)
	w.put(servers(".", "ns."), addrs("ns.", 5, 6))
	w.loses(6, ".", q)
	w.fails()
}

// P20.2: an address that was tried with one question was not tried with another one, to which an alias has led since.
func TestTriedQuestions(t *testing.T) {
	w := begun(t, q, hinted(5))
	w.loses(5, ".", q)
	w.put(alias("www.com.", "b.com."))
	b := asked("b.com.", textType)
	w.asks(5, ".", b)
	w.put(alias("b.com.", "C.com."))
	w.asks(5, ".", asked("C.com.", textType))
	// The same question in other letters was tried, and the zone in other letters, too.
	w.put(alias("b.com.", "c.COM."))
	w.fails()
	w = begun(t, q, nil, servers("com.", "ns.com."), addrs("ns.com.", 5, 6))
	w.asks(5, "com.", q)
	w.put(alias("www.com.", "B.Com."))
	w.asks(5, "Com.", asked("B.Com.", textType))
	w.put(alias("www.com.", "b.COM."))
	w.asks(6, "COM.", asked("b.COM.", textType))
	w.put(alias("www.com.", "B.com."))
	w.fails()
}

// P20.2: of the addresses that are left the table tells the best one, and the draw which of several that are.
func TestBest(t *testing.T) {
	for _, c := range []struct{ draw, addr int }{{0, 4}, {1, 5}, {2, 6}, {3, 4}, {-1, 4}, {-2, 6}, {math.MaxInt, 5}, {math.MinInt, 6}} {
		begun(t, q, nil, servers("com.", "b.", "a."), addrs("a.", 6), addrs("b.", 4, 5)).draws(c.draw, c.addr, "com.", q)
		begun(t, q, hinted(4, 5, 6)).draws(c.draw, c.addr, ".", q)
	}
	w := begun(t, q, hinted(4, 5, 6, 7))
	w.table.Failed(4)
	w.table.Answered(5, 9)
	w.table.Answered(7, 9)
	w.asks(6, ".", q)
	w.draws(1, 7, ".", q)
	w.draws(1, 5, ".", q)
	w.draws(1, 4, ".", q)
	w.fails()
	if w.table.Of(4) != 1i || w.table.Of(5) != 9 || w.table.Of(6) != 0 {
		t.Error("the table has changed")
	}
}

// P20.2: an address that two names have, or one in other letters, counts twice, and is tried once.
func TestBestTwice(t *testing.T) {
	l := []api.Set{servers("com.", "a.", "b."), addrs("a.", 4, 5), addrs("b.", 5, 6)}
	for draw, addr := range []int{4, 5, 5, 6, 4} {
		begun(t, q, nil, l...).draws(draw, addr, "com.", q)
	}
	w := begun(t, q, nil, l...)
	w.draws(2, 5, "com.", q)
	w.draws(1, 6, "com.", q)
	w.asks(4, "com.", q)
}

// P20.2: zones whose servers have no address are passed by, if these lie within them.
func TestWithin(t *testing.T) {
	w := begun(t, q, hinted(1), servers("www.com.", "www.com.", "a.WWW.com.", "b.a.www.com."), servers("com.", "ns.com."), servers(".", "r.", "a.net.", "."), addrs("ns.com.", 5))
	w.loses(5, "com.", q)
	w.loses(1, ".", q)
	w.fails()
}

// P20.2: a server without an address, which does not lie within the zone, is sought, from the root on; then the zone's server is asked.
func TestSeek(t *testing.T) {
	w := begun(t, q, hinted(1), servers("com.", "in.com.", "ns.net.", "ns.org."))
	w.asks(1, ".", asked("ns.net.", 1))
	w.hears(answer(host("ns.net.", 5)), ".", came(0, 3, host("ns.net.", 5)))
	w.asks(5, "com.", q)
	w.hears(answer(text("www.com.", "x")), "com.", came(0, 3, text("www.com.", "x")))
	w.done(api.FoundData, came(0, 3, text("www.com.", "x")))
}

// P20.2: what comes of a server that is sought: an address, none, no such name, a circle; each name is sought once, and then the next one.
func TestSeekEach(t *testing.T) {
	w := begun(t, q, hinted(1), servers("com.", "a.", "b.", "c.", "d.", "e.", "f."), none("a.", 1), nothing("b."), alias("c.", "c."), alias("d.", "d.net."), none("d.net.", 1))
	w.asks(1, ".", asked("e.", 1))
	// Nobody has answered, so this goal has failed.
	w.lost(api.OK)
	w.asks(1, ".", asked("f.", 1))
	w.hears(answer(host("f.", 7)), ".", came(0, 3, host("f.", 7)))
	w.asks(7, "com.", q)
	w.asks(1, ".", q)
	w.fails()
}

// P20.2: an address that is found behind an alias is none of the name's: the zone's server is asked by its own.
func TestSeekAlias(t *testing.T) {
	w := begun(t, q, hinted(1), servers("com.", "a.", "b."), alias("a.", "a.net."), ranked(3, addrs("a.net.", 9)), ranked(3, addrs("b.", 8)))
	w.asks(8, "com.", q)
	w.asks(1, ".", q)
	w.fails()
}

// P20.2: also a server whose addresses were tried is sought; what the store has of it as an answer ends that at once, glue does not.
func TestSeekTried(t *testing.T) {
	w := begun(t, q, hinted(1), servers("com.", "a."), ranked(3, addrs("a.", 5)))
	w.loses(5, "com.", q)
	w.asks(1, ".", q)
	w = begun(t, q, hinted(1), servers("com.", "a."), addrs("a.", 5))
	w.loses(5, "com.", q)
	w.asks(1, ".", asked("a.", 1))
	w.hears(answer(host("a.", 5), host("a.", 6)), ".", came(0, 3, host("a.", 5), host("a.", 6)))
	w.asks(6, "com.", q)
	w.asks(1, ".", q)
	w.fails()
}

// P20.2: names are the same whatever their letters: sought once.
func TestSeekLetters(t *testing.T) {
	w := begun(t, q, hinted(1), servers("com.", "a.net.", "A.net.", "a.NET.", "b.net."))
	w.asks(1, ".", asked("a.net.", 1))
	w.asks(1, ".", asked("b.net.", 1))
	w.asks(1, ".", q)
	w.fails()
}

// P20.2: a name that was sought for one zone is not sought for another one above it, which has its own names.
func TestSeekZones(t *testing.T) {
	w := begun(t, asked("x.www.com.", 1), hinted(1), servers("www.com.", "a.", "www.com."), servers("com.", "in.com.", "A.", "c."), servers(".", "d."))
	w.asks(1, ".", asked("a.", 1))
	w.asks(1, ".", asked("c.", 1))
	w.asks(1, ".", asked("x.www.com.", 1))
	w.fails()
	// What lies within the zone above is sought for the lower one: here b.com., for whose sake c. is sought first.
	w = begun(t, asked("x.www.com.", 1), hinted(1), servers("www.com.", "b.com."), servers("com.", "c.", "b.com."))
	w.asks(1, ".", asked("c.", 1))
	w.asks(1, ".", asked("b.com.", 1))
	w.asks(1, ".", asked("c.", 1))
	w.asks(1, ".", asked("x.www.com.", 1))
	w.fails()
}

// P20.2: a name whose address a goal of the task asks is not sought.
func TestSeekCircle(t *testing.T) {
	l := []api.Set{servers("com.", "ns.net."), servers("net.", "ns.com.")}
	w := begun(t, q, hinted(1), l...)
	w.asks(1, ".", asked("ns.com.", 1))
	w.lost(api.OK)
	w.asks(1, ".", asked("ns.net.", 1))
	w.lost(api.OK)
	w.asks(1, ".", q)
	w.fails()
	// The first goal counts, too, if it asks for an address; in any letters.
	w = begun(t, asked("NS.net.", 1), hinted(1), l...)
	w.asks(1, ".", asked("ns.com.", 1))
	w.lost(api.OK)
	w.asks(1, ".", asked("NS.net.", 1))
	w.fails()
	w = begun(t, asked("NS.net.", 2), hinted(1), l...)
	w.asks(1, ".", asked("ns.net.", 1))
	w.lost(api.OK)
	w.asks(1, ".", asked("ns.com.", 1))
	w.lost(api.OK)
	w.asks(1, ".", asked("NS.net.", 2))
	w.fails()
}

// P20.2: what was tried and sought in one goal was not in another one: here both need the same.
func TestGoalsApart(t *testing.T) {
	need := asked("n.x.", 1)
	w := begun(t, asked("a.", 1), hinted(1), alias("a.", "n.x."), servers("x.", "s.y.", "t.y."), alias("s.y.", "n.x."), none("t.y.", 1))
	// The goal s.y. seeks t.y., too, then asks the hint what the goal a. asks later again.
	w.loses(1, ".", need)
	w.loses(1, ".", need)
	w.fails()
	w = begun(t, asked("a.", 1), hinted(1), alias("a.", "n.x."), servers(".", "r."), addrs("r.", 7))
	w.loses(7, ".", need)
	w.put(servers("x.", "s.y."), alias("s.y.", "n.x."))
	w.loses(7, ".", need)
	w.loses(1, ".", need)
	w.loses(1, ".", need)
	w.fails()
}

// deep is sets of zones each of which has its server in the next one.
func deep(zones int) []api.Set {
	var l []api.Set
	for i := range zones {
		l = append(l, servers(fmt.Sprintf("z%d.", i+1), fmt.Sprintf("ns.z%d.", i+2)))
	}
	return l
}

// P20.2: at most MaxDepth goals: the last one's server is not sought.
func TestDepth(t *testing.T) {
	www := asked("www.z1.", 1)
	for zones := range 8 {
		w := begun(t, www, hinted(1), deep(zones)...)
		depth := min(zones+1, api.MaxDepth)
		for goal := depth; goal > 1; goal-- {
			w.loses(1, ".", asked(fmt.Sprintf("ns.z%d.", goal), 1))
		}
		w.loses(1, ".", www)
		w.fails()
	}
}

// P20.2: at MaxDepth goals the next zone is asked instead, whatever other names the zone has.
func TestDepthZones(t *testing.T) {
	l := append(deep(3), servers("z4.", "a.", "b.", "in.z4."), servers(".", "r."), addrs("r.", 9))
	w := begun(t, asked("www.z1.", 1), hinted(1), l...)
	w.loses(9, ".", asked("ns.z4.", 1))
	w.loses(1, ".", asked("ns.z4.", 1))
	w.loses(9, ".", asked("ns.z3.", 1))
	// When the goals are fewer again, further ones are begun again.
	w.put(servers("z3.", "c."))
	w.loses(9, ".", asked("c.", 1))
	w.loses(1, ".", asked("c.", 1))
	w.loses(1, ".", asked("ns.z3.", 1))
	w.put(data("www.z1.", "x"))
	w.loses(9, ".", asked("ns.z2.", 1))
}

// P20.2, P20.5: MaxWork queries, and no more: the task fails where it would send another one.
func TestWork(t *testing.T) {
	var l []int
	for i := range api.MaxWork + 3 {
		l = append(l, i)
	}
	for _, hints := range [][]int{l, l[:api.MaxWork+1], l[:api.MaxWork], l[:api.MaxWork-1]} {
		w := begun(t, q, hinted(hints...))
		for i := range min(len(hints), api.MaxWork) {
			w.loses(i, ".", q)
		}
		w.fails()
	}
}

// P20.2: at MaxWork queries an answer that is known ends the task all the same, also behind a further goal that has no address left.
func TestWorkDone(t *testing.T) {
	var l []int
	for i := range api.MaxWork {
		l = append(l, i)
	}
	for _, known := range []bool{true, false} {
		w := begun(t, q, hinted(l...), servers("com.", "ns.net."))
		for i := range api.MaxWork {
			w.loses(i, ".", asked("ns.net.", 1))
		}
		if known {
			w.put(data("www.com.", "x"))
			w.done(api.FoundData, data("www.com.", "x"))
		} else {
			w.fails()
		}
	}
	w := begun(t, q, hinted(append(l, 99)...))
	for i := range api.MaxWork {
		w.loses(i, ".", q)
	}
	w.put(data("www.com.", "x"))
	w.done(api.FoundData, data("www.com.", "x"))
	// Where a further goal has an address left, the whole task fails.
	w = begun(t, q, hinted(append(l, 99)...), servers("com.", "ns.net."))
	for i := range api.MaxWork {
		w.loses(i, ".", asked("ns.net.", 1))
	}
	w.put(data("www.com.", "x"))
	w.fails()
}

// barren is a zone's servers, all of which but those left open have no address, which is known.
func barren(many int, open ...int) []api.Set {
	var names []string
	l := make([]api.Set, 1)
	for i := range many {
		n := fmt.Sprintf("n%d.", i)
		names = append(names, n)
		known := true
		for _, j := range open {
			known = known && i != j
		}
		if known {
			l = append(l, none(n, 1))
		}
	}
	l[0] = servers("com.", names...)
	return l
}

// P20.2: 64 turns: each name that is sought takes two, a query one.
func TestTurns(t *testing.T) {
	for many := range 70 {
		w := begun(t, q, hinted(1), barren(many+1)...)
		if 2*(many+1)+1 <= 64 {
			w.loses(1, ".", q)
		}
		w.fails()
	}
	// An even number of turns: the query of a further goal.
	for many := range 70 {
		w := begun(t, q, hinted(1), barren(many+1, many)...)
		if 2*many+2 <= 64 {
			w.asks(1, ".", asked(fmt.Sprintf("n%d.", many), 1))
			w.lost(api.OK)
			w.asks(1, ".", q)
		}
		w.fails()
	}
}

// P20.2: turns are counted anew in each call.
func TestTurnsAnew(t *testing.T) {
	w := begun(t, q, hinted(1), barren(63, 31)...)
	w.loses(1, ".", asked("n31.", 1))
	w.loses(1, ".", q)
	w.fails()
	w = begun(t, q, hinted(1), barren(64, 31)...)
	w.loses(1, ".", asked("n31.", 1))
	w.fails()
}

// P20.2: Next goes on where a reply is waited for; what is heard is of the last WantAsk.
func TestNextAgain(t *testing.T) {
	w := begun(t, q, hinted(1), servers("com.", "ns.com."), addrs("ns.com.", 5))
	w.asks(5, "com.", q)
	w.asks(1, ".", q)
	w.hears(answer(text("www.com.", "x")), ".", came(0, 3, text("www.com.", "x")))
	w.hearsNothing(answer(text("www.com.", "y")))
	w.done(api.FoundData, came(0, 3, text("www.com.", "x")))
}

// Stores and tables that no call made: nothing, and nothing has changed.
func TestNextWrong(t *testing.T) {
	w := begun(t, q, hinted(1, 2))
	nothing := func() {
		t.Helper()
		for _, s := range []*store.Store{nil, {}, w.store} {
			for _, r := range []*rate.Table{nil, {}, w.table} {
				if s == w.store && r == w.table {
					continue
				}
				if got := w.task.Next(s, r, 0, 0); !sameWant(got, api.Want{}) {
					t.Errorf("Next is %v", got)
				}
			}
		}
		w.is(q)
	}
	nothing()
	w.lost(api.ErrArg)
	w.asks(1, ".", q)
	nothing()
	w.lost(api.OK)
	w.asks(2, ".", q)
	nothing()
	w.fails()
	nothing()
	w.fails()
}

// A task goes on with another store, and hangs on what that has.
func TestNextOtherStore(t *testing.T) {
	k, _ := iterate.New(q, hinted(1))
	a, b := stored(t, 1<<40), stored(t, 1<<40, servers("com.", "ns.com."), addrs("ns.com.", 5))
	for i, s := range []*store.Store{a, b, a} {
		got := k.Next(s, rate.New(), 0, 0)
		want := []api.Want{{Kind: api.WantAsk, Addr: 1, Zone: "\x00", Question: q}, {Kind: api.WantAsk, Addr: 5, Zone: named("com."), Question: q}, {Kind: api.WantFail}}[i]
		if !sameWant(got, want) {
			t.Errorf("Next is %v, not %v", got, want)
		}
	}
}
