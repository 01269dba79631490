package iterate_test

import (
	"math"
	"strings"
	"testing"

	"cicerone/api"
	"cicerone/iterate"
	"cicerone/name"
	"cicerone/store"
)

// waiting is a task of a question below com. that has asked com.'s server 5.
func waiting(t *testing.T, q api.Question, l ...api.Set) *work {
	t.Helper()
	w := begun(t, q, nil, append(l, servers("com.", "ns.com."), addrs("ns.com.", 5))...)
	w.asks(5, name.Text(name.Tail(q.Name, 1)), q)
	return w
}

// changed is a message, changed.
func changed(m api.Message, change func(m *api.Message)) api.Message {
	change(&m)
	return m
}

// P20.3: of messages with another Opcode, with TC, or with another Code nothing is accepted, whatever they have; they are heard all the same.
func TestHearRefused(t *testing.T) {
	good := []api.Message{
		answer(text("www.com.", "x")), denial(api.CodeOK, []api.RR{soa("com.", 60)}), denial(api.CodeName, []api.RR{soa("com.", 60)}),
		referral([]api.RR{ns("www.com.", "ns.com.")}, host("ns.com.", 6)),
	}
	for _, m := range good {
		for what, change := range map[string]func(m *api.Message){
			"Opcode 1":    func(m *api.Message) { m.Opcode = 1 },
			"Opcode 15":   func(m *api.Message) { m.Opcode = 15 },
			"Opcode -1":   func(m *api.Message) { m.Opcode = -1 },
			"TC":          func(m *api.Message) { m.TC = true },
			"CodeForm":    func(m *api.Message) { m.Code = api.CodeForm },
			"CodeServer":  func(m *api.Message) { m.Code = api.CodeServer },
			"CodeNot":     func(m *api.Message) { m.Code = api.CodeNot },
			"CodeRefused": func(m *api.Message) { m.Code = api.CodeRefused },
			"Code 6":      func(m *api.Message) { m.Code = 6 },
			"Code 15":     func(m *api.Message) { m.Code = 15 },
			"Code -1":     func(m *api.Message) { m.Code = -1 },
			"Code 16":     func(m *api.Message) { m.Code = 16 },
		} {
			w := waiting(t, q)
			w.hearsNothing(changed(m, change))
			w.hearsNothing(m)
			w.lost(api.ErrArg)
			if t.Failed() {
				t.Fatal(what)
			}
		}
	}
}

// P20.3: all else of a header, and the questions, play no part.
func TestHearHeader(t *testing.T) {
	for _, change := range []func(m *api.Message){
		func(m *api.Message) { m.ID = 77 },
		func(m *api.Message) { m.Response = false },
		func(m *api.Message) { m.RD, m.RA = true, true },
		func(m *api.Message) { m.Questions = []api.Question{asked("net.", 5), {}} },
		func(m *api.Message) {
			m.Authority, m.Additional = []api.RR{soa("com.", 60), ns("www.com.", "a.")}, []api.RR{host("a.com.", 9), text("www.com.", "z")}
		},
	} {
		w := waiting(t, q)
		w.hears(changed(answer(text("www.com.", "x")), change), "com.", came(0, 3, text("www.com.", "x")))
	}
	// CodeName takes nothing from an answer.
	w := waiting(t, q)
	w.hears(denial(api.CodeName, []api.RR{soa("com.", 60)}, text("www.com.", "x")), "com.", came(0, 3, text("www.com.", "x")))
}

// P20.3: without a WantAsk that waits nothing is heard: ahead of the first one, behind a Hear, behind Lost.
func TestHearNone(t *testing.T) {
	m := answer(text("www.com.", "x"))
	w := begun(t, q, hinted(1, 2))
	w.hearsNothing(m)
	w.lost(api.ErrArg)
	w.loses(1, ".", q)
	w.hearsNothing(m)
	w.asks(2, ".", q)
	w.hears(m, ".", came(0, 3, text("www.com.", "x")))
	w.hearsNothing(answer(text("www.com.", "y")))
	w.lost(api.ErrArg)
	w.done(api.FoundData, came(0, 3, text("www.com.", "x")))
	w.hearsNothing(answer(text("www.com.", "y")))
}

// P20.3: a WantAsk that waits when the task comes to its end can still be heard, or lost.
func TestHearBehindEnd(t *testing.T) {
	m := answer(text("www.com.", "x"))
	w := begun(t, q, hinted(1))
	w.asks(1, ".", q)
	w.fails()
	w.hears(m, ".", came(0, 3, text("www.com.", "x")))
	w.fails()
	w = begun(t, q, hinted(1))
	w.asks(1, ".", q)
	w.put(data("www.com.", "y"))
	w.done(api.FoundData, data("www.com.", "y"))
	w.lost(api.OK)
	w.hearsNothing(m)
}

// P20.3: a store that no call made: nothing, and the WantAsk still waits.
func TestHearWrong(t *testing.T) {
	w := waiting(t, q)
	m := answer(text("www.com.", "x"))
	for _, s := range []*store.Store{nil, {}} {
		if l := w.task.Hear(s, m, 0); len(l) != 0 {
			t.Errorf("Hear is %v", l)
		}
	}
	w.hears(m, "com.", came(0, 3, text("www.com.", "x")))
	w = waiting(t, q)
	w.hearsNothing(api.Message{})
	w = waiting(t, q)
	w.hearsNothing(answer())
}

// P20.3: what is of another class, or lies outside the zone, is let go, in all sections.
func TestHearOwn(t *testing.T) {
	x := text("www.com.", "x")
	for _, class := range []int{0, 2, 3, 255, 65535, 65537, -1} {
		w := waiting(t, q)
		w.hears(answer(classed(class, text("www.com.", "y")), x, classed(class, x)), "com.", came(0, 3, x))
		w = waiting(t, q)
		w.hearsNothing(denial(api.CodeOK, []api.RR{classed(class, soa("com.", 60))}, classed(class, x)))
		w = waiting(t, q)
		w.hears(denial(api.CodeOK, []api.RR{soa("com.", 60)}, classed(class, x), classed(class, cname("www.com.", "a.com."))), "com.", denied(0, api.SetNone, q, soa("com.", 60), 60))
		w = waiting(t, q)
		w.hears(referral([]api.RR{classed(class, ns("www.com.", "a.com.")), ns("www.com.", "b.com.")}, classed(class, host("b.com.", 6)), host("b.com.", 7)), "com.", came(0, 2, ns("www.com.", "b.com.")), came(0, 1, host("b.com.", 7)))
	}
	// The root's server may tell of all.
	w := begun(t, q, hinted(1))
	w.asks(1, ".", q)
	w.hears(referral([]api.RR{ns("com.", "a.net."), ns("com.", "a.com.")}, host("a.net.", 6), host("a.com.", 7)), ".", came(0, 2, ns("com.", "a.com."), ns("com.", "a.net.")), came(0, 1, host("a.net.", 6)), came(0, 1, host("a.com.", 7)))
}

// P20.3: the times that an accept tells, and at which sets are put.
func TestHearTimes(t *testing.T) {
	for _, now := range []int{0, 1, 1000, 1 << 39, api.MaxTime - api.MaxTTL} {
		w := begun(t, q, hinted(1))
		w.now = now
		w.asks(1, ".", q)
		w.hears(answer(text("www.com.", "x"), lasting(200, text("www.com.", "y"))), ".", came(now, 3, lasting(200, text("www.com.", "x")), text("www.com.", "y")))
		w.now = now + 199
		if now+api.MaxTTL < api.MaxTime {
			w.done(api.FoundData, came(now, 3, lasting(200, text("www.com.", "x")), text("www.com.", "y")))
		}
	}
	// TTLs as they count: the greatest one that is kept, and those that count as 0.
	for ticks, kept := range map[int]int{1: 1, 86399: 86399, 86400: 86400, 86401: 86400, 1<<31 - 1: 86400, 1 << 31: 0, 1<<32 - 1: 0, 0: 0, -1: 0, math.MinInt: 0, math.MaxInt: 0} {
		w := begun(t, q, hinted(1))
		w.now = 50
		w.asks(1, ".", q)
		m := answer(lasting(ticks, text("www.com.", "x")))
		if kept == 0 {
			w.hearsNothing(m)
		} else {
			w.hears(m, ".", came(50, 3, lasting(kept, text("www.com.", "x"))))
		}
	}
}

// P20.3: times that are none: At is as it was told, and with TTL comes to when the set expires.
func TestHearFarTimes(t *testing.T) {
	for _, now := range []int{-1, -5000, api.MaxTime - api.MaxTTL + 1, api.MaxTime, 1 << 50, math.MaxInt, math.MinInt} {
		w := begun(t, q, hinted(1))
		w.asks(1, ".", q)
		l := w.task.Hear(w.store, answer(text("www.com.", "x")), now)
		expires := min(max(now, 0), api.MaxTime-api.MaxTTL) + ttl
		if len(l) != 1 || l[0].At != now || l[0].TTL != expires-now || l[0].Set.Expires != expires {
			t.Errorf("Hear at %d is %v", now, l)
		}
	}
}

// P20.3: what the store does not take is accepted all the same: there is no room, or it has a set of a greater rank.
func TestHearPut(t *testing.T) {
	long := text("www.com.", strings.Repeat("x", 2000))
	for _, most := range []int{0, 500} {
		k, _ := iterate.New(q, hinted(1))
		w := &work{t: t, task: k, store: stored(t, most)}
		k.Next(w.store, begun(t, q, nil).table, 0, 0)
		l := k.Hear(w.store, answer(long), 0)
		if len(l) != 1 || !sameAccept(l[0], api.Accept{TTL: ttl, Zone: "\x00", Set: came(0, 3, long)}) || len(w.store.Sets()) != 0 {
			t.Errorf("Hear is %v, and the store has %v", l, w.store.Sets())
		}
	}
	w := waiting(t, q, ranked(3, servers("www.com.", "a.www.com.")), ranked(3, addrs("b.com.", 9)))
	if l := w.store.Sets(); len(l) != 4 {
		t.Fatal(l)
	}
	was := w.store.Sets()
	l := w.task.Hear(w.store, referral([]api.RR{ns("www.com.", "b.com.")}, host("b.com.", 6)), 0)
	if len(l) != 2 || !sameAccept(l[0], api.Accept{TTL: ttl, Zone: named("com."), Set: came(0, 2, ns("www.com.", "b.com."))}) || !sameAccept(l[1], api.Accept{TTL: ttl, Zone: named("com."), Set: came(0, 1, host("b.com.", 6))}) {
		t.Errorf("Hear is %v", l)
	}
	for i, x := range w.store.Sets() {
		if x.Expires != was[i].Expires || x.Rank != was[i].Rank {
			t.Errorf("the store has %v", x)
		}
	}
}

// P20.3: sets are put in the order in which they are accepted: here the store has room for the last ones alone.
func TestHearOrder(t *testing.T) {
	k, _ := iterate.New(asked("l1.", textType), hinted(1))
	s := stored(t, 100)
	k.Next(s, begun(t, q, nil).table, 0, 0)
	l := k.Hear(s, answer(append(links(6, ""), text("l7.", "x"))...), 0)
	if len(l) != 7 {
		t.Fatalf("Hear is %v", l)
	}
	for i, x := range l {
		if x.Set.Name != named(link(i+1, "")) {
			t.Errorf("the accept %d is %v", i, x)
		}
	}
	for _, x := range s.Sets() {
		if x.Name < named("l5.") {
			t.Errorf("the store has %v", x)
		}
	}
	if len(s.Sets()) != 3 {
		t.Errorf("the store has %v", s.Sets())
	}
}
