package world_test

import (
	"slices"
	"testing"

	"cicerone/api"
	"cicerone/audit"
	"cicerone/name"
	"cicerone/world"
)

// client is a world with a client by frames, who asks one thing after the other.
type client struct {
	*testing.T
	*world.World
	id int
}

// newClient is a client of a tree's resolver.
func newClient(t *testing.T, x api.Tree) *client {
	t.Helper()
	c := &client{t, made(t, x), 0}
	does(t, c.World, open(1))
	return c
}

// asks asks a question, and wants its reply behind so many rounds, which is true, for which so many queries were sent.
func (c *client) asks(q api.Question, rounds, queries int) api.Message {
	c.Helper()
	was := c.Sent()
	c.id++
	does(c.T, c.World, come(1, framed(query(c.id, q))), step(api.StepSettle, rounds))
	l := replies(c.T, c.World, 1)
	if len(l) != 1 || l[0].ID != c.id || !audit.True(tree(), l[0]) || c.Sent()-was != queries {
		c.Fatalf("with %d queries %v is replied to by %v", c.Sent()-was, q, l)
	}
	if l := c.Journal(); !audit.Paired(l) || !audit.Backed(l, c.Accepts()) {
		c.Errorf("the journal is %v, of %v", l, c.Accepts())
	}
	return l[0]
}

// Example 1: a question whose answer is cached: no query is sent.
func TestCached(t *testing.T) {
	c := newClient(t, tree())
	c.asks(www, 2, 2)
	does(t, c.World, step(api.StepTick, 299))
	if m := c.asks(of("WWW.Com.", textType), 0, 0); m.Answers[0].TTL != 1 {
		t.Errorf("the reply is %v", m)
	}
	// One tick more, and it is asked again, though not from the root on.
	does(t, c.World, step(api.StepTick, 1))
	c.asks(www, 2, 2)
	c.asks(of("two.com.", 1), 1, 1)
	does(t, c.World, step(api.StepTick, 200))
	c.asks(of("ns.com.", 1), 1, 1)
	does(t, c.World, step(api.StepTick, 99))
	c.asks(of("b.com.", textType), 1, 1)
}

// Example 2: two clients ask the same: one query, two replies.
func TestShared(t *testing.T) {
	w := made(t, tree())
	does(t, w, open(1), open(1), come(1, framed(query(11, www))), step(api.StepSettle, 1), come(2, framed(query(12, of("wwW.com.", textType)))), step(api.StepSettle, 1))
	is(t, w, 0, 2, 1, 2)
	x, y := replies(t, w, 1), replies(t, w, 2)
	if len(x) != 1 || len(y) != 1 || x[0].ID != 11 || y[0].ID != 12 || !audit.True(tree(), x[0]) || !audit.True(tree(), y[0]) || y[0].Questions[0].Name != named("wwW.com.") {
		t.Errorf("the replies are %v, %v", x, y)
	}
}

// Example 3: a CNAME into another zone: both zones' servers are asked.
func TestAlias(t *testing.T) {
	c := newClient(t, tree())
	// The root for to., and for where to. leads, then com.
	if m := c.asks(of("to.", textType), 3, 3); len(m.Answers) != 3 {
		t.Errorf("the reply is %v", m)
	}
	zones := map[string]int{}
	for _, a := range c.Accepts() {
		zones[a.Zone]++
	}
	// Of the root's server the alias alone is told, and where com. is.
	if c.asks(www, 0, 0); zones["\x00"] == 0 {
		t.Errorf("accepted were %v", c.Accepts())
	}
	c = newClient(t, tree())
	c.asks(of("lost.com.", textType), 2, 2)
	c.asks(of("long.net.", textType), 5, 5)
}

// Example 4: a zone whose server's name lies in another zone: its address is asked first.
func TestElsewhere(t *testing.T) {
	c := newClient(t, tree())
	// The root tells that n.com. serves net.; the root, then com. are asked for its address.
	c.asks(of("www.net.", textType), 4, 4)
	c.asks(of("n.com.", 1), 0, 0)
	c.asks(of("not.net.", 1), 1, 1)
}

// Example 5: a name that is not there: NXDOMAIN, and again from the cache.
func TestNothing(t *testing.T) {
	c := newClient(t, tree())
	m := c.asks(of("x.www.com.", 1), 2, 2)
	if m.Code != api.CodeName || len(m.Authority) != 1 || m.Authority[0].TTL != 60 || m.Authority[0].Name != named("com.") {
		t.Errorf("the reply is %v", m)
	}
	does(t, c.World, step(api.StepTick, 59))
	for _, kind := range []int{1, 2, textType} {
		if m := c.asks(of("X.www.com.", kind), 0, 0); m.Code != api.CodeName || m.Authority[0].TTL != 1 {
			t.Errorf("the reply is %v", m)
		}
	}
	// What is not there of a name that is there is asked for each type.
	m = c.asks(of("www.com.", 1), 1, 1)
	if m.Code != api.CodeOK || len(m.Answers) != 0 || len(m.Authority) != 1 {
		t.Errorf("the reply is %v", m)
	}
	c.asks(of("www.com.", 1), 0, 0)
	c.asks(of("www.com.", 2), 1, 1)
	does(t, c.World, step(api.StepTick, 1))
	c.asks(of("x.www.com.", 1), 1, 1)
}

// Example 6: a server that does not answer: another one is asked, behind Timeout ticks.
func TestSilent(t *testing.T) {
	w := made(t, tree())
	does(t, w, open(1), come(1, framed(query(1, www))), step(api.StepSettle, 1))
	is(t, w, 1, 2, 1, 2)
	does(t, w, step(api.StepTick, api.Timeout-1))
	is(t, w, 1, 2, 1, 2)
	does(t, w, step(api.StepTick, 1))
	is(t, w, 1, 3, 1, 2, 3)
	does(t, w, step(api.StepServe, 3))
	is(t, w, 0, 3, 1, 2, 3)
	told(t, w, 1, [2]int{1, 0})
	// If no one answers, that is told, too.
	w = made(t, tree())
	does(t, w, open(1), come(1, framed(query(1, www))), step(api.StepTick, 100))
	is(t, w, 0, 1, 1)
	told(t, w, 1, [2]int{1, api.CodeServer})
}

// Example 7: a crash: what was synced is answered at once.
func TestCrashed(t *testing.T) {
	c := newClient(t, tree())
	l := []api.Question{www, of("to.", textType), of("lost.com.", 1), of("www.net.", textType), of("www.com.", 99)}
	var was []api.Message
	for i, q := range l {
		was = append(was, c.asks(q, 5, []int{2, 1, 1, 3, 1}[i]))
	}
	for _, tails := range [][]api.Tail{nil, {{Name: "s00000001", Keep: 1000, Turn: true}, {Name: "manifest", Keep: 50, Turn: true}}} {
		does(t, c.World, api.Step{Kind: api.StepCrash, Tails: tails}, step(api.StepTick, 5), start, open(1))
		for i, q := range l {
			m := c.asks(q, 0, 0)
			for j, r := range m.Answers {
				if want := was[i].Answers[j]; r.Name != want.Name || string(r.Data) != string(want.Data) {
					t.Errorf("behind a crash %v is %v", q, m)
				}
			}
		}
	}
}

// Example 8: a record of another zone in a reply: it is let go.
func TestForeign(t *testing.T) {
	w := made(t, tree())
	does(t, w, open(1), come(1, framed(query(1, of("a.com.", textType)))), step(api.StepSettle, 1))
	lie := answered(0, of("a.com.", textType), cname("a.com.", "www.net."), text("www.net.", "lie"), host("r.", 66))
	lie.Authority = []api.RR{ns("net.", "a.com."), ns(".", "a.com."), soa(".")}
	lie.Additional = []api.RR{host("n.com.", 66), host("r.", 66)}
	does(t, w, push(2, lie))
	for _, a := range w.Accepts() {
		if !name.Within(a.Set.Name, a.Zone) || slices.ContainsFunc(a.Set.Datas, func(b []byte) bool { return string(b) == "lie" || string(b) == "\x00\x00\x00\x42" }) {
			t.Errorf("accepted was %v", a)
		}
	}
	if a := w.Accepts(); len(a) != 4 || a[3].Set.Type != api.TypeCNAME {
		t.Errorf("accepted were %v", a)
	}
	does(t, w, step(api.StepSettle, 5))
	l := replies(t, w, 1)
	if len(l) != 1 || len(l[0].Answers) != 2 || string(l[0].Answers[1].Data) != "net" {
		t.Errorf("the reply is %v", l)
	}
}
