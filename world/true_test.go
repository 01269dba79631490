package world_test

import (
	"math/rand/v2"
	"slices"
	"testing"

	"cicerone/api"
	"cicerone/audit"
	"cicerone/http"
	"cicerone/prefix"
	"cicerone/wire"
	"cicerone/world"
	"cicerone/zone"
)

// crowd is a world with clients of both kinds, who ask of its tree.
type crowd struct {
	*testing.T
	d drawing
	x api.Tree
	w *world.World
	// asked is what each stream asked, in order, to which it has no reply yet.
	asked map[int][]api.Message
	kinds []int
	id    int
	// replies and fails count replies with a truth and without one.
	replies, fails int
}

// opens opens the clients' streams.
func (c *crowd) opens() {
	c.kinds = []int{1, 2, 1, 2}
	c.asked = map[int][]api.Message{}
	for _, kind := range c.kinds {
		does(c.T, c.w, open(kind))
	}
}

// asks has a drawn client ask.
func (c *crowd) asks() {
	stream := 1 + c.d.IntN(len(c.kinds))
	c.id++
	m := query(c.id, c.d.question(c.x))
	c.asked[stream] = append(c.asked[stream], m)
	b, _ := wire.Encode(m)
	if c.kinds[stream-1] == api.StreamHTTP {
		b, _ = http.Ask(b, c.d.IntN(2) == 0)
	} else {
		b, _ = prefix.Encode(b)
	}
	does(c.T, c.w, come(stream, b))
}

// came is the messages that came for a stream.
func (c *crowd) came(stream int) []api.Message {
	c.Helper()
	b := c.w.Out(stream)
	if c.kinds[stream-1] == api.StreamFrames {
		return decoded(c.T, b)
	}
	var l []api.Message
	for len(b) > 0 {
		code, body, rest, e := http.ParseReply(b)
		m, e2 := wire.Decode(body)
		if code != 200 || e != api.OK || e2 != api.OK {
			c.Fatalf("by HTTP there goes %q", b)
		}
		l, b = append(l, m), rest
	}
	return l
}

// hears asks that each query has its reply, and that it is the truth; one that has none fails.
func (c *crowd) hears() {
	c.Helper()
	for stream := 1; stream <= len(c.kinds); stream++ {
		l := c.came(stream)
		if c.kinds[stream-1] == api.StreamFrames {
			slices.SortFunc(l, func(a, b api.Message) int { return a.ID - b.ID })
		}
		if len(l) != len(c.asked[stream]) {
			c.Fatalf("to %v stream %d has %v", c.asked[stream], stream, l)
		}
		for i, m := range l {
			q := c.asked[stream][i]
			_, ok := zone.Truth(c.x, q.Questions[0])
			if m.ID != q.ID || m.Questions[0] != q.Questions[0] || ok && !audit.True(c.x, m) || !ok && m.Code != api.CodeServer {
				c.Fatalf("in %v to %v stream %d has %v", c.x, q, stream, m)
			}
			if ok {
				c.replies++
			} else {
				c.fails++
			}
		}
		c.asked[stream] = nil
	}
}

// P4: in drawn trees, whose servers can all be found, all questions are answered as the tree has it, whoever asks, whatever is cached, drawn or lost in a crash. So do P1 and P3 hold.
func TestTrue(t *testing.T) {
	d := drawing{rand.New(rand.NewPCG(23, 4))}
	replies, fails := 0, 0
	for range 250 {
		x := d.tree(one(d, 30, 300, 3000))
		if d.IntN(3) == 0 {
			d.lame(&x)
		}
		c := &crowd{T: t, d: d, x: x, w: sized(t, x, room, most)}
		c.opens()
		for range 8 {
			// More than 8 questions may be too many for one server.
			for range 1 + d.IntN(8) {
				c.asks()
				if d.IntN(3) == 0 {
					does(t, c.w, step(api.StepSettle, d.IntN(2)))
				}
			}
			does(t, c.w, draws(d.IntN(99), d.IntN(99), int(d.Uint64())), step(api.StepSettle, 30))
			is(t, c.w, 0, c.w.Sent(), c.w.Conns()...)
			c.hears()
			does(t, c.w, step(api.StepTick, d.IntN(40)))
			switch d.IntN(8) {
			case 0:
				does(t, c.w, api.Step{Kind: api.StepCrash, Tails: d.tails()}, start)
				c.opens()
			case 1:
				does(t, c.w, step(api.StepCompact, 0))
			case 2:
				for _, conn := range c.w.Conns() {
					does(t, c.w, step(api.StepDrop, conn))
				}
			}
		}
		l := c.w.Journal()
		if !audit.Paired(l) || !audit.Backed(l, c.w.Accepts()) {
			t.Fatalf("the journal is %v, of %v", l, c.w.Accepts())
		}
		replies, fails = replies+c.replies, fails+c.fails
	}
	if replies < 5000 || fails < 100 {
		t.Errorf("%d replies were true, %d questions had no truth", replies, fails)
	}
}

// P4: each name of the tree that is written out, with each type, one by one in one world, and each in a world of its own.
func TestTrueAll(t *testing.T) {
	x := tree()
	together := newClient(t, x)
	for _, z := range x.Zones {
		for _, r := range z.RRs {
			for _, n := range []string{r.Name, "\x01x" + r.Name} {
				for _, kind := range []int{api.TypeA, api.TypeNS, api.TypeCNAME, api.TypeSOA, api.TypeMX, textType} {
					q := api.Question{Name: n, Type: kind, Class: 1}
					for _, c := range []*client{together, newClient(t, x)} {
						c.id++
						does(t, c.World, come(1, framed(query(c.id, q))), step(api.StepSettle, 24))
						_, ok := zone.Truth(x, q)
						l := replies(t, c.World, 1)
						if len(l) != 1 || l[0].ID != c.id || ok && !audit.True(x, l[0]) || !ok && l[0].Code != api.CodeServer {
							t.Errorf("%v is replied to by %v", q, l)
						}
					}
				}
			}
		}
	}
	does(t, together.World, step(api.StepTick, 30))
	if l := together.Journal(); !audit.Paired(l) || !audit.Backed(l, together.Accepts()) {
		t.Error("the journal is not paired, or not backed")
	}
}
