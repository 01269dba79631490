package front_test

import (
	"math/rand/v2"
	"slices"
	"testing"

	"cicerone/api"
	"cicerone/front"
	"cicerone/http"
	"cicerone/prefix"
	"cicerone/wire"
)

// game is a front and a second one, with the bytes that are still to come on each stream, all that was taken of each, and how often what happened.
type game struct {
	t      *testing.T
	r      *rand.Rand
	f      *front.Front
	p      *plain
	come   map[int]string
	kinds  map[int]int
	out    map[int]string
	now    int
	counts map[string]int
	next   int
	// crowded tells that many ask much, and little is answered.
	crowded bool
}

// drawnQuestion is often one of few, seldom one that has its reply at once.
func (g *game) drawnQuestion() api.Question {
	q := of([]string{a, upA, b, upB, net}[g.r.IntN(5)])
	switch g.r.IntN(12) {
	case 0:
		q.Type = []int{0, 2, 41, 248, 249, 252, 255, 256}[g.r.IntN(8)]
	case 1:
		q.Class = []int{0, 1, 3, 255}[g.r.IntN(4)]
	case 2, 3, 4:
		q = numbered(g.r.IntN(18))
	}
	if g.crowded && g.r.IntN(3) > 0 {
		q = numbered(g.r.IntN(30))
	}
	return q
}

// drawnBody is often a query, seldom one that is malformed, or too short.
func (g *game) drawnBody() string {
	g.next++
	m := with(query(g.next, g.drawnQuestion()), func(m *api.Message) { m.RD = g.r.IntN(2) == 0 })
	switch g.r.IntN(60) {
	case 0:
		return encoded(m)[0][:g.r.IntN(12)]
	case 1, 2:
		return encoded(m)[0][:12+g.r.IntN(5)]
	case 3:
		m.Response = true
	case 4:
		m.Questions = append(m.Questions, m.Questions...)
	case 5:
		m.Opcode = 1 + g.r.IntN(15)
	case 6:
		m.Additional = []api.RR{{Name: root, Type: api.TypeOPT, Class: 1232}}
	}
	return encoded(m)[0]
}

// drawnBytes is what a client may send.
func (g *game) drawnBytes(kind int) string {
	if kind == api.StreamHTTP {
		switch g.r.IntN(60) {
		case 0:
			return "\n"
		case 1, 2:
			return closing(g.drawnBody())
		}
	}
	var l []string
	for range 1 + g.r.IntN(3) {
		l = append(l, g.drawnBody())
	}
	return sent(kind, l...)
}

// drawnFound is what a cache may have, of which seldom something is not fresh, or can't be written.
func (g *game) drawnFound(n string) api.Found {
	ends := func() int { return g.now + 1 + g.r.IntN(30) - g.r.IntN(2)*g.r.IntN(2)*3 }
	r := api.Found{Kind: 1 + g.r.IntN(3)}
	for range g.r.IntN(3) {
		r.Chain = append(r.Chain, alias(n, b, ends()))
		n = b
	}
	switch r.Kind {
	case api.FoundData:
		r.Last = set(n, ends(), 1, byte(g.r.IntN(256)))
	case api.FoundNone:
		r.Last = denied(n, api.SetNone, ends())
	case api.FoundNothing:
		r.Last = denied(n, api.SetNothing, ends())
	}
	switch g.r.IntN(25) {
	case 0:
		r.Last.Name = "x"
	case 1:
		r.Kind = []int{0, 4, 5}[g.r.IntN(3)]
	case 2:
		r.Last.Datas = append(r.Last.Datas, r.Last.Datas...)
	}
	return r
}

// drawnStream is mostly one that is there.
func (g *game) drawnStream() int {
	if l := g.p.streams(); len(l) > 0 && g.r.IntN(20) > 0 {
		return l[g.r.IntN(len(l))]
	}
	return g.r.IntN(g.p.last+3) - 1
}

// asked is mostly a question that waits.
func (g *game) asked() api.Question {
	if l := g.p.waiting(); len(l) > 0 && g.r.IntN(10) > 0 {
		return l[g.r.IntN(len(l))]
	}
	return g.drawnQuestion()
}

// step makes a drawn call of both fronts, and compares what they answer.
func (g *game) step() {
	t := g.t
	t.Helper()
	n := g.r.IntN(100)
	if g.crowded && n >= 45 && n < 90 && g.r.IntN(4) > 0 {
		n = 44
	}
	switch {
	case n < 4:
		kind := kinds[g.r.IntN(2)] - 2*g.r.IntN(2)*g.r.IntN(2)
		got, e := g.f.Open(kind)
		if want, we := g.p.open(kind); got != want || e != we {
			t.Fatalf("Open(%d) is %d, %d, not %d, %d", kind, got, e, want, we)
		}
		g.kinds[got] = kind
	case n < 6:
		stream := g.drawnStream()
		if e, we := g.f.End(stream), g.p.end(stream); e != we {
			t.Fatalf("End(%d) is %d, not %d", stream, e, we)
		}
	case n < 45:
		stream := g.drawnStream()
		g.come[stream] += g.drawnBytes(max(g.kinds[stream], 1))
		size := g.r.IntN(len(g.come[stream]) + 1)
		s := g.come[stream][:size]
		g.come[stream] = g.come[stream][size:]
		got, e := g.f.Feed(stream, []byte(s), g.now)
		if want, we := g.p.feed(stream, s, g.now); !slices.Equal(got, want) || e != we {
			t.Fatalf("Feed(%d, %q) is %v, %d, not %v, %d", stream, s, got, e, want, we)
		}
	case n < 65:
		q := g.asked()
		r := g.drawnFound(q.Name)
		if e, we := g.f.Answer(q, r, g.now), g.p.answer(q, r, g.now); e != we {
			t.Fatalf("Answer(%v, %v) is %d, not %d", q, r, e, we)
		}
	case n < 72:
		q := g.asked()
		if e, we := g.f.Fail(q, g.now), g.p.fail(q, g.now); e != we {
			t.Fatalf("Fail(%v) is %d, not %d", q, e, we)
		}
	case n < 90:
		stream := g.drawnStream()
		got, e := g.f.Take(stream)
		if want, we := g.p.take(stream); string(got) != want || e != we {
			t.Fatalf("Take(%d) is %q, %d, not %q, %d", stream, got, e, want, we)
		}
		g.out[stream] += string(got)
	default:
		g.now += g.r.IntN(4)
	}
}

// watch compares what both fronts tell, and counts what has come about.
func (g *game) watch() {
	g.t.Helper()
	streams(g.t, g.f, g.p.streams()...)
	waits(g.t, g.f, g.p.waiting()...)
	notes(g.t, g.f, g.p.journal...)
	if g.t.Failed() {
		g.t.FailNow()
	}
	if len(g.p.waiting()) == 16 {
		g.counts["full"]++
	}
}

// parsed is the bodies that a client reads out of all that went to it; those that come behind a refusal are none.
func parsed(t *testing.T, kind int, s string) []string {
	t.Helper()
	var l []string
	if kind == api.StreamFrames {
		for _, b := range prefix.New().Feed([]byte(s)) {
			l = append(l, string(b))
		}
		return l
	}
	for rest := []byte(s); len(rest) > 0; {
		code, b, behind, e := http.ParseReply(rest)
		if e != api.OK || code == 400 && len(behind) > 0 {
			t.Fatalf("of %q a client reads %d, %q, %d", rest, code, b, e)
		}
		if code == 200 {
			l = append(l, string(b))
		}
		rest = behind
	}
	return l
}

// paired asks that each reply that a client has stands in the journal, once, behind its query (P21.5), or is one to a malformed body.
func (g *game) paired() {
	g.t.Helper()
	open := map[int]api.Event{}
	replied := map[int]map[string]int{}
	for _, e := range g.f.Journal() {
		m := e.Message
		if !e.Reply {
			open[m.ID] = e
			continue
		}
		q, ok := open[m.ID]
		if !ok || q.Stream != e.Stream || q.At > e.At || !m.Response || !m.RA || m.RD != q.Message.RD || m.Opcode != q.Message.Opcode || !slices.Equal(m.Questions, q.Message.Questions) {
			g.t.Fatalf("%v replies to %v, %t", e, q, ok)
		}
		delete(open, m.ID)
		if replied[e.Stream] == nil {
			replied[e.Stream] = map[string]int{}
		}
		replied[e.Stream][encoded(m)[0]]++
	}
	for stream, s := range g.out {
		for _, x := range parsed(g.t, g.kinds[stream], s) {
			if m, e := wire.Decode([]byte(x)); e == api.OK && m.Code == api.CodeForm {
				g.counts["malformed"]++
				continue
			}
			if replied[stream][x]--; replied[stream][x] < 0 {
				g.t.Fatalf("to stream %d went %q", stream, x)
			}
			g.counts["replied"]++
		}
	}
}

// P21.1 to P21.5: drawn calls, held against the second front.
func TestDrawn(t *testing.T) {
	r := rand.New(rand.NewPCG(21, 1))
	counts := map[string]int{}
	for range 300 {
		g := &game{t: t, r: r, f: opened(t), p: &plain{}, come: map[int]string{}, kinds: map[int]int{}, out: map[int]string{}, counts: counts, crowded: r.IntN(3) == 0}
		for range 120 {
			g.step()
			g.watch()
		}
		g.paired()
		for _, x := range g.p.bodies {
			switch {
			case x.state == ready:
				counts["held"]++
			case x.state == lost && x.reply != "":
				counts["lost"]++
			}
		}
		for _, s := range g.p.sides {
			if s.ended {
				counts["ended"]++
			}
		}
	}
	for _, what := range []string{"full", "malformed", "replied", "held", "lost", "ended"} {
		if counts[what] < 20 {
			t.Errorf("%s: that came about %d times alone", what, counts[what])
		}
	}
}

// settled fails all questions that wait, and takes what goes out: the stream is there no more, if it ends.
func settled(t *testing.T, f *front.Front, ends bool) string {
	t.Helper()
	for _, q := range f.Waiting() {
		fails(t, f, q, 6)
	}
	out, e := f.Take(1)
	if e != api.OK || (len(f.Streams()) == 0) != ends {
		t.Fatalf("Take is %d, Streams %v", e, f.Streams())
	}
	return string(out)
}

// P21.2: how the bytes of a stream are cut plays no part but for when questions are told.
func TestCuts(t *testing.T) {
	not := query(9, with(of(b), func(q *api.Question) { q.Type = 255 }))
	bodies := append(queries(of(a), of(b)), encoded(not)[0], "123456789012", encoded(query(4, of(upA)))[0])
	lates := map[int][]string{api.StreamFrames: {"", framed("short")}, api.StreamHTTP: {"", closing(queries(of(net))[0]), posted("short"), "\n"}}
	for kind, l := range lates {
		for _, late := range l {
			s := sent(kind, bodies...) + late
			whole := opened(t, kind)
			whole.Feed(1, []byte(s), 5)
			waiting, journal := whole.Waiting(), whole.Journal()
			out := settled(t, whole, late != "")
			for cut := range len(s) + 1 {
				f := opened(t, kind)
				f.Feed(1, []byte(s[:cut]), 5)
				f.Feed(1, []byte(s[cut:]), 5)
				waits(t, f, waiting...)
				notes(t, f, journal...)
				if got := settled(t, f, late != ""); got != out {
					t.Errorf("cut at %d there goes out %q, not %q", cut, got, out)
				}
				if t.Failed() {
					t.FailNow()
				}
			}
		}
	}
}
