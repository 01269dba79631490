package pool_test

import (
	"math/big"
	"math/rand/v2"
	"slices"
	"testing"

	"cicerone/api"
	"cicerone/name"
	"cicerone/net"
	"cicerone/pool"
	"cicerone/prefix"
	"cicerone/wire"
)

// line is a connection of the second pool: all bytes that came, and how many frames of them were told.
type line struct {
	conn, addr int
	came       []byte
	told       int
}

// waiting is an open question of the second pool.
type waiting struct {
	asked api.Asked
	sent  int
}

// plain is a second pool, by the chapter's words: its connections, and what is open, by tickets.
type plain struct {
	lines        []*line
	open         []waiting
	last, dialed int
}

// count is how many questions are open on a connection.
func (p *plain) count(conn int) int {
	many := 0
	for _, w := range p.open {
		if w.asked.Conn == conn {
			many++
		}
	}
	return many
}

// has tells whether an ID is open on a connection.
func (p *plain) has(conn, id int) bool {
	return slices.ContainsFunc(p.open, func(w waiting) bool { return w.asked.Conn == conn && w.asked.ID == id })
}

func (p *plain) ask(addr int, q api.Question, draw, now int) (api.Asked, api.Errno) {
	if !name.Can(q.Name) || q.Type < 0 || q.Type > 65535 || q.Class < 0 || q.Class > 65535 {
		return api.Asked{}, api.ErrArg
	}
	best, there := -1, 0
	for _, l := range p.lines {
		if l.addr != addr {
			continue
		}
		there++
		if best < 0 || p.count(l.conn) < p.count(best) {
			best = l.conn
		}
	}
	if best < 0 || p.count(best) >= api.MaxOpen {
		if there >= api.MaxConns {
			return api.Asked{}, api.ErrBusy
		}
		if addr < 0 || addr > greatest {
			return api.Asked{}, api.ErrArg
		}
		p.dialed++
		best = p.dialed
		p.lines = append(p.lines, &line{conn: best, addr: addr})
	}
	number := big.NewInt(int64(draw))
	if draw < 0 {
		number.Add(number, new(big.Int).Lsh(big.NewInt(1), 64))
	}
	id := int(number.Rem(number, big.NewInt(65536)).Int64())
	for p.has(best, id) {
		if id++; id == 65536 {
			id = 0
		}
	}
	p.last++
	a := api.Asked{Ticket: p.last, Conn: best, ID: id, Addr: addr, Question: q}
	p.open = append(p.open, waiting{a, now})
	return a, api.OK
}

// remove takes out what is open and of which take says so: the tickets.
func (p *plain) remove(take func(w waiting) bool) []int {
	var tickets []int
	var rest []waiting
	for _, w := range p.open {
		if take(w) {
			tickets = append(tickets, w.asked.Ticket)
		} else {
			rest = append(rest, w)
		}
	}
	p.open = rest
	return tickets
}

func (p *plain) feed(conn int, b []byte) []int {
	at := slices.IndexFunc(p.lines, func(l *line) bool { return l.conn == conn })
	if at < 0 {
		return nil
	}
	l := p.lines[at]
	l.came = append(l.came, b...)
	frames := prefix.New().Feed(l.came)
	var tickets []int
	for _, body := range frames[l.told:] {
		m, e := wire.Decode(body)
		if e != api.OK || !m.Response || len(m.Questions) != 1 {
			continue
		}
		q := m.Questions[0]
		tickets = append(tickets, p.remove(func(w waiting) bool {
			o := w.asked.Question
			return w.asked.Conn == conn && w.asked.ID == m.ID && name.Same(o.Name, q.Name) && o.Type == q.Type && o.Class == q.Class
		})...)
	}
	l.told = len(frames)
	return tickets
}

func (p *plain) ended(conn int) []int {
	at := slices.IndexFunc(p.lines, func(l *line) bool { return l.conn == conn })
	if at < 0 {
		return nil
	}
	p.lines = slices.Delete(p.lines, at, at+1)
	return p.remove(func(w waiting) bool { return w.asked.Conn == conn })
}

func (p *plain) tick(now int) []int {
	return p.remove(func(w waiting) bool { return now-w.sent >= api.Timeout })
}

// drawnQuestion is often one of few, seldom one that can't be.
func drawnQuestion(r *rand.Rand) api.Question {
	q := []api.Question{a, b, upper}[r.IntN(3)]
	switch r.IntN(20) {
	case 0:
		q.Name = "\x00"
	case 1:
		q.Type = []int{0, 2, 65535, 65536, -1}[r.IntN(5)]
	case 2:
		q.Class = []int{0, 2, 65535, 65536, -1}[r.IntN(5)]
	case 3:
		q.Name = "\x01"
	}
	return q
}

// drawnBytes is what may come on a connection: often a reply to what is open there, seldom one to something else, or none.
func drawnBytes(r *rand.Rand, p *plain, conn int) string {
	var here []api.Asked
	for _, w := range p.open {
		if w.asked.Conn == conn || r.IntN(10) == 0 {
			here = append(here, w.asked)
		}
	}
	if len(here) == 0 || r.IntN(8) == 0 {
		return []string{replied(r.IntN(4), a), replied(65535-r.IntN(4), b), framed(""), framed("?"), framed("no message of any kind")}[r.IntN(5)]
	}
	o := here[r.IntN(len(here))]
	switch r.IntN(12) {
	case 0:
		return told(o.ID, query, o.Question)
	case 1:
		return told(o.ID, response, o.Question, o.Question)
	case 2:
		return replied(o.ID+1, o.Question)
	case 3:
		return replied(o.ID, drawnQuestion(r))
	case 4:
		return replied(o.ID, o.Question) + replied(o.ID, o.Question)
	}
	if o.Question.Name == a.Name && r.IntN(2) == 0 {
		o.Question.Name = upper.Name
	}
	return replied(o.ID, o.Question)
}

// world is a pool and a second one, with the bytes that are still to come on each connection.
type world struct {
	t    *testing.T
	r    *rand.Rand
	pool *pool.Pool
	net  *net.Net
	p    *plain
	come map[int]string
	now  int
	// answered has the tickets that are open no more, and what became of them.
	answered map[int]string
}

// gone notes that tickets are open no more: each once.
func (w *world) gone(what string, tickets ...int) {
	for _, n := range tickets {
		if n < 1 || n > w.p.last || w.answered[n] != "" {
			w.t.Fatalf("ticket %d: %q behind %q", n, what, w.answered[n])
		}
		w.answered[n] = what
	}
}

// same compares the tickets that both pools answer.
func (w *world) same(what string, got, want []int) {
	w.t.Helper()
	if !slices.Equal(got, want) {
		w.t.Fatalf("%s: %v, not %v", what, got, want)
	}
	w.gone(what, got...)
}

// drawnAddr is often one of few addresses, seldom one that can't be.
func drawnAddr(r *rand.Rand) int {
	if r.IntN(20) == 0 {
		return []int{-1, greatest, greatest + 1}[r.IntN(3)]
	}
	return r.IntN(3)
}

// step makes a drawn call of both pools, and compares what they answer.
func (w *world) step() {
	w.t.Helper()
	r := w.r
	conn := r.IntN(w.p.dialed+3) - 1
	switch kind := r.IntN(40); {
	case kind < 18:
		addr, q := drawnAddr(r), drawnQuestion(r)
		draw := []int{0, 65533, 65535, -1, int(r.Uint64())}[r.IntN(5)] + r.IntN(3)
		got, e := w.pool.Ask(addr, q, draw, w.now)
		want, we := w.p.ask(addr, q, draw, w.now)
		if got != want || e != we {
			w.t.Fatalf("Ask(%d, %v, %d, %d) is %v, %d, not %v, %d", addr, q, draw, w.now, got, e, want, we)
		}
		if e == api.OK {
			takes(w.t, w.net, got.Conn, told(got.ID, query, q))
		}
	case kind < 36:
		w.come[conn] += drawnBytes(r, w.p, conn)
		size := r.IntN(len(w.come[conn]) + 1)
		b := []byte(w.come[conn][:size])
		w.come[conn] = w.come[conn][size:]
		var got []int
		for _, reply := range w.pool.Feed(conn, b, w.now) {
			got = append(got, reply.Ticket)
		}
		w.same("Feed", got, w.p.feed(conn, b))
	case kind == 36:
		w.same("Ended", w.pool.Ended(conn), w.p.ended(conn))
	default:
		w.now += r.IntN(7) - 1
		w.same("Tick", w.pool.Tick(w.now), w.p.tick(w.now))
	}
}

// bounds asks that what is open stays within the limits, and no ID is open twice on a connection.
func (w *world) bounds() {
	w.t.Helper()
	type place struct{ conn, id int }
	ids, open, conns := map[place]int{}, map[int]int{}, map[int]int{}
	last := 0
	for _, a := range w.pool.Open() {
		if ids[place{a.Conn, a.ID}]++; ids[place{a.Conn, a.ID}] > 1 {
			w.t.Fatalf("ID %d is open twice on connection %d", a.ID, a.Conn)
		}
		if open[a.Conn]++; open[a.Conn] > 4 {
			w.t.Fatalf("connection %d has %d questions", a.Conn, open[a.Conn])
		}
		if open[a.Conn] == 1 {
			conns[a.Addr]++
		}
		if conns[a.Addr] > 2 || a.Ticket <= last || w.answered[a.Ticket] != "" {
			w.t.Fatalf("open is %v", w.pool.Open())
		}
		last = a.Ticket
	}
}

// P17.1 to P17.6: drawn calls, held against the second pool.
func TestDrawn(t *testing.T) {
	r := rand.New(rand.NewPCG(17, 1))
	became := map[string]int{}
	for range 400 {
		w := &world{t: t, r: r, p: &plain{}, come: map[int]string{}, answered: map[int]string{}}
		w.net, w.pool = opened(t)
		for range 200 {
			w.step()
			w.bounds()
			var want []api.Asked
			for _, o := range w.p.open {
				want = append(want, o.asked)
			}
			opens(t, w.pool, want...)
			if t.Failed() {
				t.FailNow()
			}
		}
		if got := w.net.Conns(); len(got) != w.p.dialed {
			t.Fatalf("the net has %v, of %d", got, w.p.dialed)
		}
		for _, what := range w.answered {
			became[what]++
		}
	}
	for _, what := range []string{"Feed", "Ended", "Tick"} {
		if became[what] < 300 {
			t.Errorf("of %d tickets alone was heard by %s", became[what], what)
		}
	}
}

// P17.3: how bytes are cut into feeds plays no part, at each two places.
func TestCuts(t *testing.T) {
	s := replied(11, b) + framed("?") + replied(10, a) + replied(10, a) + told(12, query, a) + replied(12, a)
	for i := range len(s) + 1 {
		for j := i; j <= len(s); j += 3 {
			_, p := opened(t)
			for k, q := range []api.Question{a, b, a} {
				p.Ask(5, q, 10+k, 0)
			}
			var got []int
			for _, part := range []string{s[:i], s[i:j], s[j:]} {
				for _, r := range p.Feed(1, []byte(part), 0) {
					got = append(got, r.Ticket)
				}
			}
			if !slices.Equal(got, []int{2, 1, 3}) {
				t.Fatalf("cut at %d and %d: %v", i, j, got)
			}
		}
	}
}
