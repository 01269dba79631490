package pool_test

import (
	"math"
	"slices"
	"testing"

	"cicerone/api"
	"cicerone/net"
	"cicerone/pool"
	"cicerone/wire"
)

// greatest is the greatest address.
const greatest = 4294967295

// never are numbers that no connection has.
var never = []int{0, -1, -2, math.MinInt, math.MaxInt, 1 << 32, 1<<32 + 1, -1 << 32}

// a and b are questions, upper is a in other letters.
var (
	a     = api.Question{Name: "\x01a\x03net\x00", Type: api.TypeA, Class: api.ClassIN}
	b     = api.Question{Name: "\x01b\x03net\x00", Type: api.TypeA, Class: api.ClassIN}
	upper = api.Question{Name: "\x01A\x03nEt\x00", Type: api.TypeA, Class: api.ClassIN}
)

// The first byte of a message's flags.
const (
	query    = 0x00
	response = 0x80
)

// two is a number in two bytes.
func two(n int) string { return string([]byte{byte(n >> 8), byte(n)}) }

// framed is a frame.
func framed(body string) string { return two(len(body)) + body }

// told is the frame of a message that has questions alone, written by the chapters' words.
func told(id int, flags byte, l ...api.Question) string {
	s := two(id) + string([]byte{flags, 0}) + two(len(l)) + "\x00\x00\x00\x00\x00\x00"
	for _, q := range l {
		s += q.Name + two(q.Type) + two(q.Class)
	}
	return framed(s)
}

// replied is the frame of a reply without anything but the question.
func replied(id int, q api.Question) string { return told(id, response, q) }

// opened is a new pool, on a new net.
func opened(t *testing.T) (*net.Net, *pool.Pool) {
	t.Helper()
	n := net.New()
	p, e := pool.New(n)
	if p == nil || e != api.OK {
		t.Fatalf("New is %v, %d", p, e)
	}
	opens(t, p)
	return n, p
}

// asks asks a question: want is its ticket, connection and ID.
func asks(t *testing.T, p *pool.Pool, addr int, q api.Question, draw, now int, want [3]int) api.Asked {
	t.Helper()
	all := api.Asked{Ticket: want[0], Conn: want[1], ID: want[2], Addr: addr, Question: q}
	if got, e := p.Ask(addr, q, draw, now); got != all || e != api.OK {
		t.Errorf("Ask(%d, %q, %d, %d) is %v, %d, not %v", addr, q.Name, draw, now, got, e, all)
	}
	return all
}

// refuses asks for an error of Ask, which changes nothing.
func refuses(t *testing.T, n *net.Net, p *pool.Pool, addr int, q api.Question, want api.Errno) {
	t.Helper()
	was, conns := p.Open(), n.Conns()
	if got, e := p.Ask(addr, q, 5, 5); got != (api.Asked{}) || e != want {
		t.Errorf("Ask(%d, %.20q) is %v, %d, not %d", addr, q.Name, got, e, want)
	}
	opens(t, p, was...)
	if !slices.Equal(n.Conns(), conns) {
		t.Errorf("Ask(%d, %.20q), which is refused, has made of %v the connections %v", addr, q.Name, conns, n.Conns())
	}
}

// takes asks for what was written on a connection.
func takes(t *testing.T, n *net.Net, conn int, want string) {
	t.Helper()
	if got, e := n.Take(conn); string(got) != want || e != api.OK {
		t.Errorf("on connection %d %q was written, %d, not %q", conn, got, e, want)
	}
}

// feeds asks which tickets bytes answer, in order.
func feeds(t *testing.T, p *pool.Pool, conn int, s string, want ...int) []api.Reply {
	t.Helper()
	l := p.Feed(conn, []byte(s), 7)
	var got []int
	for _, r := range l {
		got = append(got, r.Ticket)
		if !r.Message.Response || len(r.Message.Questions) != 1 {
			t.Errorf("ticket %d is answered by %v", r.Ticket, r.Message)
		}
	}
	if !slices.Equal(got, want) {
		t.Errorf("Feed(%d, %.80q) answers %v, not %v", conn, s, got, want)
	}
	return l
}

// opens asks for all that is open.
func opens(t *testing.T, p *pool.Pool, want ...api.Asked) {
	t.Helper()
	if got := p.Open(); !slices.Equal(got, want) {
		t.Errorf("Open is %v, not %v", got, want)
	}
}

// left asks for the tickets of all that is open.
func left(t *testing.T, p *pool.Pool, want ...int) {
	t.Helper()
	var got []int
	for _, o := range p.Open() {
		got = append(got, o.Ticket)
	}
	if !slices.Equal(got, want) {
		t.Errorf("open are %v, not %v", got, want)
	}
}

// ends asks which tickets a connection's end takes.
func ends(t *testing.T, p *pool.Pool, conn int, want ...int) {
	t.Helper()
	if got := p.Ended(conn); !slices.Equal(got, want) {
		t.Errorf("Ended(%d) is %v, not %v", conn, got, want)
	}
}

// ticks asks which tickets are given up.
func ticks(t *testing.T, p *pool.Pool, now int, want ...int) {
	t.Helper()
	if got := p.Tick(now); !slices.Equal(got, want) {
		t.Errorf("Tick(%d) is %v, not %v", now, got, want)
	}
}

// written is a message's frame.
func written(t *testing.T, m api.Message) string {
	t.Helper()
	body, e := wire.Encode(m)
	if e != api.OK {
		t.Fatalf("%v can't be written: %d", m, e)
	}
	return framed(string(body))
}
