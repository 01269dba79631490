package net_test

import (
	"math/rand/v2"
	"slices"
	"strings"
	"testing"

	"cicerone/api"
	"cicerone/net"
)

// line is a connection of the second net.
type line struct {
	addr    int
	there   bool
	waiting string
}

// plain is a second net, by the chapter's words: all connections that ever were, number 1 first.
type plain struct{ lines []line }

// find is the connection of a number, nil if it is not there.
func (p *plain) find(conn int) *line {
	if conn < 1 || conn > len(p.lines) || !p.lines[conn-1].there {
		return nil
	}
	return &p.lines[conn-1]
}

func (p *plain) dial(addr int) (int, api.Errno) {
	if addr < 0 || addr > greatest {
		return 0, api.ErrArg
	}
	p.lines = append(p.lines, line{addr: addr, there: true})
	return len(p.lines), api.OK
}

func (p *plain) write(conn int, text string) api.Errno {
	l := p.find(conn)
	if l == nil {
		return api.ErrConn
	}
	l.waiting += text
	return api.OK
}

func (p *plain) drop(conn int) api.Errno {
	l := p.find(conn)
	if l == nil {
		return api.ErrConn
	}
	l.there = false
	return api.OK
}

func (p *plain) take(conn int) (string, api.Errno) {
	l := p.find(conn)
	if l == nil {
		return "", api.ErrConn
	}
	text := l.waiting
	l.waiting = ""
	return text, api.OK
}

// all is the connections that are there, with their addresses.
func (p *plain) all() [][2]int {
	var l [][2]int
	for i, c := range p.lines {
		if c.there {
			l = append(l, [2]int{i + 1, c.addr})
		}
	}
	return l
}

// step makes a drawn call of both nets, and compares what they answer.
func step(t *testing.T, r *rand.Rand, n *net.Net, p *plain) {
	t.Helper()
	conn := r.IntN(len(p.lines)+3) - 1
	switch kind := r.IntN(10); {
	case kind == 0:
		addr := []int{r.IntN(4), r.IntN(greatest + 1), greatest + r.IntN(2), -1}[r.IntN(4)]
		got, e := n.Dial(addr)
		if want, we := p.dial(addr); got != want || e != we {
			t.Fatalf("Dial(%d) is %d, %d, not %d, %d", addr, got, e, want, we)
		}
	case kind == 1 && r.IntN(2) == 0:
		if e, we := n.Drop(conn), p.drop(conn); e != we {
			t.Fatalf("Drop(%d) is %d, not %d", conn, e, we)
		}
	case kind < 7:
		text := of(r.IntN(1 << r.IntN(9)))
		if e, we := n.Write(conn, []byte(text)), p.write(conn, text); e != we {
			t.Fatalf("Write(%d) is %d, not %d", conn, e, we)
		}
	default:
		got, e := n.Take(conn)
		if want, we := p.take(conn); string(got) != want || e != we {
			t.Fatalf("Take(%d) is %.60q, %d, not %.60q, %d", conn, got, e, want, we)
		}
	}
	has(t, n, p.all()...)
}

// P15.1, P15.2: drawn calls, held against the second net.
func TestDrawn(t *testing.T) {
	r := rand.New(rand.NewPCG(15, 1))
	for range 400 {
		n, p := net.New(), &plain{}
		for range 100 {
			step(t, r, n, p)
		}
		for conn := -1; conn < len(p.lines)+3; conn++ {
			if p.find(conn) == nil {
				lacks(t, n, conn)
			} else {
				takes(t, n, conn, p.find(conn).waiting)
			}
		}
	}
}

// P15.3: what is taken, one behind the other, is what was written, however both are cut.
func TestTakenWritten(t *testing.T) {
	r := rand.New(rand.NewPCG(15, 3))
	for range 200 {
		n := net.New()
		var written, taken [4]strings.Builder
		for conn := range 4 {
			dials(t, n, conn%2, conn+1)
		}
		for range 150 {
			conn := r.IntN(4)
			if r.IntN(4) > 0 {
				text := of(r.IntN(40))
				written[conn].WriteString(text)
				writes(t, n, conn+1, text)
				continue
			}
			b, e := n.Take(conn + 1)
			if e != api.OK {
				t.Fatalf("Take(%d) is %d", conn+1, e)
			}
			taken[conn].Write(b)
		}
		for conn := range 4 {
			b, _ := n.Take(conn + 1)
			taken[conn].Write(b)
			if taken[conn].String() != written[conn].String() {
				t.Fatalf("connection %d: taken was %q, written %q", conn+1, taken[conn].String(), written[conn].String())
			}
		}
	}
}

// Memory: bytes that are written are neither changed nor kept, nor the room behind them.
func TestWriteMemory(t *testing.T) {
	n := net.New()
	dials(t, n, 5, 1)
	dials(t, n, 5, 2)
	for range 3 {
		room := []byte("abcdroom")
		for _, conn := range []int{1, 2} {
			if n.Write(conn, room[:4]); whole(room) != "abcdroom" {
				t.Errorf("a write has made the bytes %q", whole(room))
			}
			writes(t, n, conn, "efgh")
		}
		if string(room) != "abcdroom" {
			t.Errorf("the next write has made the bytes %q", room)
		}
		spoil(room)
		takes(t, n, 1, "abcdefgh")
		takes(t, n, 2, "abcdefgh")
	}
}

// Memory: what was taken shares nothing, its room too, with what is written and taken later, or of another connection.
func TestTakeMemory(t *testing.T) {
	n := net.New()
	dials(t, n, 5, 1)
	dials(t, n, 5, 2)
	var taken [][]byte
	var want []string
	for i := range 30 {
		conn, text := i%2+1, of(20-i%5)
		writes(t, n, conn, text)
		b, _ := n.Take(conn)
		taken, want = append(taken, b), append(want, text)
		writes(t, n, 3-conn, "xy")
		for j, b := range taken {
			if string(b) != want[j] {
				t.Fatalf("behind take %d what take %d answered is %q", i, j, b)
			}
		}
		spoil(b)
		_ = append(b, "over the end"...)
		takes(t, n, 3-conn, "xy")
		spoil(b)
	}
	writes(t, n, 1, "ab")
	for i := range taken {
		spoil(taken[i])
	}
	writes(t, n, 1, "cd")
	takes(t, n, 1, "abcd")
}

// Memory: a list of Conns shares nothing, its room too, with the net or with another list.
func TestConnsMemory(t *testing.T) {
	n := net.New()
	for conn := 1; conn <= 5; conn++ {
		dials(t, n, 7, conn)
	}
	a, b := n.Conns(), n.Conns()
	clear(a[:cap(a)])
	if !slices.Equal(b, []int{1, 2, 3, 4, 5}) {
		t.Errorf("with a list another one has become %v", b)
	}
	has(t, n, [2]int{1, 7}, [2]int{2, 7}, [2]int{3, 7}, [2]int{4, 7}, [2]int{5, 7})
	drops(t, n, 3)
	dials(t, n, 7, 6)
	if !slices.Equal(b, []int{1, 2, 3, 4, 5}) {
		t.Errorf("with the net a list has become %v", b)
	}
}

// Ends: many connections, and many writes.
func TestMany(t *testing.T) {
	const many = 100000
	n := net.New()
	for conn := 1; conn <= many; conn++ {
		dials(t, n, conn%3, conn)
	}
	if l := n.Conns(); len(l) != many || !slices.IsSorted(l) {
		t.Errorf("Conns is %d numbers, rising: %t", len(l), slices.IsSorted(l))
	}
	for range many {
		n.Write(many, []byte("abc"))
	}
	takes(t, n, many, strings.Repeat("abc", many))
	for conn := 1; conn < many; conn++ {
		drops(t, n, conn)
	}
	has(t, n, [2]int{many, many % 3})
}
