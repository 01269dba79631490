package pool_test

import (
	"math"
	"slices"
	"strings"
	"testing"

	"cicerone/api"
	"cicerone/net"
	"cicerone/pool"
)

// The chapter's example: four of five questions to one address go on the first connection, the fifth on a second one.
func TestExample(t *testing.T) {
	n, p := opened(t)
	for i := range 4 {
		asks(t, p, 5, a, i, 0, [3]int{i + 1, 1, i})
	}
	asks(t, p, 5, a, 4, 0, [3]int{5, 2, 4})
	if got := n.Conns(); !slices.Equal(got, []int{1, 2}) {
		t.Errorf("the net has %v", got)
	}
}

// P17.1: a pool is on a net that a call made.
func TestNew(t *testing.T) {
	emptied := net.New()
	emptied.Dial(5)
	*emptied = net.Net{}
	for _, n := range []*net.Net{nil, {}, new(net.Net), emptied} {
		if p, e := pool.New(n); p != nil || e != api.ErrNil {
			t.Errorf("New is %v, %d", p, e)
		}
	}
}

// P17.1: a new pool has no connections, those that the net has neither; and it changes nothing of the net.
func TestNewNet(t *testing.T) {
	n := net.New()
	n.Dial(5)
	n.Dial(6)
	n.Write(1, []byte("ab"))
	p, e := pool.New(n)
	if p == nil || e != api.OK {
		t.Fatalf("New is %v, %d", p, e)
	}
	opens(t, p)
	if got := n.Conns(); !slices.Equal(got, []int{1, 2}) {
		t.Errorf("the net has %v", got)
	}
	takes(t, n, 1, "ab")
	ends(t, p, 1)
	asks(t, p, 5, a, 9, 0, [3]int{1, 3, 9})
	asks(t, p, 6, a, 9, 0, [3]int{2, 4, 9})
	feeds(t, p, 1, replied(9, a))
	feeds(t, p, 3, replied(9, a), 1)
	takes(t, n, 1, "")
	takes(t, n, 2, "")
}

// P17.2: what is written is a frame of the question, with its ID, and nothing else.
func TestAskWritten(t *testing.T) {
	long := strings.Repeat("\x01x", 127) + "\x00"
	label := "\x3f" + strings.Repeat("y", 63) + "\x00"
	n, p := opened(t)
	for i, q := range []api.Question{
		a, upper, {Name: "\x00", Type: api.TypeNS, Class: api.ClassIN}, {Name: "\x00"},
		{Name: long, Type: 65535, Class: 65535}, {Name: label, Type: 256, Class: 255},
		{Name: "\x02\x00\xff\x00", Type: 1, Class: 258}, a,
	} {
		conn := 1 + i/4
		asks(t, p, 5, q, i*8191, 0, [3]int{i + 1, conn, i * 8191})
		takes(t, n, conn, told(i*8191, query, q))
	}
	if len(long) != 255 || len(told(1, query, api.Question{Name: long})) != 2+12+255+4 {
		t.Errorf("a long name has %d bytes", len(long))
	}
}

// P17.2: questions stand one behind the other, on the connections on which they are open.
func TestAskOrder(t *testing.T) {
	n, p := opened(t)
	want := [3]string{}
	for i := range 16 {
		addr, q := 5+i%2, []api.Question{a, b, upper}[i%3]
		got, e := p.Ask(addr, q, i*7, 0)
		if e != api.OK || got.Conn < 1 || got.Conn > 4 {
			t.Fatalf("ask %d is %v, %d", i, got, e)
		}
		if got.Conn < 4 {
			want[got.Conn-1] += told(got.ID, query, q)
		}
	}
	for i, s := range want {
		takes(t, n, i+1, s)
	}
}

// wrong are questions that can't be encoded.
func wrong() []api.Question {
	l := []api.Question{
		{}, {Type: 1, Class: 1}, {Name: "a", Type: 1, Class: 1}, {Name: "a.net.", Type: 1, Class: 1},
		{Name: "\x01a", Type: 1, Class: 1}, {Name: "\x01a\x00\x00", Type: 1, Class: 1},
		{Name: "\x40" + strings.Repeat("a", 64) + "\x00", Type: 1, Class: 1},
		{Name: "\x02aa" + strings.Repeat("\x01x", 126) + "\x00", Type: 1, Class: 1},
		{Name: "\xc0\x0c", Type: 1, Class: 1},
	}
	for _, number := range []int{-1, 65536, math.MinInt, math.MaxInt, 1 << 32, 1<<32 + 1} {
		l = append(l, api.Question{Name: a.Name, Type: number, Class: 1}, api.Question{Name: a.Name, Type: 1, Class: number})
	}
	return l
}

// P17.2: a question that can't be encoded is refused ahead of all else, and changes nothing.
func TestAskEncode(t *testing.T) {
	n, p := opened(t)
	for _, q := range wrong() {
		refuses(t, n, p, 5, q, api.ErrArg)
		refuses(t, n, p, -1, q, api.ErrArg)
	}
	for i := range 8 {
		asks(t, p, 5, a, 0, 0, [3]int{i + 1, 1 + i/4, i % 4})
		for _, q := range wrong() {
			refuses(t, n, p, 5, q, api.ErrArg)
		}
	}
	refuses(t, n, p, 5, a, api.ErrBusy)
	n.Drop(1)
	n.Drop(2)
	ends(t, p, 1, 1, 2, 3, 4)
	asks(t, p, 5, a, 0, 0, [3]int{9, 3, 0})
	n.Drop(3)
	for _, q := range wrong() {
		refuses(t, n, p, 5, q, api.ErrArg)
	}
	refuses(t, n, p, 5, a, api.ErrConn)
}

// P17.2, P17.5: connections fill up to MaxOpen, addresses to MaxConns, and then there is none free.
func TestFill(t *testing.T) {
	n, p := opened(t)
	ticket := 0
	for i, addr := range []int{5, 0, greatest} {
		for j := range api.MaxConns * api.MaxOpen {
			ticket++
			asks(t, p, addr, a, 0, 0, [3]int{ticket, 1 + 2*i + j/4, j % 4})
		}
		for range 3 {
			refuses(t, n, p, addr, a, api.ErrBusy)
			refuses(t, n, p, addr, b, api.ErrBusy)
		}
	}
	if got := n.Conns(); !slices.Equal(got, []int{1, 2, 3, 4, 5, 6}) {
		t.Errorf("the net has %v", got)
	}
	for i := range 6 {
		want := ""
		for id := range 4 {
			want += told(id, query, a)
		}
		takes(t, n, i+1, want)
	}
	// A place that gets free is taken again, and no other one.
	feeds(t, p, 4, replied(2, a), 15)
	refuses(t, n, p, 5, a, api.ErrBusy)
	asks(t, p, 0, b, 0, 0, [3]int{25, 4, 2})
	refuses(t, n, p, 0, a, api.ErrBusy)
	ends(t, p, 6, 21, 22, 23, 24)
	asks(t, p, greatest, b, 0, 0, [3]int{26, 7, 0})
}

// P17.2: of an address's connections that with the fewest open questions is asked, of several the least number; a new one comes only where all are full.
func TestFewest(t *testing.T) {
	_, p := opened(t)
	asks(t, p, 5, a, 0, 0, [3]int{1, 1, 0})
	feeds(t, p, 1, replied(0, a), 1)
	for i := range 4 {
		asks(t, p, 5, a, i, 0, [3]int{2 + i, 1, i})
	}
	asks(t, p, 5, a, 0, 0, [3]int{6, 2, 0})
	asks(t, p, 5, a, 1, 0, [3]int{7, 2, 1})
	feeds(t, p, 1, replied(0, a)+replied(3, a), 2, 5)
	asks(t, p, 5, a, 9, 0, [3]int{8, 1, 9})
	asks(t, p, 5, a, 9, 0, [3]int{9, 2, 9})
	asks(t, p, 5, a, 8, 0, [3]int{10, 1, 8})
	asks(t, p, 5, a, 8, 0, [3]int{11, 2, 8})
	feeds(t, p, 1, replied(1, a), 3)
	feeds(t, p, 2, replied(0, a)+replied(1, a), 6, 7)
	asks(t, p, 5, a, 7, 0, [3]int{12, 2, 7})
	asks(t, p, 5, a, 7, 0, [3]int{13, 1, 7})
	asks(t, p, 5, a, 6, 0, [3]int{14, 2, 6})
	if _, e := p.Ask(5, a, 0, 0); e != api.ErrBusy {
		t.Errorf("a full address: %d", e)
	}
	feeds(t, p, 1, replied(9, a)+replied(8, a)+replied(7, a)+replied(2, a), 8, 10, 13, 4)
	feeds(t, p, 2, replied(9, a)+replied(8, a)+replied(7, a)+replied(6, a), 9, 11, 12, 14)
	asks(t, p, 5, a, 0, 0, [3]int{15, 1, 0})
	asks(t, p, 5, a, 0, 0, [3]int{16, 2, 0})
	asks(t, p, 5, a, 1, 0, [3]int{17, 1, 1})
}

// P17.2: an end in between: the connection that is left has the least number, whichever it is.
func TestFewestEnded(t *testing.T) {
	n, p := opened(t)
	for i := range 5 {
		asks(t, p, 5, a, 0, 0, [3]int{i + 1, 1 + i/4, i % 4})
	}
	ends(t, p, 1, 1, 2, 3, 4)
	for i := range 3 {
		asks(t, p, 5, a, 0, 0, [3]int{6 + i, 2, 1 + i})
	}
	asks(t, p, 5, a, 0, 0, [3]int{9, 3, 0})
	feeds(t, p, 2, replied(0, a)+replied(1, a)+replied(2, a), 5, 6, 7)
	asks(t, p, 5, a, 0, 0, [3]int{10, 2, 0})
	if got := n.Conns(); !slices.Equal(got, []int{1, 2, 3}) {
		t.Errorf("the net has %v", got)
	}
}

// P17.2: Dial's error, which changes nothing.
func TestAskAddress(t *testing.T) {
	n, p := opened(t)
	for _, addr := range []int{-1, greatest + 1, math.MinInt, math.MaxInt, 1<<33 + 5} {
		refuses(t, n, p, addr, a, api.ErrArg)
	}
	asks(t, p, greatest, a, 3, 0, [3]int{1, 1, 3})
	asks(t, p, 0, a, 3, 0, [3]int{2, 2, 3})
	refuses(t, n, p, -1, a, api.ErrArg)
	asks(t, p, 1, a, 3, 0, [3]int{3, 3, 3})
}

// P17.2: Write's error of a connection that the pool still has; nothing but that hangs on it.
func TestAskDropped(t *testing.T) {
	n, p := opened(t)
	asks(t, p, 5, a, 3, 0, [3]int{1, 1, 3})
	n.Drop(1)
	for range 3 {
		refuses(t, n, p, 5, a, api.ErrConn)
	}
	// No ticket and no ID is used up, and other addresses go on.
	asks(t, p, 6, a, 3, 0, [3]int{2, 2, 3})
	feeds(t, p, 1, replied(4, a))
	feeds(t, p, 1, replied(3, a), 1)
	refuses(t, n, p, 5, a, api.ErrConn)
	ends(t, p, 1)
	asks(t, p, 5, a, 3, 0, [3]int{3, 3, 3})
}

// P17.2: the one of two connections that is dropped has the fewest questions.
func TestAskDroppedFewest(t *testing.T) {
	n, p := opened(t)
	for i := range 5 {
		asks(t, p, 5, a, 0, 0, [3]int{i + 1, 1 + i/4, i % 4})
	}
	n.Drop(2)
	refuses(t, n, p, 5, a, api.ErrConn)
	feeds(t, p, 1, replied(0, a)+replied(1, a)+replied(2, a), 1, 2, 3)
	asks(t, p, 5, a, 0, 0, [3]int{6, 1, 0})
	refuses(t, n, p, 5, a, api.ErrConn)
}

// P17.2: a net that is none any more.
func TestAskNetGone(t *testing.T) {
	n, p := opened(t)
	asks(t, p, 5, a, 3, 0, [3]int{1, 1, 3})
	*n = net.Net{}
	refuses(t, n, p, 5, a, api.ErrNil)
	refuses(t, n, p, 6, a, api.ErrNil)
	refuses(t, n, p, -1, a, api.ErrNil)
	refuses(t, n, p, 6, api.Question{}, api.ErrArg)
	feeds(t, p, 1, replied(3, a), 1)
	ends(t, p, 1)
}

// P17.2: an ID is the draw's remainder; a negative draw counts as a number near 2^64.
func TestDraws(t *testing.T) {
	for draw, want := range map[int]int{
		0: 0, 1: 1, 65534: 65534, 65535: 65535, 65536: 0, 65537: 1, 131071: 65535, 131072: 0,
		1<<31 - 1: 65535, 1 << 31: 0, 1<<32 + 77: 77, 1<<40 + 5: 5,
		math.MaxInt: 65535, math.MaxInt - 1: 65534,
		-1: 65535, -2: 65534, -65535: 1, -65536: 0, -65537: 65535, -131072: 0,
		math.MinInt: 0, math.MinInt + 1: 1, -1 << 31: 0, -1<<40 + 9: 9,
	} {
		n, p := opened(t)
		asks(t, p, 5, a, draw, 0, [3]int{1, 1, want})
		takes(t, n, 1, told(want, query, a))
		feeds(t, p, 1, replied(want, a), 1)
	}
}

// P17.2: IDs that are open on the connection are passed by, several in a row, from 65535 to 0, too.
func TestIDsOpen(t *testing.T) {
	for draw, ids := range map[int][8]int{
		0:           {0, 1, 2, 3, 0, 1, 2, 3},
		7:           {7, 8, 9, 10, 7, 8, 9, 10},
		65533:       {65533, 65534, 65535, 0, 65533, 65534, 65535, 0},
		65534:       {65534, 65535, 0, 1, 65534, 65535, 0, 1},
		65535:       {65535, 0, 1, 2, 65535, 0, 1, 2},
		-1:          {65535, 0, 1, 2, 65535, 0, 1, 2},
		-3:          {65533, 65534, 65535, 0, 65533, 65534, 65535, 0},
		math.MaxInt: {65535, 0, 1, 2, 65535, 0, 1, 2},
		math.MinInt: {0, 1, 2, 3, 0, 1, 2, 3},
	} {
		n, p := opened(t)
		var all [2]string
		for i, id := range ids {
			asks(t, p, 5, a, draw, 0, [3]int{i + 1, 1 + i/4, id})
			all[i/4] += told(id, query, a)
		}
		takes(t, n, 1, all[0])
		takes(t, n, 2, all[1])
	}
}

// P17.2: only what is open on the same connection is passed by: not what was answered, given up, or is open elsewhere.
func TestIDsFree(t *testing.T) {
	_, p := opened(t)
	asks(t, p, 5, a, 4, 0, [3]int{1, 1, 4})
	asks(t, p, 5, b, 3, 0, [3]int{2, 1, 3})
	asks(t, p, 5, b, 3, 0, [3]int{3, 1, 5})
	asks(t, p, 6, b, 3, 0, [3]int{4, 2, 3})
	asks(t, p, 6, b, 3, 0, [3]int{5, 2, 4})
	feeds(t, p, 1, replied(4, a), 1)
	asks(t, p, 5, b, 3, 20, [3]int{6, 1, 4})
	ticks(t, p, 10, 2, 3, 4, 5)
	asks(t, p, 5, a, 4, 20, [3]int{7, 1, 5})
	asks(t, p, 5, a, 3, 20, [3]int{8, 1, 3})
	asks(t, p, 6, a, 4, 20, [3]int{9, 2, 4})
	ends(t, p, 1, 6, 7, 8)
	asks(t, p, 5, a, 4, 20, [3]int{10, 3, 4})
}

// P17.2: tickets rise and are never given again, whatever becomes of them.
func TestTicketsOnce(t *testing.T) {
	_, p := opened(t)
	ticket, conn := 0, 1
	for i := range 40 {
		ticket++
		asks(t, p, 5, a, i, i, [3]int{ticket, conn, i})
		left(t, p, ticket)
		switch i % 3 {
		case 0:
			feeds(t, p, conn, replied(i, a), ticket)
		case 1:
			ends(t, p, conn, ticket)
			conn++
		default:
			ticks(t, p, i+api.Timeout, ticket)
		}
		left(t, p)
	}
}
