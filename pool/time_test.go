package pool_test

import (
	"math"
	"slices"
	"strings"
	"testing"
	"unsafe"

	"cicerone/api"
	"cicerone/pool"
)

// P17.4: a connection's end takes what was open there, and nothing else.
func TestEnded(t *testing.T) {
	n, p := opened(t)
	for i := range 6 {
		asks(t, p, 5, a, 10, 0, [3]int{i + 1, 1 + i/4, 10 + i%4})
	}
	other := asks(t, p, 6, a, 10, 0, [3]int{7, 3, 10})
	feeds(t, p, 1, replied(11, a), 2)
	feeds(t, p, 1, replied(10, a)[:20])
	ends(t, p, 1, 1, 3, 4)
	ends(t, p, 1)
	left(t, p, 5, 6, 7)
	feeds(t, p, 1, replied(10, a)[20:])
	feeds(t, p, 1, replied(12, a))
	ends(t, p, 2, 5, 6)
	opens(t, p, other)
	// The net's connections are not the pool's to drop.
	if got := n.Conns(); !slices.Equal(got, []int{1, 2, 3}) {
		t.Errorf("the net has %v", got)
	}
	for i := range 8 {
		asks(t, p, 5, a, 10, 0, [3]int{8 + i, 4 + i/4, 10 + i%4})
	}
	refuses(t, n, p, 5, a, api.ErrBusy)
	ends(t, p, 1)
	ends(t, p, 2)
	refuses(t, n, p, 5, a, api.ErrBusy)
	feeds(t, p, 4, replied(10, a), 8)
}

// P17.4: an end of a connection that is none of the pool's, or on which nothing is open.
func TestEndedNone(t *testing.T) {
	n, p := opened(t)
	n.Dial(5)
	for _, conn := range append(never, 1, 2) {
		ends(t, p, conn)
	}
	asks(t, p, 5, a, 10, 0, [3]int{1, 2, 10})
	for _, conn := range append(never, 1, 3) {
		ends(t, p, conn)
	}
	left(t, p, 1)
	feeds(t, p, 2, replied(10, a), 1)
	ends(t, p, 2)
	feeds(t, p, 2, replied(10, a))
	asks(t, p, 5, a, 10, 0, [3]int{2, 3, 10})
}

// P17.4: what a connection had read is gone with it, also for the one behind it.
func TestEndedHalf(t *testing.T) {
	_, p := opened(t)
	asks(t, p, 5, a, 10, 0, [3]int{1, 1, 10})
	s := replied(10, a)
	feeds(t, p, 1, s[:15])
	ends(t, p, 1, 1)
	asks(t, p, 5, a, 10, 0, [3]int{2, 2, 10})
	feeds(t, p, 2, s, 2)
}

// P17.4: one tick short of Timeout, at it, behind it.
func TestTick(t *testing.T) {
	for _, sent := range []int{0, 1, 100, -5, -10, -11, 1 << 40, math.MaxInt - 10, math.MinInt} {
		for _, ago := range []int{10, 11, 12} {
			_, p := opened(t)
			asks(t, p, 5, a, 10, sent, [3]int{1, 1, 10})
			for short := range 10 {
				ticks(t, p, sent+short)
				left(t, p, 1)
			}
			if sent+ago < sent {
				continue
			}
			ticks(t, p, sent+ago, 1)
			left(t, p)
			ticks(t, p, sent+ago)
		}
	}
}

// P17.4: times far apart, and a now ahead of when they were sent.
func TestTickFar(t *testing.T) {
	times := []int{math.MinInt, math.MinInt + 9, math.MinInt + 10, -1 << 40, -10, -1, 0, 9, 10, 1 << 40, math.MaxInt - 10, math.MaxInt - 9, math.MaxInt}
	for i, sent := range times {
		for j, now := range times {
			_, p := opened(t)
			asks(t, p, 5, a, 10, sent, [3]int{1, 1, 10})
			var want []int
			// The times rise, and only those with differences of 9 and 1 are less than Timeout apart.
			if j > i && now-sent != 9 && now-sent != 1 {
				want = []int{1}
			}
			ticks(t, p, now, want...)
		}
	}
}

// P17.4: tickets of several connections, sent at several times, rising.
func TestTickSeveral(t *testing.T) {
	_, p := opened(t)
	for i := range 24 {
		got, e := p.Ask(i%3, a, i, i*5%24)
		if got.Ticket != i+1 || e != api.OK {
			t.Fatalf("ask %d is %v, %d", i, got, e)
		}
	}
	var all []int
	for i := range 24 {
		all = append(all, i+1)
	}
	for now := -3; now < 40; now++ {
		var want, rest []int
		for _, ticket := range all {
			if sent := (ticket - 1) * 5 % 24; now-sent >= 10 {
				want = append(want, ticket)
			} else {
				rest = append(rest, ticket)
			}
		}
		ticks(t, p, now, want...)
		left(t, p, rest...)
		all = rest
	}
}

// P17.4: many at once, in the order of their tickets and not of their connections.
func TestTickRising(t *testing.T) {
	const many = 400
	_, p := opened(t)
	var want []int
	for i := range many {
		got, e := p.Ask(i*37%100, a, i, 0)
		if got.Ticket != i+1 || e != api.OK {
			t.Fatalf("ask %d is %v, %d", i, got, e)
		}
		want = append(want, i+1)
	}
	left(t, p, want...)
	ticks(t, p, 10, want...)
	left(t, p)
}

// P17.4: what is given up is open no more: its reply is let go, and its place is free.
func TestTickFree(t *testing.T) {
	n, p := opened(t)
	for i := range 8 {
		asks(t, p, 5, a, 10, i, [3]int{i + 1, 1 + i/4, 10 + i%4})
	}
	refuses(t, n, p, 5, a, api.ErrBusy)
	ticks(t, p, 11, 1, 2)
	feeds(t, p, 1, replied(10, a)+replied(11, a)+replied(12, a), 3)
	asks(t, p, 5, b, 10, 11, [3]int{9, 1, 10})
	feeds(t, p, 1, replied(10, a))
	ends(t, p, 1, 4, 9)
	ticks(t, p, 100, 5, 6, 7, 8)
	if got := n.Conns(); !slices.Equal(got, []int{1, 2}) {
		t.Errorf("the net has %v", got)
	}
	asks(t, p, 5, a, 10, 0, [3]int{10, 2, 10})
}

// P17.4: Open tells all that is open, by tickets, as it was asked.
func TestOpen(t *testing.T) {
	_, p := opened(t)
	var want []api.Asked
	for i, q := range []api.Question{upper, b, a, a, upper, b} {
		addr := []int{9, 5, 7}[i%3]
		want = append(want, asks(t, p, addr, q, i, i, [3]int{i + 1, 1 + i%3, i}))
		opens(t, p, want...)
	}
	feeds(t, p, 2, replied(1, b), 2)
	opens(t, p, want[0], want[2], want[3], want[4], want[5])
	ticks(t, p, 12, 1, 3)
	opens(t, p, want[3], want[4], want[5])
	ends(t, p, 1, 4)
	opens(t, p, want[4], want[5])
	opens(t, p, want[4], want[5])
}

// Objects: a nil pool, and one that no call made.
func TestNoPool(t *testing.T) {
	_, made := opened(t)
	asks(t, made, 5, a, 10, 0, [3]int{1, 1, 10})
	*made = pool.Pool{}
	for _, p := range []*pool.Pool{nil, {}, new(pool.Pool), made} {
		for _, addr := range []int{5, 0, -1, greatest + 1} {
			for _, q := range append(wrong(), a) {
				if got, e := p.Ask(addr, q, 0, 0); got != (api.Asked{}) || e != api.ErrNil {
					t.Errorf("Ask is %v, %d", got, e)
				}
			}
		}
		for _, conn := range append(never, 1) {
			feeds(t, p, conn, "")
			feeds(t, p, conn, replied(10, a))
			ends(t, p, conn)
		}
		for _, now := range []int{0, 1000, math.MaxInt, math.MinInt} {
			ticks(t, p, now)
		}
		opens(t, p)
	}
}

// Wrong inputs: nil and empty bytes.
func TestFeedNothing(t *testing.T) {
	_, p := opened(t)
	o := asks(t, p, 5, a, 10, 0, [3]int{1, 1, 10})
	for _, b := range [][]byte{nil, {}, make([]byte, 0, 9), []byte("room")[:0]} {
		if l := p.Feed(1, b, 0); len(l) != 0 {
			t.Errorf("Feed of nothing is %v", l)
		}
	}
	opens(t, p, o)
	feeds(t, p, 1, replied(10, a), 1)
}

// From arguments alone: pools know nothing of one another, on one net neither.
func TestTwoPools(t *testing.T) {
	n, p := opened(t)
	other, e := pool.New(n)
	if e != api.OK {
		t.Fatal(e)
	}
	_, alone := opened(t)
	asks(t, p, 5, a, 10, 0, [3]int{1, 1, 10})
	asks(t, other, 5, a, 10, 0, [3]int{1, 2, 10})
	asks(t, alone, 5, a, 10, 0, [3]int{1, 1, 10})
	asks(t, other, 5, a, 10, 0, [3]int{2, 2, 11})
	feeds(t, other, 1, replied(10, a))
	feeds(t, p, 2, replied(10, a))
	ends(t, p, 2)
	ticks(t, p, 10, 1)
	left(t, other, 1, 2)
	left(t, alone, 1)
	feeds(t, alone, 1, replied(10, a), 1)
	feeds(t, other, 2, replied(11, a)+replied(10, a), 2, 1)
	if got := n.Conns(); !slices.Equal(got, []int{1, 2}) {
		t.Errorf("the net has %v", got)
	}
}

// Memory: lists that were answered share nothing with the pool, or with one another.
func TestListsMemory(t *testing.T) {
	_, p := opened(t)
	var want []api.Asked
	for i := range 8 {
		want = append(want, asks(t, p, 5, a, 10, i/4, [3]int{i + 1, 1 + i/4, 10 + i%4}))
	}
	x, y := p.Open(), p.Open()
	clear(x[:cap(x)])
	opens(t, p, want...)
	if !slices.Equal(y, want) {
		t.Errorf("with a list another one has become %v", y)
	}
	late := p.Tick(10)
	clear(late[:cap(late)])
	left(t, p, 5, 6, 7, 8)
	last := p.Ended(2)
	clear(last[:cap(last)])
	opens(t, p)
	if !slices.Equal(y, want) {
		t.Errorf("with the pool a list has become %v", y)
	}
}

// Memory: a name that was handed in is not kept, one that was answered shares nothing with the pool.
func TestNameMemory(t *testing.T) {
	_, p := opened(t)
	room := []byte(a.Name)
	q := api.Question{Name: unsafe.String(&room[0], len(room)), Type: a.Type, Class: a.Class}
	asked, e := p.Ask(5, q, 10, 0)
	copy(room, "\x01z")
	want := api.Asked{Ticket: 1, Conn: 1, ID: 10, Addr: 5, Question: a}
	if asked != want || e != api.OK {
		t.Errorf("behind a change of the name Ask is %v, %d", asked, e)
	}
	opens(t, p, want)
	l := p.Open()
	spoil(asked.Question.Name)
	opens(t, p, want)
	spoil(l[0].Question.Name)
	opens(t, p, want)
	feeds(t, p, 1, replied(10, q))
	feeds(t, p, 1, replied(10, a), 1)
}

// spoil changes a text's bytes, which nobody but a test does.
func spoil(s string) {
	b := unsafe.Slice(unsafe.StringData(s), len(s))
	for i := range b {
		b[i] ^= 0x55
	}
}

// Ends: many addresses, connections and questions.
func TestMany(t *testing.T) {
	const many = 30000
	n, p := opened(t)
	for i := range 5 * many {
		if got, e := p.Ask(i%many, a, 0, 0); got.Ticket != i+1 || e != api.OK {
			t.Fatalf("ask %d is %v, %d", i, got, e)
		}
	}
	if l := p.Open(); len(l) != 5*many || len(n.Conns()) != 2*many {
		t.Errorf("%d are open, on %d connections", len(l), len(n.Conns()))
	}
	for conn := 1; conn <= many; conn++ {
		if l := p.Feed(conn, []byte(replied(3, a)+replied(0, a)), 0); len(l) != 2 {
			t.Fatalf("connection %d has the replies %v", conn, l)
		}
		if l := p.Ended(many + conn); len(l) != 1 {
			t.Fatalf("connection %d ended with %v", many+conn, l)
		}
	}
	if l := p.Tick(10); len(l) != 2*many || !slices.IsSorted(l) {
		t.Errorf("%d are given up", len(l))
	}
	opens(t, p)
}

// Ends: a stream of bytes that hold many frames.
func TestManyFrames(t *testing.T) {
	_, p := opened(t)
	asks(t, p, 5, a, 10, 0, [3]int{1, 1, 10})
	s := strings.Repeat(replied(11, a)+framed(""), 50000)
	feeds(t, p, 1, s+replied(10, a)+s, 1)
}
