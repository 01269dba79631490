package pool_test

import (
	"bytes"
	"slices"
	"strings"
	"testing"

	"cicerone/api"
	"cicerone/wire"
)

// P17.3: replies come in any order, and are told in the order in which they come.
func TestFeedOrder(t *testing.T) {
	orders := [][]int{{1, 2, 3, 4}, {4, 3, 2, 1}, {2, 4, 1, 3}, {3, 1, 4, 2}}
	for _, order := range orders {
		for _, size := range []int{1, 2, 3, 7, 20, 1 << 20} {
			_, p := opened(t)
			for i, q := range []api.Question{a, b, a, b} {
				asks(t, p, 5, q, 10, 0, [3]int{i + 1, 1, 10 + i})
			}
			all := ""
			for _, ticket := range order {
				all += replied(9+ticket, []api.Question{b, a}[ticket%2])
			}
			var got []int
			for part := range slices.Chunk([]byte(all), size) {
				for _, r := range p.Feed(1, part, 0) {
					got = append(got, r.Ticket)
				}
			}
			if !slices.Equal(got, order) {
				t.Errorf("in pieces of %d %v came for %v", size, got, order)
			}
			left(t, p)
		}
	}
}

// P17.3: a frame counts with the byte that makes it whole, and not ahead.
func TestFeedWhole(t *testing.T) {
	_, p := opened(t)
	asks(t, p, 5, a, 10, 0, [3]int{1, 1, 10})
	asks(t, p, 5, b, 10, 0, [3]int{2, 1, 11})
	s := replied(10, a)
	for i := range len(s) - 1 {
		feeds(t, p, 1, s[i:i+1])
		left(t, p, 1, 2)
		feeds(t, p, 1, "")
	}
	feeds(t, p, 1, s[len(s)-1:]+s+replied(11, b)[:5], 1)
	left(t, p, 2)
	feeds(t, p, 1, replied(11, b)[5:], 2)
	left(t, p)
}

// P17.3: the bytes of connections are read apart.
func TestFeedApart(t *testing.T) {
	_, p := opened(t)
	asks(t, p, 5, a, 10, 0, [3]int{1, 1, 10})
	asks(t, p, 6, b, 10, 0, [3]int{2, 2, 10})
	x, y := replied(10, a), replied(10, b)
	for i := range len(x) - 1 {
		feeds(t, p, 1, x[i:i+1])
		feeds(t, p, 2, y[i:i+1])
	}
	feeds(t, p, 2, y[len(y)-1:], 2)
	left(t, p, 1)
	feeds(t, p, 1, x[len(x)-1:], 1)
}

// P17.3: what a message must be to answer; all else is let go, and the question stays open.
func TestFeedOthers(t *testing.T) {
	other := func(change func(q *api.Question)) api.Question {
		q := a
		change(&q)
		return q
	}
	body := replied(10, a)[2:]
	for what, s := range map[string]string{
		"a query":                   told(10, query, a),
		"flags without Response":    told(10, 0x7f, a),
		"no question":               told(10, response),
		"the question twice":        told(10, response, a, a),
		"another one behind":        told(10, response, a, b),
		"another one ahead":         told(10, response, b, a),
		"another name":              replied(10, b),
		"a name above":              replied(10, other(func(q *api.Question) { q.Name = "\x03net\x00" })),
		"the root":                  replied(10, other(func(q *api.Question) { q.Name = "\x00" })),
		"a name below":              replied(10, other(func(q *api.Question) { q.Name = "\x01a" + a.Name })),
		"labels cut elsewhere":      replied(10, other(func(q *api.Question) { q.Name = "\x05a\x03net\x00" })),
		"another Type":              replied(10, other(func(q *api.Question) { q.Type = api.TypeAAAA })),
		"another Type's high byte":  replied(10, other(func(q *api.Question) { q.Type = 257 })),
		"another Class":             replied(10, other(func(q *api.Question) { q.Class = 3 })),
		"Class 0":                   replied(10, other(func(q *api.Question) { q.Class = 0 })),
		"an ID below":               replied(9, a),
		"an ID above":               replied(12, a),
		"an ID's bytes turned":      replied(10<<8, a),
		"an ID that is b's":         replied(11, a),
		"b's with the first ID":     replied(10, b),
		"a frame without bytes":     framed(""),
		"a head cut off":            framed(body[:11]),
		"a head without what comes": framed(body[:12]),
		"a question cut off":        framed(body[:len(body)-1]),
		"a byte behind":             framed(body + "\x00"),
		"bits that must be 0":       framed(body[:3] + "\x70" + body[4:]),
		"a name that points on":     framed(body[:12] + "\xc0\x0c\x00\x01\x00\x01"),
		"no message":                framed("no message at all"),
		"many bytes":                framed(strings.Repeat("\xff", 65535)),
	} {
		_, p := opened(t)
		first := asks(t, p, 5, a, 10, 0, [3]int{1, 1, 10})
		second := asks(t, p, 5, b, 10, 0, [3]int{2, 1, 11})
		feeds(t, p, 1, s)
		opens(t, p, first, second)
		feeds(t, p, 1, s+replied(11, b)+s, 2)
		opens(t, p, first)
		feeds(t, p, 1, s+s+replied(10, a), 1)
		opens(t, p)
		if t.Failed() {
			t.Fatal(what)
		}
	}
}

// P17.3: a name in other case is the same; the question stays as it was asked.
func TestFeedCase(t *testing.T) {
	for _, asked := range []api.Question{a, upper} {
		for _, back := range []api.Question{a, upper, {Name: "\x01A\x03NET\x00", Type: 1, Class: 1}} {
			_, p := opened(t)
			o := asks(t, p, 5, asked, 10, 0, [3]int{1, 1, 10})
			opens(t, p, o)
			l := feeds(t, p, 1, replied(10, back), 1)
			if len(l) == 1 && l[0].Message.Questions[0] != back {
				t.Errorf("the message's question is %v, not %v", l[0].Message.Questions, back)
			}
			opens(t, p)
		}
	}
	// Bytes beside letters have no other case.
	_, p := opened(t)
	asks(t, p, 5, api.Question{Name: "\x02@[\x00", Type: 1, Class: 1}, 0, 0, [3]int{1, 1, 0})
	feeds(t, p, 1, replied(0, api.Question{Name: "\x02`{\x00", Type: 1, Class: 1}))
	left(t, p, 1)
}

// P17.3: questions of the least and the greatest numbers are answered, too.
func TestFeedNumbers(t *testing.T) {
	for _, q := range []api.Question{
		{Name: "\x00"}, {Name: "\x00", Type: 65535, Class: 65535}, {Name: a.Name, Type: 255, Class: 256},
		{Name: strings.Repeat("\x01X", 127) + "\x00", Type: 1, Class: 1},
	} {
		for _, id := range []int{0, 255, 256, 65535} {
			_, p := opened(t)
			asks(t, p, 5, q, id, 0, [3]int{1, 1, id})
			feeds(t, p, 1, replied(id, q), 1)
		}
	}
}

// P17.3: the same question twice on one connection is told apart by the IDs, the same ID on two by the connections.
func TestFeedTwins(t *testing.T) {
	_, p := opened(t)
	for i := range 8 {
		asks(t, p, 5, a, 10, 0, [3]int{i + 1, 1 + i/4, 10 + i%4})
	}
	asks(t, p, 6, a, 10, 0, [3]int{9, 3, 10})
	feeds(t, p, 2, replied(12, a), 7)
	feeds(t, p, 1, replied(11, a), 2)
	feeds(t, p, 3, replied(11, a))
	feeds(t, p, 3, replied(10, a), 9)
	feeds(t, p, 3, replied(10, a))
	feeds(t, p, 2, replied(12, a))
	left(t, p, 1, 3, 4, 5, 6, 8)
	feeds(t, p, 1, replied(10, a)+replied(11, a)+replied(13, a), 1, 4)
	left(t, p, 3, 5, 6, 8)
}

// P17.3, P17.6: of the same reply twice the second one is let go, in one piece, in two, and where the ID is open again for another question.
func TestFeedTwice(t *testing.T) {
	_, p := opened(t)
	asks(t, p, 5, a, 10, 0, [3]int{1, 1, 10})
	feeds(t, p, 1, replied(10, a)+replied(10, a), 1)
	feeds(t, p, 1, replied(10, a))
	asks(t, p, 5, b, 10, 0, [3]int{2, 1, 10})
	feeds(t, p, 1, replied(10, a))
	left(t, p, 2)
	feeds(t, p, 1, replied(10, b), 2)
	// Where it is open for the same question again, it answers that.
	asks(t, p, 5, b, 10, 0, [3]int{3, 1, 10})
	feeds(t, p, 1, replied(10, b)+replied(10, b), 3)
}

// P17.3: the whole message is told, with its sections and flags.
func TestFeedMessage(t *testing.T) {
	m := api.Message{
		Header:     api.Header{ID: 10, Response: true, Opcode: 5, AA: true, TC: true, RD: true, RA: true, Code: api.CodeName},
		Questions:  []api.Question{upper},
		Answers:    []api.RR{{Name: a.Name, Type: api.TypeA, Class: 1, TTL: 1<<32 - 1, Data: []byte{1, 2, 3, 4}}},
		Authority:  []api.RR{{Name: "\x03net\x00", Type: api.TypeNS, Class: 1, TTL: 5, Data: []byte(a.Name)}},
		Additional: []api.RR{{Name: "\x00", Type: api.TypeOPT, Class: 1232}, {Name: b.Name, Type: 99, Class: 3, Data: []byte("any")}},
	}
	for _, change := range []func(m *api.Message){
		func(m *api.Message) {},
		func(m *api.Message) { m.Header = api.Header{ID: 10, Response: true} },
		func(m *api.Message) { m.Answers = nil },
		func(m *api.Message) { m.Answers, m.Authority, m.Additional = nil, nil, nil },
	} {
		x := m
		change(&x)
		_, p := opened(t)
		asks(t, p, 5, a, 10, 0, [3]int{1, 1, 10})
		if l := feeds(t, p, 1, written(t, x), 1); len(l) == 1 && !wire.Same(l[0].Message, x) {
			t.Errorf("the message is %v, not %v", l[0].Message, x)
		}
	}
}

// P17.3: of a connection that is none of the pool's nothing is read, and nothing is kept.
func TestFeedNone(t *testing.T) {
	n, p := opened(t)
	s := replied(10, a)
	n.Dial(9)
	for _, conn := range append(never, 1, 2, 3) {
		feeds(t, p, conn, s[:len(s)/2])
		feeds(t, p, conn, s)
	}
	asks(t, p, 5, a, 10, 0, [3]int{1, 2, 10})
	for _, conn := range append(never, 1, 3) {
		feeds(t, p, conn, s)
	}
	feeds(t, p, 2, s[len(s)/2:]+"\x00")
	left(t, p, 1)
	ends(t, p, 2, 1)
	feeds(t, p, 2, s)
	asks(t, p, 5, a, 10, 0, [3]int{2, 3, 10})
	feeds(t, p, 2, s)
	feeds(t, p, 3, s, 2)
}

// P17.3: a message that was let go does not stand in the way of those behind it, nor does what is half there on another connection.
func TestFeedBehindOthers(t *testing.T) {
	_, p := opened(t)
	asks(t, p, 5, a, 10, 0, [3]int{1, 1, 10})
	asks(t, p, 5, b, 10, 0, [3]int{2, 1, 11})
	feeds(t, p, 1, framed("")+framed("?")+told(10, query, a)+replied(10, a)+framed("")+replied(9, b)+replied(11, b)+"\x00", 1, 2)
	left(t, p)
}

// P17.3: how bytes are cut plays no part, and neither does the time.
func TestFeedNow(t *testing.T) {
	for _, now := range []int{0, 5, 1000, -1000, 1 << 40} {
		_, p := opened(t)
		asks(t, p, 5, a, 10, 100, [3]int{1, 1, 10})
		l := p.Feed(1, []byte(replied(10, a)), now)
		if len(l) != 1 || l[0].Ticket != 1 {
			t.Errorf("at %d the replies are %v", now, l)
		}
	}
}

// Memory: bytes that are fed are neither changed nor kept, nor the room behind them.
func TestFeedMemory(t *testing.T) {
	for _, size := range []int{1, 2, 3, 10, 30, 1 << 20} {
		_, p := opened(t)
		asks(t, p, 5, a, 10, 0, [3]int{1, 1, 10})
		asks(t, p, 5, b, 10, 0, [3]int{2, 1, 11})
		var l []api.Reply
		for part := range slices.Chunk([]byte(replied(10, a)+replied(11, b)), size) {
			room := append(slices.Clone(part), "room behind it"...)
			was := bytes.Clone(room)
			l = append(l, p.Feed(1, room[:len(part)], 0)...)
			if !bytes.Equal(room, was) {
				t.Errorf("a feed of %q has made them %q", was, room)
			}
			clear(room)
		}
		if len(l) != 2 || l[0].Message.Questions[0] != a || l[1].Message.Questions[0] != b {
			t.Errorf("with bytes changed behind feeds of %d there are %v", size, l)
		}
	}
}

// Memory: replies share nothing with one another, or with the pool.
func TestReplyMemory(t *testing.T) {
	record := api.RR{Name: a.Name, Type: api.TypeA, Class: 1, TTL: 1, Data: []byte{1, 2, 3, 4}}
	m := api.Message{
		Header: api.Header{ID: 10, Response: true}, Questions: []api.Question{a},
		Answers: []api.RR{record, record}, Authority: []api.RR{record}, Additional: []api.RR{record},
	}
	other := m
	other.ID = 11
	_, p := opened(t)
	for i := range 3 {
		asks(t, p, 5, a, 10, 0, [3]int{i + 1, 1, 10 + i})
	}
	l := feeds(t, p, 1, written(t, m)+written(t, other), 1, 2)
	if len(l) != 2 {
		t.Fatal(l)
	}
	first := l[0].Message
	first.Answers[0].Data[0] = 99
	_ = append(first.Answers[0].Data, 99, 99, 99, 99)
	clear(first.Questions[:cap(first.Questions)])
	if first.Answers[1].Data[0] != 1 || first.Authority[0].Data[0] != 1 || first.Additional[0].Data[0] != 1 || !wire.Same(l[1].Message, other) {
		t.Errorf("with a message changed there are %v", l)
	}
	clear(l[:cap(l)])
	feeds(t, p, 1, replied(12, a), 3)
}
