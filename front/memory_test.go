package front_test

import (
	"bytes"
	"slices"
	"strings"
	"testing"
	"unsafe"

	"cicerone/api"
	"cicerone/front"
)

// turn changes a text's bytes, which nobody but a test does. It is for texts that were made anew.
func turn(s string) {
	b := unsafe.Slice(unsafe.StringData(s), len(s))
	for i := range b {
		b[i] ^= 0x15
	}
}

// spoil changes all bytes of a list, and of the room behind it.
func spoil(b []byte) {
	b = b[:cap(b)]
	for i := range b {
		b[i] ^= 0x15
	}
}

// spoilQuestions and spoilRecords change all of lists, and the room behind them.
func spoilQuestions(l []api.Question) {
	for i, q := range l {
		turn(q.Name)
		l[i].Type++
	}
	clear(l[len(l):cap(l)])
}

func spoilRecords(l []api.RR) {
	for i, r := range l {
		turn(r.Name)
		spoil(r.Data)
		l[i].TTL++
	}
	clear(l[len(l):cap(l)])
}

// fresh is a question with a name of its own.
func fresh(q api.Question) api.Question {
	q.Name = strings.Clone(q.Name)
	return q
}

// roomy is bytes with room behind them.
func roomy(s string) []byte { return append([]byte(s), "room behind it"...)[:len(s)] }

// roomySet is a set with room behind its lists, all of it its own.
func roomySet(s api.Set) api.Set {
	s.Name, s.Zone = strings.Clone(s.Name), strings.Clone(s.Zone)
	l := make([][]byte, 0, len(s.Datas)+3)
	for _, data := range s.Datas {
		l = append(l, roomy(string(data)))
	}
	s.Datas = l
	return s
}

// roomyFound is one likewise.
func roomyFound(r api.Found) api.Found {
	l := make([]api.Set, 0, len(r.Chain)+3)
	for _, s := range r.Chain {
		l = append(l, roomySet(s))
	}
	r.Chain, r.Last = l, roomySet(r.Last)
	return r
}

// sameSet compares sets, with the room behind their lists.
func sameSet(x, y api.Set) bool {
	if x.Name != y.Name || x.Type != y.Type || x.Class != y.Class || x.Rank != y.Rank || x.Kind != y.Kind || x.Expires != y.Expires || x.Zone != y.Zone {
		return false
	}
	whole := func(b, c []byte) bool { return bytes.Equal(b[:cap(b)], c[:cap(c)]) }
	return slices.EqualFunc(x.Datas[:cap(x.Datas)], y.Datas[:cap(y.Datas)], whole)
}

// spoilSet changes all of a set.
func spoilSet(s api.Set) {
	turn(s.Name)
	turn(s.Zone)
	for _, data := range s.Datas {
		spoil(data)
	}
	clear(s.Datas[:cap(s.Datas)])
}

// Memory: bytes that are fed are neither changed nor kept, nor the room behind them.
func TestFeedMemory(t *testing.T) {
	for _, kind := range kinds {
		for _, size := range []int{1, 2, 7, 30, 200, 1 << 20} {
			f := opened(t, kind)
			not := query(9, with(of(b), func(q *api.Question) { q.Type = 255 }))
			for part := range slices.Chunk([]byte(sent(kind, append(encoded(query(1, of(upA)), not), "123456789012")...)), size) {
				room := roomy(string(part))
				was := bytes.Clone(room[:cap(room)])
				f.Feed(1, room, 3)
				if !bytes.Equal(room[:cap(room)], was) {
					t.Errorf("a feed of %q has made them %q", was, room[:cap(room)])
				}
				clear(room[:cap(room)])
			}
			waits(t, f, of(upA))
			answers(t, f, of(a), found(set(a, 50, 1)), 10)
			r := reply(query(1, of(upA)), 0, []api.RR{record(a, 40, 1)}, nil)
			notes(t, f, came(1, 3, query(1, of(upA))), came(1, 3, not), went(1, 3, empty(not, api.CodeNot)), went(1, 10, r))
			x, y, z := encoded(r)[0], encoded(empty(not, api.CodeNot))[0], malformed('1'<<8|'2')
			if kind == api.StreamFrames {
				x, y, z = y, z, x
			}
			takes(t, f, 1, told(kind, x, y, z))
		}
	}
}

// Memory: questions that were told, or that wait, share nothing with the front.
func TestQuestionMemory(t *testing.T) {
	f := opened(t, kinds...)
	l, e := f.Feed(1, []byte(framed(queries(of(upA), of(b))...)), 0)
	if e != api.OK || len(l) != 2 {
		t.Fatal(l, e)
	}
	spoilQuestions(l)
	waits(t, f, of(upA), of(b))
	x, y := f.Waiting(), f.Waiting()
	spoilQuestions(x)
	if !slices.Equal(y, []api.Question{of(upA), of(b)}) {
		t.Errorf("with Waiting another one has become %v", y)
	}
	waits(t, f, of(upA), of(b))
	feeds(t, f, 2, posted(queries(of(a), of(upB))...), 0)
	notes(t, f, came(1, 0, query(1, of(upA))), came(1, 0, query(2, of(b))), came(2, 0, query(1, of(a))), came(2, 0, query(2, of(upB))))
	fails(t, f, of(a), 0)
	takes(t, f, 1, framed(encoded(empty(query(1, of(upA)), 2))...))
	s := f.Streams()
	clear(s[:cap(s)])
	streams(t, f, 1, 2)
}

// Memory: what is handed to Answer is neither changed nor kept.
func TestAnswerMemory(t *testing.T) {
	for _, r := range []api.Found{
		found(alias(a, b, 50), alias(b, net, 50), set(net, 50, 1, 2)),
		{Kind: api.FoundNone, Chain: []api.Set{alias(a, b, 50)}, Last: denied(b, api.SetNone, 50)},
		{Kind: api.FoundNothing, Last: denied(a, api.SetNothing, 50)},
		found(set(a, 5, 1)),
	} {
		f := opened(t, api.StreamFrames, api.StreamHTTP)
		feeds(t, f, 1, framed(queries(of(a), of(upA))...), 0, of(a))
		feeds(t, f, 2, posted(queries(of(b), of(upA))...), 0, of(b))
		g := opened(t, api.StreamFrames, api.StreamHTTP)
		feeds(t, g, 1, framed(queries(of(a), of(upA))...), 0, of(a))
		feeds(t, g, 2, posted(queries(of(b), of(upA))...), 0, of(b))
		given, was, q := roomyFound(r), roomyFound(r), fresh(of(a))
		answers(t, f, q, given, 10)
		answers(t, g, of(a), r, 10)
		if !sameSet(given.Last, was.Last) || !slices.EqualFunc(given.Chain[:cap(given.Chain)], was.Chain[:cap(was.Chain)], sameSet) || q != of(a) {
			t.Errorf("Answer of %v has made it %v", was, given)
		}
		turn(q.Name)
		spoilSet(given.Last)
		for _, s := range given.Chain {
			spoilSet(s)
		}
		clear(given.Chain[:cap(given.Chain)])
		notes(t, f, g.Journal()...)
		fails(t, f, of(b), 11)
		fails(t, g, of(b), 11)
		for _, stream := range []int{1, 2} {
			want, _ := g.Take(stream)
			takes(t, f, stream, string(want))
		}
	}
	// Nor is what Fail is handed.
	f := opened(t, api.StreamHTTP)
	feeds(t, f, 1, posted(queries(of(b), of(upA))...), 0, of(b), of(upA))
	q := fresh(of(a))
	fails(t, f, q, 1)
	if q != of(a) {
		t.Errorf("Fail has made a question %v", q)
	}
	turn(q.Name)
	notes(t, f, came(1, 0, query(1, of(b))), came(1, 0, query(2, of(upA))), went(1, 1, empty(query(2, of(upA)), 2)))
}

// busy is a front with a journal of all kinds of lines.
func busy(t *testing.T) *front.Front {
	t.Helper()
	f := opened(t, api.StreamFrames)
	m := with(query(1, of(a)), func(m *api.Message) {
		m.Answers = []api.RR{record(a, 1, 1), record(a, 1, 1)}
		m.Authority, m.Additional = m.Answers, m.Answers
	})
	feeds(t, f, 1, framed(encoded(m, query(2, of(upA)), query(3, of(b)))...), 0, of(a), of(b))
	answers(t, f, of(a), api.Found{Kind: api.FoundNone, Chain: []api.Set{set(a, 50, 1, 2), set(a, 50, 1)}, Last: denied(a, api.SetNone, 50)}, 10)
	fails(t, f, of(b), 11)
	return f
}

// Memory: a journal shares nothing with the front, with another one, or within itself.
func TestJournalMemory(t *testing.T) {
	f := busy(t)
	want, x, y := busy(t).Journal(), f.Journal(), f.Journal()
	if len(x) != 6 || !slices.EqualFunc(x, want, sameEvent) {
		t.Fatalf("Journal is %v, not %v", x, want)
	}
	for i := range x {
		m := x[i].Message
		lists := [][]api.RR{m.Answers, m.Authority, m.Additional}
		was := [][]api.RR{want[i].Message.Answers, want[i].Message.Authority, want[i].Message.Additional}
		for j, l := range lists {
			for k := range l {
				// Record by record: those that are not yet changed are as they were.
				if r := l[k]; r.Name != was[j][k].Name || !bytes.Equal(r.Data, was[j][k].Data) {
					t.Errorf("line %d, list %d, record %d has become %v", i, j, k, r)
				}
				spoilRecords(l[k : k+1 : k+1])
			}
			clear(l[:cap(l)])
		}
		spoilQuestions(m.Questions)
		x[i] = api.Event{Reply: true, Stream: 99}
		if !slices.EqualFunc(x[i+1:], want[i+1:], sameEvent) {
			t.Fatalf("with line %d others have become %v", i, x[i+1:])
		}
	}
	clear(x[:cap(x)])
	if !slices.EqualFunc(y, want, sameEvent) {
		t.Errorf("with a journal another one has become %v", y)
	}
	notes(t, f, want...)
}

// Memory: bytes that were taken share nothing with those that come later, or with those of other streams.
func TestTakeMemory(t *testing.T) {
	for _, kind := range kinds {
		for _, spoils := range []bool{false, true} {
			f := opened(t, kind, kind)
			l := []api.Question{of(a), of(b), of(net)}
			feeds(t, f, 1, sent(kind, queries(l...)...), 0, l...)
			feeds(t, f, 2, sent(kind, queries(of(a))...), 0)
			var taken [][]byte
			for i, q := range l {
				fails(t, f, q, 0)
				got, e := f.Take(1)
				if want := told(kind, encoded(empty(query(i+1, q), 2))...); string(got) != want || e != api.OK {
					t.Errorf("Take is %q, %d, not %q", got, e, want)
				}
				taken = append(taken, got)
				if spoils {
					spoil(got)
					_ = append(got, "behind its end"...)
				}
			}
			for i, got := range taken {
				if want := told(kind, encoded(empty(query(i+1, l[i]), 2))...); !spoils && string(got) != want {
					t.Errorf("with later ones what was taken has become %q, not %q", got, want)
				}
			}
			takes(t, f, 2, told(kind, encoded(empty(query(1, of(a)), 2))...))
			notes(t, f,
				came(1, 0, query(1, of(a))), came(1, 0, query(2, of(b))), came(1, 0, query(3, of(net))), came(2, 0, query(1, of(a))),
				went(1, 0, empty(query(1, of(a)), 2)), went(2, 0, empty(query(1, of(a)), 2)), went(1, 0, empty(query(2, of(b)), 2)), went(1, 0, empty(query(3, of(net)), 2)),
			)
		}
	}
}
