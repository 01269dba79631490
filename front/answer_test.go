package front_test

import (
	"math"
	"strings"
	"testing"

	"cicerone/api"
	"cicerone/front"
)

// P21.3: Answer and Fail of questions that nobody waits for, and of kinds that are none: ErrArg, and nothing has changed.
func TestAnswerWrong(t *testing.T) {
	f := opened(t, kinds...)
	good := found(set(a, 50, 1))
	feeds(t, f, 1, framed(queries(of(a))...), 0, of(a))
	feeds(t, f, 2, posted(queries(of(upB))...), 0, of(upB))
	fails(t, f, of(b), 0)
	was := all(f)
	for _, q := range []api.Question{
		{}, of(b), of(""), of("\x01a\x03net"), of(a + "\x00"), of(root), of(net), of("\x01x" + a), of(strings.Repeat("x", 1000)),
		{Name: a, Type: 0, Class: 1}, {Name: a, Type: 2, Class: 1}, {Name: a, Type: 1 + 1<<16, Class: 1}, {Name: a, Type: -1, Class: 1},
		{Name: a, Type: 1, Class: 0}, {Name: a, Type: 1, Class: 255}, {Name: a, Type: 1, Class: math.MinInt}, {Name: a, Type: math.MaxInt, Class: 1},
	} {
		if e := f.Answer(q, good, 0); e != api.ErrArg {
			t.Errorf("Answer(%v) is %d", q, e)
		}
		if e := f.Fail(q, 0); e != api.ErrArg {
			t.Errorf("Fail(%v) is %d", q, e)
		}
	}
	for _, kind := range []int{0, api.FoundNeed, api.FoundLoop, 6, -1, 1 + 1<<32, math.MinInt, math.MaxInt} {
		for _, q := range []api.Question{of(a), of(b)} {
			r := with(good, func(r *api.Found) { r.Kind = kind })
			if e := f.Answer(q, r, 0); e != api.ErrArg {
				t.Errorf("Answer of kind %d is %d", kind, e)
			}
			r.Need = q
			if e := f.Answer(q, r, 60); e != api.ErrArg {
				t.Errorf("Answer of kind %d is %d", kind, e)
			}
		}
	}
	if now := all(f); now != was {
		t.Errorf("the front has become %s, not %s", now, was)
	}
	takes(t, f, 1, "")
	answers(t, f, of(a), good, 0)
	if f.Answer(of(a), good, 0) != api.ErrArg || f.Fail(of(a), 0) != api.ErrArg {
		t.Error("a question is answered twice")
	}
	takes(t, f, 1, framed(encoded(reply(query(1, of(a)), 0, []api.RR{record(a, 50, 1)}, nil))...))
}

// P21.3, P21.4: the example: two streams ask the same, one question is told, two replies go, in the order of the queries.
func TestAnswer(t *testing.T) {
	f := opened(t, api.StreamFrames, api.StreamHTTP)
	feeds(t, f, 2, posted(encoded(query(70, of(upA)))...), 3, of(upA))
	feeds(t, f, 1, framed(encoded(query(7, of(a)), query(8, of(b)))...), 4, of(b))
	feeds(t, f, 2, posted(encoded(query(71, of(a)))...), 5)
	answers(t, f, of(a), found(set(upA, 50, 1, 2)), 20)
	r := []api.RR{record(upA, 30, 1), record(upA, 30, 2)}
	want := []api.Message{reply(query(70, of(upA)), 0, r, nil), reply(query(7, of(a)), 0, r, nil), reply(query(71, of(a)), 0, r, nil)}
	takes(t, f, 1, framed(encoded(want[1])...))
	takes(t, f, 2, back(encoded(want[0], want[2])...))
	waits(t, f, of(b))
	notes(t, f,
		came(2, 3, query(70, of(upA))), came(1, 4, query(7, of(a))), came(1, 4, query(8, of(b))), came(2, 5, query(71, of(a))),
		went(2, 20, want[0]), went(1, 20, want[1]), went(2, 20, want[2]),
	)
}

// replied asks for the reply to a question that is answered.
func replied(t *testing.T, what string, r api.Found, now, code int, answer, authority []api.RR) {
	t.Helper()
	for _, kind := range kinds {
		f := opened(t, kind)
		m := query(0xfedc, of(upA))
		feeds(t, f, 1, sent(kind, encoded(m)...), 0, of(upA))
		answers(t, f, of(a), r, now)
		want := reply(m, code, answer, authority)
		takes(t, f, 1, told(kind, encoded(want)...))
		waits(t, f)
		notes(t, f, came(1, 0, m), went(1, now, want))
		if t.Failed() {
			t.Fatal(what)
		}
	}
}

// P21.3: chains of no set, of one and of several, with data, with none and with nothing.
func TestContent(t *testing.T) {
	data, no, nothing := set(b, 60, 3, 4), denied(b, api.SetNone, 70), denied(b, api.SetNothing, 80)
	mx := api.Set{Name: b, Type: api.TypeMX, Class: api.ClassIN, Rank: api.RankGlue, Expires: 30, Datas: [][]byte{[]byte("\x00\x05" + a), []byte("\x00\x06" + b)}}
	mxs := []api.RR{
		{Name: b, Type: api.TypeMX, Class: api.ClassIN, TTL: 10, Data: []byte("\x00\x05" + a)},
		{Name: b, Type: api.TypeMX, Class: api.ClassIN, TTL: 10, Data: []byte("\x00\x06" + b)},
	}
	// No one asks whether a chain leads from the question to its end.
	for what, chain := range map[string][]api.Set{
		"no set": nil, "an empty chain": {}, "one": {alias(upA, b, 50)},
		"several":           {alias(a, upB, 50), alias(upB, net, 40), alias(net, b, 500)},
		"data, and a name":  {set(a, 21, 7, 6), alias(net, b, 500)},
		"a set twice":       {alias(a, a, 50), alias(a, a, 50)},
		"negative sets":     {denied(a, api.SetNone, 50), alias(upA, b, 50), denied(root, api.SetNothing, 21)},
		"a set with no one": {set(a, 21)},
		"what is longest":   {with(alias(a, b, 20+1<<31), func(s *api.Set) { s.Class = 65535 })},
	} {
		ahead := map[string][]api.RR{
			"one":              {aliased(upA, b, 30)},
			"several":          {aliased(a, upB, 30), aliased(upB, net, 20), aliased(net, b, 480)},
			"data, and a name": {record(a, 1, 7), record(a, 1, 6), aliased(net, b, 480)},
			"a set twice":      {aliased(a, a, 30), aliased(a, a, 30)},
			"negative sets":    {aliased(upA, b, 30)},
			"what is longest":  {with(aliased(a, b, 1<<31), func(r *api.RR) { r.Class = 65535 })},
		}[what]
		chained := func(kind int, s api.Set) api.Found { return api.Found{Kind: kind, Chain: chain, Last: s} }
		behind := func(l ...api.RR) []api.RR { return append(ahead[:len(ahead):len(ahead)], l...) }
		replied(t, what+", data", chained(api.FoundData, data), 20, api.CodeOK, behind(record(b, 40, 3), record(b, 40, 4)), nil)
		replied(t, what+", MX", chained(api.FoundData, mx), 20, api.CodeOK, behind(mxs...), nil)
		replied(t, what+", none", chained(api.FoundNone, no), 20, api.CodeOK, ahead, []api.RR{start(50)})
		replied(t, what+", nothing", chained(api.FoundNothing, nothing), 20, api.CodeName, ahead, []api.RR{start(60)})
		// The found one's kind alone tells the code, and whether there is an Authority, whatever Last is.
		replied(t, what+", none by data", chained(api.FoundData, no), 20, api.CodeOK, ahead, nil)
		replied(t, what+", nothing by data", chained(api.FoundData, nothing), 20, api.CodeOK, ahead, nil)
		replied(t, what+", nothing by none", chained(api.FoundNone, nothing), 20, api.CodeOK, ahead, []api.RR{start(60)})
		replied(t, what+", none by nothing", chained(api.FoundNothing, no), 20, api.CodeName, ahead, []api.RR{start(50)})
	}
}

// P21.3: of data that stand where none is: they are answers whatever Kind the found one has, and Authority has each as a record of Zone.
func TestContentMixed(t *testing.T) {
	own := with(denied(b, api.SetData, 60), func(s *api.Set) { s.Type = api.TypeSOA })
	mine := with(start(40), func(r *api.RR) { r.Name = b })
	replied(t, "data by none", api.Found{Kind: api.FoundNone, Last: own}, 20, api.CodeOK, []api.RR{mine}, []api.RR{start(40)})
	replied(t, "data by nothing", api.Found{Kind: api.FoundNothing, Last: own}, 20, api.CodeName, []api.RR{mine}, []api.RR{start(40)})
	replied(t, "data by data", api.Found{Kind: api.FoundData, Last: own}, 20, api.CodeOK, []api.RR{mine}, nil)
	// Data without a Zone, and of a zone that are no SOA, can't be written there.
	replied(t, "a set of data", api.Found{Kind: api.FoundNone, Last: set(b, 60, 1)}, 20, api.CodeServer, nil, nil)
	replied(t, "no SOA", api.Found{Kind: api.FoundNone, Last: with(denied(b, api.SetNone, 60), func(s *api.Set) { s.Datas = [][]byte{{1, 2, 3, 4}} })}, 20, api.CodeServer, nil, nil)
	class := with(denied(b, api.SetNone, 60), func(s *api.Set) { s.Class = 4 })
	replied(t, "another Class", api.Found{Kind: api.FoundNone, Last: class}, 20, api.CodeOK, nil, []api.RR{with(start(40), func(r *api.RR) { r.Class = 4 })})
	without := with(denied(b, api.SetNone, 60), func(s *api.Set) { s.Datas = nil })
	replied(t, "no data", api.Found{Kind: api.FoundNothing, Last: without}, 20, api.CodeName, nil, nil)
	// Kinds of sets that are none have no records.
	replied(t, "no kind", found(with(set(b, 60, 1), func(s *api.Set) { s.Kind = 3 })), 20, api.CodeOK, nil, nil)
	replied(t, "a kind below", found(with(set(b, 60, 1), func(s *api.Set) { s.Kind = -1 })), 20, api.CodeOK, nil, nil)
	replied(t, "a set at whatever rank", found(with(set(b, 60, 1), func(s *api.Set) { s.Rank = -5 })), 20, api.CodeOK, []api.RR{record(b, 40, 1)}, nil)
}

// P21.3: sets that are not fresh, of the chain and Last, whatever they are.
func TestContentOld(t *testing.T) {
	for _, old := range []int{20, 19, 0, -1, math.MinInt} {
		for what, r := range map[string]api.Found{
			"Last":               found(set(a, old, 1)),
			"Last of a chain":    found(alias(a, b, 50), set(b, old, 1)),
			"the chain's first":  found(alias(a, b, old), alias(b, net, 50), set(net, 50, 1)),
			"the chain's second": found(alias(a, b, 50), alias(b, net, old), set(net, 50, 1)),
			"a denial":           {Kind: api.FoundNone, Last: denied(a, api.SetNone, old)},
			"a denial's chain":   {Kind: api.FoundNothing, Chain: []api.Set{alias(a, b, old)}, Last: denied(b, api.SetNothing, 50)},
			"a chain's denial":   found(denied(a, api.SetNone, old), set(b, 50, 1)),
			"a set of none":      found(with(set(a, old), func(s *api.Set) { s.Kind = 7 })),
		} {
			replied(t, what, r, 20, api.CodeServer, nil, nil)
		}
	}
	for _, kind := range []int{api.FoundData, api.FoundNone, api.FoundNothing} {
		replied(t, "no set", api.Found{Kind: kind}, 20, api.CodeServer, nil, nil)
		replied(t, "no set at 0", api.Found{Kind: kind}, 0, api.CodeServer, nil, nil)
		replied(t, "no set ahead of 0", api.Found{Kind: kind}, math.MinInt, api.CodeServer, nil, nil)
	}
	replied(t, "one tick left", found(set(a, 21, 1)), 20, api.CodeOK, []api.RR{record(a, 1, 1)}, nil)
	replied(t, "one tick of a denial left", api.Found{Kind: api.FoundNothing, Last: denied(a, api.SetNothing, 21)}, 20, api.CodeName, nil, []api.RR{start(1)})
}

// P21.3: times below 0 and beyond the last one count as these, for Answers and Authority.
func TestContentTimes(t *testing.T) {
	const last = api.MaxTime - api.MaxTTL
	for now, counts := range map[int]int{math.MinInt: 0, -1: 0, 0: 0, 1: 1, last - 1: last - 1, last: last, last + 1: last, api.MaxTime: last, math.MaxInt: last} {
		replied(t, "data", found(set(a, counts+9, 1)), now, api.CodeOK, []api.RR{record(a, 9, 1)}, nil)
		replied(t, "none", api.Found{Kind: api.FoundNone, Last: denied(a, api.SetNone, counts+9)}, now, api.CodeOK, nil, []api.RR{start(9)})
		replied(t, "nothing", api.Found{Kind: api.FoundNothing, Chain: []api.Set{alias(a, b, counts+1)}, Last: denied(b, api.SetNothing, counts+9)}, now, api.CodeName, []api.RR{aliased(a, b, 1)}, []api.RR{start(9)})
		replied(t, "old", found(set(a, counts, 1)), now, api.CodeServer, nil, nil)
	}
}

// P21.3: what can't be written: CodeServer, without sections.
func TestContentCannot(t *testing.T) {
	many := set(a, 50)
	for i := range 65536 {
		many.Datas = append(many.Datas, []byte{1, 2, byte(i >> 8), byte(i)})
	}
	big := func(size int) api.Set {
		return api.Set{Name: upA, Type: 99, Class: 1, Expires: 50, Datas: [][]byte{make([]byte, size)}}
	}
	for what, r := range map[string]api.Found{
		"records that are too many": found(many),
		"a message too long":        found(big(65501)),
		"data too long":             found(big(65536)),
		"sets that are too long":    found(big(40000), big(40000)),
		"a name that is none":       found(set("\x01a", 50, 1)),
		"a name that is empty":      found(set("", 50, 1)),
		"a chain's name":            found(set("x", 50, 1), set(a, 50, 1)),
		"a Type that is none":       found(with(set(a, 50, 1), func(s *api.Set) { s.Type = 65536 })),
		"a Type below":              found(with(set(a, 50, 1), func(s *api.Set) { s.Type = -1 })),
		"a Class that is none":      found(with(set(a, 50, 1), func(s *api.Set) { s.Class = 65536 })),
		"data that are none":        found(with(set(a, 50, 1), func(s *api.Set) { s.Datas[0] = []byte{1, 2, 3} })),
		"nil data":                  found(with(set(a, 50, 1), func(s *api.Set) { s.Datas[0] = nil })),
		"a TTL beyond all":          found(set(a, 20+1<<32, 1)),
		"the greatest time":         found(set(a, math.MaxInt, 1)),
		"a zone that is none":       {Kind: api.FoundNone, Last: with(denied(a, api.SetNone, 50), func(s *api.Set) { s.Zone = "" })},
	} {
		replied(t, what, r, 20, api.CodeServer, nil, nil)
	}
	replied(t, "just what fits", found(big(65500)), 20, api.CodeOK, []api.RR{{Name: upA, Type: 99, Class: 1, TTL: 30, Data: make([]byte, 65500)}}, nil)
	replied(t, "the greatest TTL", found(set(a, 20+1<<32-1, 1)), 20, api.CodeOK, []api.RR{record(a, 1<<32-1, 1)}, nil)
}

// P21.3: whether a reply can be written is asked query by query: its own letters make it shorter or longer.
func TestContentLetters(t *testing.T) {
	f := opened(t, api.StreamFrames)
	feeds(t, f, 1, framed(queries(of(a), of(upA), of(a))...), 0, of(a))
	s := api.Set{Name: a, Type: 99, Class: 1, Expires: 50, Datas: [][]byte{make([]byte, 65500)}}
	answers(t, f, of(upA), found(s), 20)
	r := []api.RR{{Name: a, Type: 99, Class: 1, TTL: 30, Data: make([]byte, 65500)}}
	want := []api.Message{reply(query(1, of(a)), 0, r, nil), empty(query(2, of(upA)), api.CodeServer), reply(query(3, of(a)), 0, r, nil)}
	takes(t, f, 1, framed(encoded(want...)...))
	notes(t, f, came(1, 0, query(1, of(a))), came(1, 0, query(2, of(upA))), came(1, 0, query(3, of(a))), went(1, 20, want[0]), went(1, 20, want[1]), went(1, 20, want[2]))
}

// P21.3: a reply has its query's ID, RD and question, Response and RA.
func TestReplyHeader(t *testing.T) {
	for _, id := range []int{0, 1, 255, 256, 65535} {
		for _, rd := range []bool{false, true} {
			for _, settle := range []func(f *front.Front) api.Errno{
				func(f *front.Front) api.Errno { return f.Answer(of(a), found(set(a, 5, 1)), 1) },
				func(f *front.Front) api.Errno { return f.Fail(of(a), 1) },
			} {
				m := with(query(id, of(upA)), func(m *api.Message) { m.RD = rd })
				f := opened(t, api.StreamFrames)
				feeds(t, f, 1, framed(encoded(m)...), 0, of(upA))
				if e := settle(f); e != api.OK {
					t.Fatal(e)
				}
				out, _ := f.Take(1)
				flag := byte(0x80)
				if rd {
					flag |= 1
				}
				if x := out[2:]; x[0] != byte(id>>8) || x[1] != byte(id) || x[2] != flag || x[3]&0xf0 != 0x80 || string(x[12:12+len(upA)]) != upA {
					t.Errorf("the reply to %v is %x", m, x)
				}
			}
		}
	}
}

// P21.3: Fail: each query that waits has CodeServer, without sections.
func TestFail(t *testing.T) {
	f := opened(t, api.StreamHTTP, api.StreamFrames)
	feeds(t, f, 1, posted(queries(of(a), of(upA), of(b))...), 0, of(a), of(b))
	feeds(t, f, 2, framed(queries(of(upA))...), 1)
	fails(t, f, of(upA), 30)
	want := []api.Message{empty(query(1, of(a)), 2), empty(query(2, of(upA)), 2), empty(query(1, of(upA)), 2)}
	takes(t, f, 1, back(encoded(want[:2]...)...))
	takes(t, f, 2, framed(encoded(want[2])...))
	waits(t, f, of(b))
	notes(t, f,
		came(1, 0, query(1, of(a))), came(1, 0, query(2, of(upA))), came(1, 0, query(3, of(b))), came(2, 1, query(1, of(upA))),
		went(1, 30, want[0]), went(1, 30, want[1]), went(2, 30, want[2]),
	)
	if f.Fail(of(a), 31) != api.ErrArg {
		t.Error("a question fails twice")
	}
}
