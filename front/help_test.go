package front_test

import (
	"fmt"
	"slices"
	"strings"
	"testing"

	"cicerone/api"
	"cicerone/front"
	"cicerone/http"
	"cicerone/prefix"
	"cicerone/rdata"
	"cicerone/wire"
)

// Names; those with great letters are the same as the ones ahead of them.
const (
	root = "\x00"
	a    = "\x01a\x03net\x00"
	upA  = "\x01A\x03nEt\x00"
	b    = "\x01b\x03net\x00"
	upB  = "\x01B\x03NET\x00"
	net  = "\x03net\x00"
)

// kinds are those of streams.
var kinds = []int{api.StreamFrames, api.StreamHTTP}

// never are numbers that no stream has.
var never = []int{0, -1, -2, 1 << 32, 1<<32 + 1, -1 << 63, 1<<63 - 1}

// refused is what goes to a client by HTTP whose stream is refused.
const refused = "HTTP/1.1 400 Bad Request\r\nContent-Length: 0\r\nConnection: close\r\n\r\n"

// of is a question for a name's TypeA.
func of(n string) api.Question {
	return api.Question{Name: n, Type: api.TypeA, Class: api.ClassIN}
}

// numbered is one of many questions.
func numbered(i int) api.Question {
	return of(string([]byte{2, 'q', byte(i)}) + net)
}

// query is one with an ID.
func query(id int, q api.Question) api.Message {
	return api.Message{Header: api.Header{ID: id, RD: true}, Questions: []api.Question{q}}
}

// with is a thing, changed.
func with[T any](x T, change func(x *T)) T {
	change(&x)
	return x
}

// encoded is a message's bytes.
func encoded(l ...api.Message) []string {
	var out []string
	for _, m := range l {
		s, e := wire.Encode(m)
		if e != api.OK {
			panic("a message that can't be")
		}
		out = append(out, string(s))
	}
	return out
}

// queries is the bodies of questions, with the IDs 1, 2 and so on.
func queries(l ...api.Question) []string {
	var out []string
	for i, q := range l {
		out = append(out, encoded(query(i+1, q))...)
	}
	return out
}

// framed is the frames of bodies.
func framed(l ...string) string {
	s := ""
	for _, body := range l {
		f, _ := prefix.Encode([]byte(body))
		s += string(f)
	}
	return s
}

// posted is requests that are kept; every other one is in chunks.
func posted(l ...string) string {
	s := ""
	for i, body := range l {
		r, _ := http.Ask([]byte(body), i%2 == 1)
		s += string(r)
	}
	return s
}

// closing is a request that is not kept.
func closing(body string) string {
	return strings.Replace(posted(body), "Host: resolver", "Connection: close", 1)
}

// sent is bodies as a client of a kind sends them.
func sent(kind int, l ...string) string {
	if kind == api.StreamFrames {
		return framed(l...)
	}
	return posted(l...)
}

// back is replies by HTTP, which are kept; last is one that is not.
func back(l ...string) string {
	s := ""
	for _, body := range l {
		r, _ := http.Reply(200, []byte(body), true)
		s += string(r)
	}
	return s
}

func last(body string) string {
	r, _ := http.Reply(200, []byte(body), false)
	return string(r)
}

// told is replies as they go to a client of a kind.
func told(kind int, l ...string) string {
	if kind == api.StreamFrames {
		return framed(l...)
	}
	return back(l...)
}

// reply is the reply to a query with a code and sections, by the chapter's words.
func reply(m api.Message, code int, answers, authority []api.RR) api.Message {
	return api.Message{
		Header:    api.Header{ID: m.ID, Response: true, Opcode: m.Opcode, RD: m.RD, RA: true, Code: code},
		Questions: m.Questions, Answers: answers, Authority: authority,
	}
}

// empty is a reply without sections.
func empty(m api.Message, code int) api.Message { return reply(m, code, nil, nil) }

// malformed is the reply to a body that is no query.
func malformed(id int) string {
	return string([]byte{byte(id >> 8), byte(id), 0x80, 1, 0, 0, 0, 0, 0, 0, 0, 0})
}

// set is the addresses of a name, up to a time.
func set(n string, expires int, last ...byte) api.Set {
	s := api.Set{Name: n, Type: api.TypeA, Class: api.ClassIN, Rank: api.RankAnswer, Expires: expires}
	for _, x := range last {
		s.Datas = append(s.Datas, []byte{192, 0, 2, x})
	}
	return s
}

// alias is a set that leads on.
func alias(n, to string, expires int) api.Set {
	return api.Set{Name: n, Type: api.TypeCNAME, Class: api.ClassIN, Rank: api.RankAnswer, Expires: expires, Datas: [][]byte{[]byte(to)}}
}

// soa is data of TypeSOA.
func soa() []byte {
	data, e := rdata.Make(api.SOA{MName: b, RName: root, Serial: 7, Minimum: 60})
	if e != api.OK {
		panic("no SOA")
	}
	return data
}

// denied is a negative set of a name.
func denied(n string, kind, expires int) api.Set {
	s := api.Set{Name: n, Type: api.TypeA, Class: api.ClassIN, Rank: api.RankAnswer, Kind: kind, Expires: expires, Zone: net, Datas: [][]byte{soa()}}
	if kind == api.SetNothing {
		s.Type = 0
	}
	return s
}

// record is one of TypeA, aliased one of TypeCNAME, start one of TypeSOA of the zone.
func record(n string, ttl int, last byte) api.RR {
	return api.RR{Name: n, Type: api.TypeA, Class: api.ClassIN, TTL: ttl, Data: []byte{192, 0, 2, last}}
}

func aliased(n, to string, ttl int) api.RR {
	return api.RR{Name: n, Type: api.TypeCNAME, Class: api.ClassIN, TTL: ttl, Data: []byte(to)}
}

func start(ttl int) api.RR {
	return api.RR{Name: net, Type: api.TypeSOA, Class: api.ClassIN, TTL: ttl, Data: soa()}
}

// found is a cache's data for a question.
func found(l ...api.Set) api.Found {
	return api.Found{Kind: api.FoundData, Chain: l[:len(l)-1], Last: l[len(l)-1]}
}

// opened is a new front with streams of these kinds, from 1 on.
func opened(t *testing.T, kinds ...int) *front.Front {
	t.Helper()
	f := front.New()
	if f == nil {
		t.Fatal("New is nil")
	}
	for i, kind := range kinds {
		opens(t, f, kind, i+1)
	}
	return f
}

// opens opens a stream.
func opens(t *testing.T, f *front.Front, kind, want int) {
	t.Helper()
	if got, e := f.Open(kind); got != want || e != api.OK {
		t.Errorf("Open(%d) is %d, %d, not %d", kind, got, e, want)
	}
}

// feeds feeds bytes, and asks which questions are told.
func feeds(t *testing.T, f *front.Front, stream int, s string, now int, want ...api.Question) {
	t.Helper()
	if got, e := f.Feed(stream, []byte(s), now); !slices.Equal(got, want) || e != api.OK {
		t.Errorf("Feed(%d, %.60q) is %v, %d, not %v", stream, s, got, e, want)
	}
}

// answers and fails settle a question that somebody waits for.
func answers(t *testing.T, f *front.Front, q api.Question, r api.Found, now int) {
	t.Helper()
	if e := f.Answer(q, r, now); e != api.OK {
		t.Errorf("Answer(%v, %v, %d) is %d", q, r, now, e)
	}
}

func fails(t *testing.T, f *front.Front, q api.Question, now int) {
	t.Helper()
	if e := f.Fail(q, now); e != api.OK {
		t.Errorf("Fail(%v, %d) is %d", q, now, e)
	}
}

// ends ends a stream.
func ends(t *testing.T, f *front.Front, stream int, want api.Errno) {
	t.Helper()
	if e := f.End(stream); e != want {
		t.Errorf("End(%d) is %d, not %d", stream, e, want)
	}
}

// takes asks for what goes to a client.
func takes(t *testing.T, f *front.Front, stream int, want string) {
	t.Helper()
	if got, e := f.Take(stream); string(got) != want || e != api.OK {
		t.Errorf("Take(%d) is %q, %d, not %q", stream, got, e, want)
	}
}

// none asks that there is no such stream, and that asking changes nothing.
func none(t *testing.T, f *front.Front, l ...int) {
	t.Helper()
	was := all(f)
	for _, stream := range l {
		for _, s := range []string{"", "\x00", framed(queries(of(a))...), posted(queries(of(a))...)} {
			if got, e := f.Feed(stream, []byte(s), 5); len(got) != 0 || e != api.ErrArg {
				t.Errorf("Feed(%d) is %v, %d", stream, got, e)
			}
		}
		if got, e := f.Take(stream); len(got) != 0 || e != api.ErrArg {
			t.Errorf("Take(%d) is %q, %d", stream, got, e)
		}
		ends(t, f, stream, api.ErrArg)
	}
	if now := all(f); now != was {
		t.Errorf("with calls of none of its streams a front has become %s, not %s", now, was)
	}
}

// streams and waits ask for all streams, and all questions that wait.
func streams(t *testing.T, f *front.Front, want ...int) {
	t.Helper()
	if got := f.Streams(); !slices.Equal(got, want) {
		t.Errorf("Streams is %v, not %v", got, want)
	}
}

func waits(t *testing.T, f *front.Front, want ...api.Question) {
	t.Helper()
	if got := f.Waiting(); !slices.Equal(got, want) {
		t.Errorf("Waiting is %v, not %v", got, want)
	}
}

// came and went are lines of a journal.
func came(stream, at int, m api.Message) api.Event {
	return api.Event{Stream: stream, At: at, Message: m}
}

func went(stream, at int, m api.Message) api.Event {
	return api.Event{Reply: true, Stream: stream, At: at, Message: m}
}

// sameEvent compares lines of journals.
func sameEvent(x, y api.Event) bool {
	return x.Reply == y.Reply && x.Stream == y.Stream && x.At == y.At && wire.Same(x.Message, y.Message)
}

// notes asks for the journal.
func notes(t *testing.T, f *front.Front, want ...api.Event) {
	t.Helper()
	if got := f.Journal(); !slices.EqualFunc(got, want, sameEvent) {
		t.Errorf("Journal is\n%v, not\n%v", got, want)
	}
}

// all is what a front tells without being changed.
func all(f *front.Front) string {
	return fmt.Sprint(f.Streams(), f.Waiting(), f.Journal())
}
