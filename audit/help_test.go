package audit_test

import (
	"math/rand/v2"
	"slices"
	"strings"
	"testing"

	"cicerone/api"
	"cicerone/audit"
	"cicerone/name"
	"cicerone/rdata"
)

// textType is a type whose data are any bytes.
const textType = 777

// noNames are texts that are no name.
var noNames = []string{"", ".", "a.", "\x01", "\x01a", "\x01a\x00\x00", "\x00\x00", "\x40" + strings.Repeat("x", 64) + "\x00", strings.Repeat("\x01x", 128) + "\x00", "\xc0\x00"}

// named is the name of a text.
func named(text string) string {
	n, e := name.Parse(text)
	if e != api.OK {
		panic("no name: " + text)
	}
	return n
}

// asked is a question for a text's name.
func asked(text string, t int) api.Question {
	return api.Question{Name: named(text), Type: t, Class: api.ClassIN}
}

// record is one of a text's name; host, ns, cname, mx, ptr and soa are such ones of these types.
func record(owner string, t int, data string) api.RR {
	return api.RR{Name: named(owner), Type: t, Class: api.ClassIN, TTL: 300, Data: []byte(data)}
}

func host(owner string, last byte) api.RR {
	return record(owner, api.TypeA, "\xc0\x00\x02"+string([]byte{last}))
}

func ns(owner, to string) api.RR { return record(owner, api.TypeNS, named(to)) }

func cname(owner, to string) api.RR { return record(owner, api.TypeCNAME, named(to)) }

func ptr(owner, to string) api.RR { return record(owner, api.TypePTR, named(to)) }

func mx(owner, to string) api.RR { return record(owner, api.TypeMX, "Am"+named(to)) }

// soa has numbers some of whose bytes could be letters.
func soa(owner, main string) api.RR {
	data, e := rdata.Make(api.SOA{MName: named(main), RName: named("Root." + main), Serial: 'A'<<24 + 'b'<<8, Minimum: 'Z'})
	if e != api.OK {
		panic("no SOA")
	}
	return record(owner, api.TypeSOA, string(data))
}

// with is a thing, changed.
func with[T any](x T, change func(x *T)) T {
	change(&x)
	return x
}

// query is one with an ID, reply the reply to it with these answers.
func query(id int, q api.Question) api.Message {
	return api.Message{Header: api.Header{ID: id, RD: true}, Questions: []api.Question{q}}
}

func reply(m api.Message, l ...api.RR) api.Message {
	m.Response, m.RA, m.Answers = true, true, l
	return m
}

// came and went are lines of a journal.
func came(stream int, m api.Message) api.Event { return api.Event{Stream: stream, Message: m} }

func went(stream, at int, m api.Message) api.Event {
	return api.Event{Reply: true, Stream: stream, At: at, Message: m}
}

// told is a journal of one reply with these answers, that went at a time.
func told(at int, l ...api.RR) []api.Event {
	return []api.Event{went(1, at, reply(query(1, asked("a.", 1)), l...))}
}

// authority is the same with records in Authority.
func authority(at int, l ...api.RR) []api.Event {
	e := told(at)
	e[0].Message.Authority = l
	return e
}

// accepted is that the records, which have one name and type, were accepted at a time, for so many ticks, from a zone's server.
func accepted(at, ttl int, zone string, l ...api.RR) api.Accept {
	s := api.Set{Name: l[0].Name, Type: l[0].Type, Class: l[0].Class, Rank: api.RankAnswer, Expires: at + ttl}
	for _, r := range l {
		s.Datas = append(s.Datas, r.Data)
	}
	return api.Accept{At: at, TTL: ttl, Zone: named(zone), Set: s}
}

// denied is that a zone's server said that there is nothing for a question, by an SOA.
func denied(at, ttl int, zone string, kind int, q api.Question, r api.RR) api.Accept {
	a := accepted(at, ttl, zone, r)
	a.Set.Name, a.Set.Type, a.Set.Kind, a.Set.Zone = q.Name, q.Type, kind, r.Name
	if kind == api.SetNothing {
		a.Set.Type = 0
	}
	return a
}

// paired and backed ask for an answer.
func paired(t *testing.T, what string, want bool, l ...api.Event) {
	t.Helper()
	if got := audit.Paired(l); got != want {
		t.Errorf("%s: Paired is %t", what, got)
	}
}

func backed(t *testing.T, what string, want bool, l []api.Event, a ...api.Accept) {
	t.Helper()
	if got := audit.Backed(l, a); got != want {
		t.Errorf("%s: Backed is %t", what, got)
	}
}

// drawing draws journals, accepts and replies.
type drawing struct{ *rand.Rand }

// one is one of some.
func one[T any](d drawing, l ...T) T { return l[d.IntN(len(l))] }

// letters is a text with some letters great.
func (d drawing) letters(s string) string {
	b := []byte(s)
	for i, c := range b {
		if c >= 'a' && c <= 'z' && d.IntN(8) == 0 {
			b[i] -= 32
		}
	}
	return string(b)
}

// roomy is records with room behind their list and their data.
func roomy(l []api.RR) []api.RR {
	l = slices.Grow(slices.Clone(l), 3)
	for i := range l {
		l[i].Data = append(slices.Clone(l[i].Data), "room"...)[:len(l[i].Data)]
	}
	return l
}
