package front

import (
	"slices"
	"strings"

	"cicerone/api"
	"cicerone/name"
	"cicerone/rrset"
	"cicerone/wire"
)

// The types from 249 on that are asked for but are no record's.
const (
	typeKey = 249 + iota
	typeSignature
	typeChanges
	typeZone
	typeMailboxes
	typeMailAgents
	typeAny
)

// query is one that came: whose it is, where the reply to it stands, and its place in the journal, which has its message.
type query struct {
	client *client
	place  *place
	event  int
}

// wait is the queries that wait for a question, in the order in which they came.
type wait struct {
	queries []*query
}

// message is a query as it came; asked is its question.
func (f *Front) message(q *query) api.Message { return f.journal[q.event].Message }
func (f *Front) asked(q *query) api.Question  { return f.message(q).Questions[0] }

// content is what a reply has beside what its query tells.
type content struct {
	code               int
	answers, authority []api.RR
}

// keyOf is a question with small letters alone: two are the same just if their keys are equal. That of a name that is none is nobody's.
func keyOf(q api.Question) api.Question {
	q.Name = name.Lower(q.Name)
	return q
}

// waitsFor tells whether a query waits for a question.
func (f *Front) waitsFor(q api.Question) bool { return f.waiting[keyOf(q)] != nil }

// take takes a client's body: its question, if that is waited for from now on.
func (f *Front) take(c *client, body []byte, now int) (api.Question, bool) {
	p := c.join()
	m, e := wire.Decode(body)
	if e != api.OK || m.Response || len(m.Questions) != 1 {
		c.reply(p, malformed(body))
		return api.Question{}, false
	}
	q := &query{client: c, place: p, event: len(f.journal)}
	f.journal = append(f.journal, api.Event{Stream: c.number, At: now, Message: m})
	if code := f.codeAtOnce(m.Opcode, m.Questions[0]); code != api.CodeOK {
		f.reply(q, content{code: code}, now)
		return api.Question{}, false
	}
	return m.Questions[0], f.await(q)
}

// await has a query wait, and tells whether none waited for its question ahead.
func (f *Front) await(q *query) bool {
	key := keyOf(f.asked(q))
	w := f.waiting[key]
	if w == nil {
		w = &wait{}
		f.waiting[key] = w
	}
	w.queries = append(w.queries, q)
	return len(w.queries) == 1
}

// malformed is the reply to a body that is no query.
func malformed(body []byte) []byte {
	id := int(body[0])<<8 | int(body[1])
	b, _ := wire.Encode(api.Message{Header: api.Header{ID: id, Response: true, Code: api.CodeForm}})
	return b
}

// codeAtOnce is the code of the reply that a query has at once; CodeOK, if it is to wait.
func (f *Front) codeAtOnce(opcode int, q api.Question) int {
	switch {
	case opcode != 0 || !canAsk(q.Type):
		return api.CodeNot
	case q.Class != api.ClassIN:
		return api.CodeRefused
	case len(f.waiting) >= api.MaxTasks && !f.waitsFor(q):
		return api.CodeServer
	}
	return api.CodeOK
}

// canAsk tells whether a type is that of records which zones have.
func canAsk(t int) bool {
	return t != 0 && t != api.TypeOPT && (t < typeKey || t > typeAny)
}

// contentOf is what is replied of what a cache has.
func contentOf(r api.Found, now int) content {
	var c content
	for _, s := range slices.Concat(r.Chain, []api.Set{r.Last}) {
		if !rrset.Fresh(s, now) {
			return content{code: api.CodeServer}
		}
		c.answers = append(c.answers, records(s, now)...)
	}
	if r.Kind != api.FoundData {
		c.authority = records(denial(r.Last), now)
	}
	if r.Kind == api.FoundNothing {
		c.code = api.CodeName
	}
	return c
}

// denial is the set of the zone's SOA that says that there is nothing.
func denial(s api.Set) api.Set {
	return api.Set{Name: s.Zone, Type: api.TypeSOA, Class: s.Class, Kind: api.SetData, Expires: s.Expires, Datas: s.Datas}
}

// records is a set's records now, as new memory.
func records(s api.Set, now int) []api.RR {
	s.Name = strings.Clone(s.Name)
	return rrset.Records(s, now)
}

// settle replies to all queries that wait for a question.
func (f *Front) settle(q api.Question, c content, now int) {
	key := keyOf(q)
	w := f.waiting[key]
	delete(f.waiting, key)
	for _, each := range w.queries {
		f.reply(each, c, now)
	}
}

// reply gives a query its reply. Whether one can be written hangs on its question, too, as that is written ahead.
func (f *Front) reply(q *query, c content, now int) {
	m := replyTo(f.message(q), c)
	b, e := wire.Encode(m)
	if e != api.OK {
		m = replyTo(f.message(q), content{code: api.CodeServer})
		b, _ = wire.Encode(m)
	}
	f.journal = append(f.journal, api.Event{Reply: true, Stream: q.client.number, At: now, Message: m})
	q.client.reply(q.place, b)
}

// replyTo is the reply to a query.
func replyTo(m api.Message, c content) api.Message {
	return api.Message{
		Header:    api.Header{ID: m.ID, Response: true, Opcode: m.Opcode, RD: m.RD, RA: true, Code: c.code},
		Questions: m.Questions,
		Answers:   c.answers, Authority: c.authority,
	}
}
