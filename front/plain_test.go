package front_test

import (
	"slices"

	"cicerone/api"
	"cicerone/http"
	"cicerone/name"
	"cicerone/prefix"
	"cicerone/rrset"
	"cicerone/wire"
)

// What becomes of a body of the second front.
const (
	waiting = iota
	ready
	gone
	lost
)

// body is one of the second front's: whose it is, whether it is kept, what it is, and what became of it.
type body struct {
	s           *side
	keep, query bool
	m           api.Message
	state       int
	reply       string
}

// side is a stream of the second front: all bytes that came, how many frames of them were told, and what is to be taken.
type side struct {
	number, kind int
	came         string
	told         int
	ended        bool
	out          string
}

// plain is a second front, by the chapter's words: its streams, all bodies that ever came, in order, and the journal.
type plain struct {
	last    int
	sides   []*side
	bodies  []*body
	journal []api.Event
}

// frame is what a stream holds: a body, whether it is kept, or that the stream is bad.
type frame struct {
	body      string
	keep, bad bool
}

// frames is all that the bytes of a stream hold, read anew.
func (s *side) frames() []frame {
	var l []frame
	if s.kind == api.StreamFrames {
		for _, b := range prefix.New().Feed([]byte(s.came)) {
			l = append(l, frame{body: string(b), keep: true})
		}
		return l
	}
	requests, e := http.New().Feed([]byte(s.came))
	for _, q := range requests {
		l = append(l, frame{body: string(q.Body), keep: q.Keep})
	}
	if e != api.OK {
		l = append(l, frame{bad: true})
	}
	return l
}

// find is a stream, nil if there is none.
func (p *plain) find(number int) *side {
	for _, s := range p.sides {
		if s.number == number {
			return s
		}
	}
	return nil
}

func (p *plain) open(kind int) (int, api.Errno) {
	if kind != 1 && kind != 2 {
		return 0, api.ErrArg
	}
	if len(p.sides) == 16 {
		return 0, api.ErrFull
	}
	p.last++
	p.sides = append(p.sides, &side{number: p.last, kind: kind})
	return p.last, api.OK
}

// loses has all bodies of a stream whose replies have not gone be lost.
func (p *plain) loses(s *side) {
	for _, x := range p.bodies {
		if x.s == s && x.state != gone {
			x.state = lost
		}
	}
}

func (p *plain) end(number int) api.Errno {
	s := p.find(number)
	if s == nil {
		return api.ErrArg
	}
	p.loses(s)
	p.sides = slices.DeleteFunc(p.sides, func(other *side) bool { return other == s })
	return api.OK
}

func (p *plain) take(number int) (string, api.Errno) {
	s := p.find(number)
	if s == nil {
		return "", api.ErrArg
	}
	out := s.out
	s.out = ""
	if s.ended {
		p.end(number)
	}
	return out, api.OK
}

// sends has go out what may.
func (p *plain) sends(s *side) {
	for _, x := range p.bodies {
		switch {
		case x.s != s || x.state == gone || x.state == lost:
			continue
		case x.state == ready && s.kind == api.StreamFrames:
			s.out += framed(x.reply)
		case x.state == ready:
			b, _ := http.Reply(200, []byte(x.reply), x.keep)
			s.out += string(b)
			s.ended = !x.keep
		case s.kind == api.StreamFrames:
			continue
		default:
			return
		}
		x.state = gone
	}
}

// replies gives a query its reply.
func (p *plain) replies(x *body, code int, answer, authority []api.RR, now int) {
	m := reply(x.m, code, answer, authority)
	b, e := wire.Encode(m)
	if e != api.OK {
		m = empty(x.m, api.CodeServer)
		b = []byte(encoded(m)[0])
	}
	x.state, x.reply = ready, string(b)
	p.journal = append(p.journal, went(x.s.number, now, m))
	p.sends(x.s)
}

// same tells whether two questions are.
func same(x, y api.Question) bool {
	return name.Same(x.Name, y.Name) && x.Type == y.Type && x.Class == y.Class
}

// waits is the bodies that wait for a question.
func (p *plain) waits(q api.Question) []*body {
	var l []*body
	for _, x := range p.bodies {
		if x.query && x.state == waiting && same(x.m.Questions[0], q) {
			l = append(l, x)
		}
	}
	return l
}

func (p *plain) waiting() []api.Question {
	var l []api.Question
	for _, x := range p.bodies {
		if x.query && x.state == waiting && !slices.ContainsFunc(l, func(q api.Question) bool { return same(q, x.m.Questions[0]) }) {
			l = append(l, x.m.Questions[0])
		}
	}
	return l
}

func (p *plain) feed(number int, b string, now int) ([]api.Question, api.Errno) {
	s := p.find(number)
	if s == nil {
		return nil, api.ErrArg
	}
	if s.ended {
		return nil, api.OK
	}
	s.came += b
	l := s.frames()
	fresh := l[s.told:]
	s.told = len(l)
	var asked []*body
	for _, f := range fresh {
		if f.bad || len(f.body) < 12 {
			s.ended = true
			if s.kind == api.StreamHTTP {
				s.out += refused
			}
			p.loses(s)
			break
		}
		if x := p.comes(s, f, now); x != nil {
			asked = append(asked, x)
		}
	}
	var questions []api.Question
	for _, x := range asked {
		if x.state == waiting {
			questions = append(questions, x.m.Questions[0])
		}
	}
	return questions, api.OK
}

// comes takes a body: it, if its question is new.
func (p *plain) comes(s *side, f frame, now int) *body {
	x := &body{s: s, keep: f.keep}
	p.bodies = append(p.bodies, x)
	m, e := wire.Decode([]byte(f.body))
	if e != api.OK || m.Response || len(m.Questions) != 1 {
		x.state, x.reply = ready, malformed(int(f.body[0])<<8|int(f.body[1]))
		p.sends(s)
		return nil
	}
	x.m = m
	p.journal = append(p.journal, came(s.number, now, m))
	q := m.Questions[0]
	ahead := len(p.waits(q)) > 0
	switch {
	case m.Opcode != 0 || slices.Contains([]int{0, 41, 249, 250, 251, 252, 253, 254, 255}, q.Type):
		p.replies(x, api.CodeNot, nil, nil, now)
	case q.Class != 1:
		p.replies(x, api.CodeRefused, nil, nil, now)
	case !ahead && len(p.waiting()) == 16:
		p.replies(x, api.CodeServer, nil, nil, now)
	default:
		x.query = true
		if !ahead {
			return x
		}
	}
	return nil
}

func (p *plain) answer(q api.Question, r api.Found, now int) api.Errno {
	l := p.waits(q)
	if len(l) == 0 || r.Kind < 1 || r.Kind > 3 {
		return api.ErrArg
	}
	var answer, authority []api.RR
	code := 0
	for _, s := range append(slices.Clone(r.Chain), r.Last) {
		answer = append(answer, rrset.Records(s, now)...)
		if s.Expires <= now {
			code = api.CodeServer
		}
	}
	if r.Kind != 1 {
		for _, data := range r.Last.Datas {
			authority = append(authority, api.RR{Name: r.Last.Zone, Type: 6, Class: r.Last.Class, TTL: r.Last.Expires - now, Data: data})
		}
	}
	if code == api.CodeServer {
		answer, authority = nil, nil
	} else if r.Kind == 3 {
		code = api.CodeName
	}
	for _, x := range l {
		p.replies(x, code, answer, authority, now)
	}
	return api.OK
}

func (p *plain) fail(q api.Question, now int) api.Errno {
	l := p.waits(q)
	if len(l) == 0 {
		return api.ErrArg
	}
	for _, x := range l {
		p.replies(x, api.CodeServer, nil, nil, now)
	}
	return api.OK
}

func (p *plain) streams() []int {
	var l []int
	for _, s := range p.sides {
		l = append(l, s.number)
	}
	return l
}
