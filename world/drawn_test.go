package world_test

import (
	"math"
	"math/rand/v2"
	"slices"

	"cicerone/api"
	"cicerone/http"
	"cicerone/name"
	"cicerone/prefix"
	"cicerone/wire"
	"cicerone/zone"
)

// drawing draws trees and steps.
type drawing struct{ *rand.Rand }

// one is one of some.
func one[T any](d drawing, l ...T) T { return l[d.IntN(len(l))] }

// letters is a name in drawn letters.
func (d drawing) letters(n string) string {
	b := []byte(n)
	for i, c := range b {
		if c >= 'a' && c <= 'z' && d.IntN(8) == 0 {
			b[i] -= 32
		}
	}
	return string(b)
}

// tree is a drawn tree that may be: zones below one another, with servers here and there, and aliases across them. All of its names can be found; records last for up to so many ticks.
func (d drawing) tree(lasting int) api.Tree {
	origins := []string{"."}
	for range 1 + d.IntN(4) {
		above := one(d, origins...)
		if above == "." {
			above = ""
		}
		if o := one(d, "a.", "b.", "c.") + above; !slices.Contains(origins, o) {
			origins = append(origins, o)
		}
	}
	x := api.Tree{}
	for i, o := range origins {
		x.Zones = append(x.Zones, api.Zone{Origin: named(o), RRs: []api.RR{soa(o)}})
		x.Servers = append(x.Servers, api.Server{Addr: i + 1, Zones: []int{i}})
	}
	d.serve(&x, origins)
	for i, o := range origins {
		for _, label := range []string{"u", "v", "w"} {
			l := []api.RR{cname(".", one(d, "w.", "v.", "u.", "")+one(d, origins[1:]...))}
			if d.IntN(2) == 0 {
				l = []api.RR{text(".", "x"), text(".", "y"), record(".", api.TypeMX, "Aa"+d.letters(named("u."+one(d, origins[1:]...))))}[d.IntN(3):]
			}
			for _, r := range l {
				r.Name = "\x01" + label + named(o)
				x.Zones[i].RRs = append(x.Zones[i].RRs, r)
			}
		}
	}
	for _, z := range x.Zones {
		for i := range z.RRs {
			z.RRs[i].TTL = lasting - d.IntN(max(lasting-10, 1))
		}
	}
	return x
}

// serve gives zones their servers: a name or two of each zone's own, whose addresses the zone above tells, too; or, if elsewhere is what was drawn, a name of the root, or of a zone right below it that has its own.
func (d drawing) serve(x *api.Tree, origins []string) {
	homes := []int{0}
	for i := range origins {
		parent := 0
		for j, o := range origins {
			if j != i && name.Within(named(origins[i]), named(o)) && len(o) > len(origins[parent]) {
				parent = j
			}
		}
		at := i
		if i > 0 && d.IntN(3) == 0 {
			at = one(d, homes...)
		} else if parent == 0 {
			homes = append(homes, i)
		}
		for k := range 1 + d.IntN(2) {
			n, a := ns(".", "."), host(".", i+1)
			a.Name = "\x02n" + string(rune('a'+2*i+k)) + named(origins[at])
			n.Name, n.Data = named(origins[i]), []byte(a.Name)
			x.Zones[i].RRs = append(x.Zones[i].RRs, n)
			x.Zones[at].RRs = append(x.Zones[at].RRs, a)
			if i > 0 {
				x.Zones[parent].RRs = append(x.Zones[parent].RRs, n)
			}
			if i > 0 && at == i {
				x.Zones[parent].RRs = append(x.Zones[parent].RRs, a)
			}
		}
	}
}

// spoil has some of a tree's servers be nobody, or serve other zones, too, or none.
func (d drawing) spoil(x *api.Tree) {
	for i := range x.Servers {
		switch d.IntN(8) {
		case 0:
			x.Servers[i].Zones = nil
		case 1:
			x.Servers[i].Zones = append(x.Servers[i].Zones, d.IntN(len(x.Zones)))
		case 2:
			x.Servers[i].Addr = 90 + i
		}
	}
	d.lame(x)
}

// lame gives some of the names of a tree's servers further addresses, at which other zones may be served.
func (d drawing) lame(x *api.Tree) {
	for i, z := range x.Zones {
		for _, r := range z.RRs {
			r.Data = []byte{0, 0, 0, byte(1 + d.IntN(6))}
			same := func(other api.RR) bool {
				return other.Name == r.Name && other.Type == r.Type && string(other.Data) == string(r.Data)
			}
			// A tree may have a record twice, but then nobody answers as it has it.
			if r.Type == api.TypeA && d.IntN(4) == 0 && !slices.ContainsFunc(x.Zones[i].RRs, same) {
				x.Zones[i].RRs = append(x.Zones[i].RRs, r)
			}
		}
	}
}

// question is one of a tree's names, or of one near it.
func (d drawing) question(x api.Tree) api.Question {
	q := api.Question{Name: d.letters(one(d, one(d, x.Zones...).RRs...).Name), Type: one(d, 1, 1, 2, 5, 15, textType, textType, textType), Class: 1}
	if d.IntN(5) == 0 {
		q.Name = "\x01x" + q.Name
	}
	return q
}

// body is what a client sends: mostly a query.
func (d drawing) body(x api.Tree) []byte {
	m := query(d.IntN(65536), d.question(x))
	m.RD = d.IntN(2) == 0
	switch d.IntN(70) {
	case 0:
		m.Response = true
	case 1:
		m.Questions[0].Type = one(d, 0, 41, 249, 255)
	case 2:
		m.Questions[0].Class = 3
	case 3:
		m.Opcode = 2
	case 4:
		m.Questions = nil
	case 5:
		m.Additional = []api.RR{{Name: "\x00", Type: api.TypeOPT, Class: 1232}}
	}
	b, _ := wire.Encode(m)
	if d.IntN(120) == 0 {
		b = b[:d.IntN(len(b))]
	}
	return b
}

// bytes is what comes on a stream of a kind, now and then in pieces.
func (d drawing) bytes(x api.Tree, kind int) []byte {
	var out []byte
	for range one(d, 1, 1, 1, 2, 3, 6) {
		var b []byte
		if kind == api.StreamFrames {
			b, _ = prefix.Encode(d.body(x))
		} else {
			b, _ = http.Ask(d.body(x), d.IntN(2) == 0)
		}
		out = append(out, b...)
	}
	switch d.IntN(60) {
	case 0:
		out = out[:d.IntN(len(out))]
	case 1:
		out = append(out, '\n')
	}
	return out
}

// reply is one to what was asked of a server, as it has it, or changed.
func (d drawing) reply(x api.Tree, a api.Asked) api.Message {
	m, ok := zone.Serve(x, a.Addr, api.Message{Header: api.Header{ID: a.ID}, Questions: []api.Question{a.Question}})
	if !ok {
		m = answered(a.ID, a.Question)
	}
	drawn := func(n string) api.RR {
		r := one(d, one(d, x.Zones...).RRs...)
		if d.IntN(2) == 0 {
			r.Name = d.letters(n)
		}
		r.TTL = one(d, 0, 1, 5, 40, 1<<31, 1<<32-1)
		r.Class = one(d, 1, 1, 1, 1, 3)
		return r
	}
	switch d.IntN(14) {
	case 0:
		m.AA = !m.AA
	case 1:
		m.Code = d.IntN(6)
	case 2:
		m.TC = true
	case 3:
		m.ID ^= 1
	case 4:
		m.Questions[0] = d.question(x)
	case 5, 6:
		m.Answers = append(m.Answers, drawn(a.Question.Name))
	case 7, 8:
		m.Authority = append(m.Authority, drawn(a.Question.Name))
	case 9:
		m.Additional = append(m.Additional, drawn(a.Question.Name))
	case 10:
		m.Answers = []api.RR{drawn(a.Question.Name), drawn(a.Question.Name)}
		m.AA = true
	}
	return m
}

// pushed is what comes on connections beside what servers answer: mostly a reply to what is open.
func (d drawing) pushed(x api.Tree, open []api.Asked) api.Step {
	s := api.Step{Kind: api.StepPush, N: 1 + d.IntN(9)}
	if len(open) > 0 && d.IntN(12) > 0 {
		a := one(d, open...)
		s.N = a.Conn
		m := d.reply(x, a)
		b, e := wire.Encode(m)
		if e == api.OK {
			s.Bytes, _ = prefix.Encode(b)
		}
	}
	if d.IntN(25) == 0 && len(s.Bytes) > 0 {
		s.Bytes[d.IntN(len(s.Bytes))] ^= byte(1 << d.IntN(8))
	}
	return s
}

// tails is what a crash keeps.
func (d drawing) tails() []api.Tail {
	var l []api.Tail
	for range d.IntN(5) {
		l = append(l, api.Tail{Name: one(d, "manifest", "manifest.new", "s00000001", "s00000002", "s00000003", "s00000004"), Keep: one(d, -1, 0, 1, 10, 50, 100, 1000, math.MaxInt), Turn: d.IntN(2) == 0})
	}
	return l
}
