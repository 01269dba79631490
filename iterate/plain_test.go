package iterate_test

import (
	"slices"

	"cicerone/api"
	"cicerone/look"
	"cicerone/name"
	"cicerone/rate"
	"cicerone/rrset"
	"cicerone/store"
)

// plain is a second task, by the chapter's words.
type plain struct {
	hints []api.RR
	goals []*aim
	work  int
	// waits is the last WantAsk, as long as it was neither heard nor lost; end is what is told again.
	waits, end *api.Want
}

// aim is a goal of the second task: what was tried are the WantAsks.
type aim struct {
	q      api.Question
	tried  []api.Want
	sought []string
}

// plainly is one of a question with hints.
func plainly(q api.Question, hints []api.RR) *plain {
	return &plain{hints: hints, goals: []*aim{{q: q}}}
}

func (p *plain) next(s *store.Store, r *rate.Table, draw, now int) api.Want {
	if p.end != nil {
		return *p.end
	}
	w := p.goOn(s, r, draw, now)
	if w.Kind == api.WantAsk {
		p.work++
		p.waits = &w
	} else {
		p.end = &w
	}
	return w
}

func (p *plain) goOn(s *store.Store, r *rate.Table, draw, now int) api.Want {
	fail := api.Want{Kind: api.WantFail}
turns:
	for range 64 {
		g := p.goals[len(p.goals)-1]
		f := look.Find(s, g.q, now)
		switch {
		case f.Kind == api.FoundNeed:
			for _, z := range p.zones(s, f.Need.Name, now) {
				if left := p.left(s, g, z, f.Need, now); len(left) > 0 {
					if p.work == 24 {
						return fail
					}
					addr, _ := r.Best(left, draw)
					w := api.Want{Kind: api.WantAsk, Addr: addr, Zone: z.Zone, Question: f.Need}
					g.tried = append(g.tried, w)
					return w
				}
				at := slices.IndexFunc(z.Names, func(n string) bool { return !name.Within(n, z.Zone) && !g.has(n) && !p.asks(n) })
				if at < 0 {
					continue
				}
				g.sought = append(g.sought, z.Names[at])
				if len(p.goals) < 4 {
					p.goals = append(p.goals, &aim{q: api.Question{Name: z.Names[at], Type: 1, Class: 1}})
					continue turns
				}
			}
			if len(p.goals) == 1 {
				return fail
			}
		case len(p.goals) > 1:
		case f.Kind == api.FoundLoop:
			return fail
		default:
			return api.Want{Kind: api.WantDone, Found: f}
		}
		p.goals = p.goals[:len(p.goals)-1]
	}
	return fail
}

// zones is those above a name whose servers are known, and the root without names.
func (p *plain) zones(s *store.Store, n string, now int) []api.Place {
	var l []api.Place
	for labels := name.Count(n); labels >= 0; labels-- {
		if z, ok := look.Near(s, name.Tail(n, labels), now); ok && name.Count(z.Zone) == labels {
			l = append(l, z)
		}
	}
	return append(l, api.Place{Zone: "\x00"})
}

// left is the addresses of a zone that were not tried.
func (p *plain) left(s *store.Store, g *aim, z api.Place, need api.Question, now int) []int {
	var all, left []int
	for _, n := range z.Names {
		all = append(all, look.Addrs(s, n, now)...)
	}
	if z.Names == nil {
		for _, r := range p.hints {
			if r.Type == 1 && len(r.Data) == 4 {
				all = append(all, int(r.Data[0])*1<<24+int(r.Data[1])*1<<16+int(r.Data[2])*1<<8+int(r.Data[3]))
			}
		}
	}
	for _, addr := range all {
		if !slices.ContainsFunc(g.tried, func(w api.Want) bool {
			return w.Addr == addr && name.Same(w.Zone, z.Zone) && name.Same(w.Question.Name, need.Name) && w.Question.Type == need.Type && w.Question.Class == need.Class
		}) {
			left = append(left, addr)
		}
	}
	return left
}

// has tells whether a name was sought, asks whether a goal asks for its address.
func (g *aim) has(n string) bool {
	return slices.ContainsFunc(g.sought, func(m string) bool { return name.Same(m, n) })
}

func (p *plain) asks(n string) bool {
	return slices.ContainsFunc(p.goals, func(g *aim) bool { return g.q.Type == 1 && name.Same(g.q.Name, n) })
}

func (p *plain) lost() api.Errno {
	if p.waits == nil {
		return api.ErrArg
	}
	p.waits = nil
	return api.OK
}

func (p *plain) hear(s *store.Store, m api.Message, now int) []api.Accept {
	if p.waits == nil {
		return nil
	}
	w := *p.waits
	p.waits = nil
	if m.Opcode != 0 || m.TC || m.Code != api.CodeOK && m.Code != api.CodeName {
		return nil
	}
	var sets []api.Set
	switch {
	case m.AA:
		sets = answered(w, m, now)
	case m.Code == api.CodeOK && len(m.Answers) == 0:
		sets = referred(w, m, now)
	}
	var l []api.Accept
	for _, x := range sets {
		if rrset.Fresh(x, now) {
			s.Put(x, now)
			l = append(l, api.Accept{At: now, TTL: x.Expires - now, Zone: w.Zone, Set: x})
		}
	}
	return l
}

// picked is the set of the records of a name and type that are the zone's; false, if there is none.
func picked(l []api.RR, zone, n string, t, rank, now int) (api.Set, bool) {
	var own []api.RR
	for _, r := range l {
		if r.Class == 1 && name.Within(r.Name, zone) && name.Same(r.Name, n) && r.Type == t {
			own = append(own, r)
		}
	}
	for _, x := range rrset.Group(own, rank, now) {
		return x, true
	}
	return api.Set{}, false
}

// answered is what a message with AA says.
func answered(w api.Want, m api.Message, now int) []api.Set {
	var l []api.Set
	q := w.Question
	for range 8 {
		if x, ok := picked(m.Answers, w.Zone, q.Name, 5, 3, now); ok && q.Type != 5 {
			l = append(l, x)
			q.Name = string(x.Datas[0])
			if !name.Within(q.Name, w.Zone) {
				return l
			}
			continue
		}
		if x, ok := picked(m.Answers, w.Zone, q.Name, q.Type, 3, now); ok {
			return append(l, x)
		}
		kind := map[int]int{api.CodeOK: api.SetNone, api.CodeName: api.SetNothing}[m.Code]
		for _, r := range m.Authority {
			if r.Class == 1 && r.Type == 6 && name.Within(r.Name, w.Zone) && name.Within(q.Name, r.Name) {
				if x, e := rrset.Negative(q, kind, r, now); e == api.OK {
					return append(l, x)
				}
			}
		}
		return l
	}
	return l
}

// referred is what a referral says.
func referred(w api.Want, m api.Message, now int) []api.Set {
	for _, r := range m.Authority {
		if r.Type != 2 || name.Same(r.Name, w.Zone) || !name.Within(w.Question.Name, r.Name) {
			continue
		}
		// The set stands where the first record of it stands that counts.
		if _, ok := picked([]api.RR{r}, w.Zone, r.Name, 2, 2, now); !ok {
			continue
		}
		x, ok := picked(m.Authority, w.Zone, r.Name, 2, 2, now)
		if !ok {
			continue
		}
		l := []api.Set{x}
		var met []string
		for _, a := range m.Additional {
			of := slices.ContainsFunc(x.Datas, func(data []byte) bool { return name.Same(string(data), a.Name) })
			if _, ok := picked([]api.RR{a}, w.Zone, a.Name, 1, 1, now); !ok || !of || slices.Contains(met, name.Lower(a.Name)) {
				continue
			}
			met = append(met, name.Lower(a.Name))
			if y, ok := picked(m.Additional, w.Zone, a.Name, 1, 1, now); ok {
				l = append(l, y)
			}
		}
		return l
	}
	return nil
}
