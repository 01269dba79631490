package iterate

import (
	"iter"
	"slices"

	"cicerone/api"
	"cicerone/look"
	"cicerone/name"
	"cicerone/rate"
	"cicerone/store"
)

// mostTurns is how often a task goes on at most till it wants something.
const mostTurns = 64

// round is a task that is asked what it wants, with what it is told for that.
type round struct {
	*Task
	store     *store.Store
	table     *rate.Table
	draw, now int
}

// Next is what it wants now.
func (t *Task) Next(s *store.Store, r *rate.Table, draw, now int) api.Want {
	if !t.made() || !isStore(s) || !isTable(r) {
		return api.Want{}
	}
	if t.end.Kind != 0 {
		return cloneWant(t.end)
	}
	turn := round{t, s, r, draw, now}.turn
	for range mostTurns {
		if w := turn(); w.Kind != 0 {
			return cloneWant(w)
		}
	}
	return t.ends(api.Want{Kind: api.WantFail})
}

// isStore tells whether a call made a store, and isTable whether one made a table: what is no name, and ticks below 0, are refused ahead of any change, but for another reason.
func isStore(s *store.Store) bool { return s.Delete("", 0, 0) != api.ErrNil }
func isTable(r *rate.Table) bool  { return r.Answered(0, -1) != api.ErrNil }

// ends has the task be at its end, and tells what it came to.
func (t *Task) ends(w api.Want) api.Want {
	t.end, t.goals = w, nil
	return w
}

// turn goes on with the last goal by one step: what the task wants, or nothing, if it is to go on.
func (r round) turn() api.Want {
	g := r.goals[len(r.goals)-1]
	found := look.Find(r.store, g.question, r.now)
	switch found.Kind {
	case api.FoundNeed:
		return r.seek(g, found.Need)
	case api.FoundLoop:
		return r.leave(api.Want{Kind: api.WantFail})
	}
	return r.leave(api.Want{Kind: api.WantDone, Found: found})
}

// leave has the last goal be no more; if it was the first one, the task came to what is told.
func (r round) leave(end api.Want) api.Want {
	if len(r.goals) == 1 {
		return r.ends(end)
	}
	r.goals = r.goals[:len(r.goals)-1]
	return api.Want{}
}

// seek asks one of the servers that are the nearest to what a goal needs; if none is left whose address is known, an address is the next goal.
func (r round) seek(g *goal, need api.Question) api.Want {
	for p := range r.places(need.Name) {
		if addrs := r.untried(g, p, need); len(addrs) > 0 {
			return r.ask(g, p.Zone, addrs, need)
		}
		n, ok := r.unsought(g, p)
		if !ok {
			continue
		}
		g.sought = append(g.sought, name.Lower(n))
		if len(r.goals) < api.MaxDepth {
			q := api.Question{Name: n, Type: api.TypeA, Class: api.ClassIN}
			r.goals = append(r.goals, &goal{question: q})
			return api.Want{}
		}
	}
	return r.leave(api.Want{Kind: api.WantFail})
}

// places is the zones at or above a name whose servers are known, the nearest one first; behind them the root without names, whose servers are the hints.
func (r round) places(n string) iter.Seq[api.Place] {
	return func(yield func(p api.Place) bool) {
		for up, above := n, true; above; {
			p, ok := look.Near(r.store, up, r.now)
			if !ok {
				break
			}
			if !yield(p) {
				return
			}
			up, above = name.Parent(p.Zone)
		}
		yield(api.Place{Zone: root})
	}
}

// untried is the addresses of a zone's servers that were not asked this question in this goal, as that zone's.
func (r round) untried(g *goal, p api.Place, need api.Question) []int {
	var addrs []int
	for _, n := range p.Names {
		addrs = append(addrs, look.Addrs(r.store, n, r.now)...)
	}
	if len(p.Names) == 0 {
		addrs = slices.Clone(r.hints)
	}
	once := tryOf(0, p.Zone, need)
	return slices.DeleteFunc(addrs, func(addr int) bool {
		once.addr = addr
		return slices.Contains(g.tried, once)
	})
}

// unsought is the first one of a zone's servers whose address may be sought elsewhere, and whether there is one.
func (r round) unsought(g *goal, p api.Place) (string, bool) {
	for _, n := range p.Names {
		if !name.Within(n, p.Zone) && !slices.Contains(g.sought, name.Lower(n)) && !r.asks(n) {
			return n, true
		}
	}
	return "", false
}

// asks tells whether a goal asks for a name's address.
func (r round) asks(n string) bool {
	return slices.ContainsFunc(r.goals, func(g *goal) bool {
		return g.question.Type == api.TypeA && name.Same(g.question.Name, n)
	})
}

// ask has one of the servers be asked, unless too many were.
func (r round) ask(g *goal, zone string, addrs []int, need api.Question) api.Want {
	if r.work == api.MaxWork {
		return r.ends(api.Want{Kind: api.WantFail})
	}
	addr, _ := r.table.Best(addrs, r.draw)
	g.tried = append(g.tried, tryOf(addr, zone, need))
	r.work++
	r.asked, r.waits = api.Want{Kind: api.WantAsk, Addr: addr, Zone: zone, Question: need}, true
	return r.asked
}
