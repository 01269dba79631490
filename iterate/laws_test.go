package iterate_test

import (
	"fmt"
	"math/rand/v2"
	"slices"
	"testing"

	"cicerone/api"
	"cicerone/entry"
	"cicerone/iterate"
	"cicerone/name"
	"cicerone/rate"
	"cicerone/store"
)

// drawing draws sets, messages and trees.
type drawing struct{ *rand.Rand }

// one is one of some.
func one[T any](d drawing, l ...T) T { return l[d.IntN(len(l))] }

// letters is a name in drawn letters.
func (d drawing) letters(n string) string {
	b := []byte(n)
	for i, c := range b {
		if c >= 'a' && c <= 'z' && d.IntN(8) == 0 {
			b[i] -= 32
		}
	}
	return string(b)
}

// name is one of few.
func (d drawing) name() string {
	return d.letters(named(one(d, ".", "com.", "net.", "com.", "net.", "a.com.", "a.net.", "b.com.", "ns.com.", "ns.net.", "ns.a.com.", "x.a.com.", "y.com.", "z.net.")))
}

// record is one of a name and type, with drawn data, seldom one that is none, or that counts for little.
func (d drawing) record(n string, t int) api.RR {
	r := api.RR{Name: n, Type: t, Class: 1, TTL: one(d, 300, 300, 300, 20, 1)}
	switch t {
	case api.TypeA:
		r.Data = []byte(address(1 + d.IntN(6)))
	case api.TypeNS, api.TypeCNAME:
		r.Data = []byte(d.name())
	case api.TypeSOA:
		r.Data = soa(".", one(d, 0, 5, 300)).Data
	default:
		r.Data = []byte(one(d, "x", "y", "z"))
	}
	switch d.IntN(60) {
	case 0:
		r.Data = []byte("no data")
	case 1:
		r.Class = 3
	case 2, 3:
		r.TTL = one(d, 0, -1, 1<<31, 1<<31-1)
	case 4:
		r.Name = "\x01"
	}
	return r
}

// set is one that can be kept.
func (d drawing) set() api.Set {
	n := d.name()
	s := none(".", textType)
	switch d.IntN(12) {
	case 0:
		s = nothing(".")
	case 1:
	default:
		t := one(d, api.TypeNS, api.TypeNS, api.TypeNS, api.TypeA, api.TypeA, api.TypeCNAME, textType)
		l := []api.RR{d.record(n, t)}
		for d.IntN(2) == 0 {
			l = append(l, d.record(n, t))
		}
		s = setOf(one(d, 1, 2, 3), l...)
		s.Class = 1
	}
	s.Name = n
	s.Expires = one(d, far, far, 30, 60, 100)
	return s
}

// message is a drawn reply to a WantAsk, of whatever use.
func (d drawing) message(w api.Want) api.Message {
	q := w.Question
	m := api.Message{Header: api.Header{Response: true, AA: d.IntN(2) == 0}}
	near := func() string { return d.letters(one(d, q.Name, q.Name, w.Zone, d.name(), d.name())) }
	if m.AA {
		n := q.Name
		for d.IntN(3) > 0 {
			// Often a record of the name to which the last one leads.
			r := d.record(d.letters(one(d, n, n, n, near())), one(d, q.Type, q.Type, 5, 5, 5, 2))
			if m.Answers = append(m.Answers, r); r.Type == api.TypeCNAME && name.Can(string(r.Data)) {
				n = string(r.Data)
			}
		}
		for d.IntN(2) > 0 {
			m.Authority = append(m.Authority, d.record(near(), one(d, 6, 6, 6, 2)))
		}
	} else {
		for d.IntN(4) > 0 {
			r := d.record(one(d, near(), d.name()), one(d, 2, 2, 2, 2, 6))
			m.Authority = append(m.Authority, r)
			for d.IntN(3) > 0 {
				m.Additional = append(m.Additional, d.record(one(d, string(r.Data), d.name()), one(d, 1, 1, 1, 1, 28, 5)))
			}
		}
	}
	return d.header(m)
}

// header is a message with a drawn header, and seldom with what does not belong to its kind.
func (d drawing) header(m api.Message) api.Message {
	if m.AA && d.IntN(2) == 0 {
		m.Code = api.CodeName
	}
	switch d.IntN(40) {
	case 0:
		m.TC = true
	case 1:
		m.Opcode = 1
	case 2:
		m.Code = one(d, 1, 2, 3, 4, 5)
	case 3:
		m.AA = !m.AA
	case 4:
		m.Answers = append(m.Answers, d.record(d.name(), textType))
	case 5:
		m.Additional = nil
	}
	return m
}

// pair is a task and the second one, each with a store and a table of its own.
type pair struct {
	*testing.T
	d      drawing
	task   *iterate.Task
	second *plain
	stores [2]*store.Store
	tables [2]*rate.Table
	now    int
	last   api.Want
	// count tells what came of the calls.
	count map[string]int
}

// paired is one of a drawn question and drawn sets.
func (d drawing) paired(t *testing.T, count map[string]int) *pair {
	q := api.Question{Name: d.name(), Type: one(d, 1, 1, 2, 5, textType, textType), Class: 1}
	var hints []api.RR
	for d.IntN(3) > 0 {
		hints = append(hints, d.record(d.name(), one(d, 1, 1, 1, 2)))
	}
	task, e := iterate.New(q, hints)
	if e != api.OK {
		t.Fatal(e)
	}
	p := &pair{T: t, d: d, task: task, second: plainly(q, hints), count: count}
	most := one(d, 1<<40, 1<<40, 1<<40, 1000)
	for i := range p.stores {
		p.stores[i], p.tables[i] = stored(t, most), rate.New()
	}
	for range d.IntN(9) {
		p.put()
	}
	return p
}

// put puts a drawn set into both stores.
func (p *pair) put() {
	x := p.d.set()
	for _, s := range p.stores {
		s.Put(x, p.now)
	}
}

// step makes a drawn call of both tasks, and compares what they answer.
func (p *pair) step() {
	p.Helper()
	switch kind := p.d.IntN(20); {
	case kind < 8:
		draw := one(p.d, 0, p.d.IntN(9), -p.d.IntN(9), int(p.d.Uint64()))
		got, want := p.task.Next(p.stores[0], p.tables[0], draw, p.now), p.second.next(p.stores[1], p.tables[1], draw, p.now)
		if !sameWant(got, want) {
			p.Fatalf("Next is %+q, not %+q", fmt.Sprint(got), fmt.Sprint(want))
		}
		if got.Kind == api.WantAsk {
			p.last = got
		}
		p.count[fmt.Sprint("want ", got.Kind)]++
		p.count[fmt.Sprint("goals ", len(p.second.goals))]++
	case kind < 15:
		m := p.d.message(p.last)
		waits := p.second.waits != nil
		got, want := p.task.Hear(p.stores[0], m, p.now), p.second.hear(p.stores[1], m, p.now)
		if !slices.EqualFunc(got, want, sameAccept) {
			p.Fatalf("Hear of %+q is %+q, not %+q", fmt.Sprint(m), fmt.Sprint(got), fmt.Sprint(want))
		}
		p.heard(waits, got)
	case kind < 16:
		if got, want := p.task.Lost(), p.second.lost(); got != want {
			p.Fatalf("Lost is %d, not %d", got, want)
		}
	case kind < 18:
		addr := 1 + p.d.IntN(6)
		for _, r := range p.tables {
			if kind == 16 {
				r.Failed(addr)
			} else {
				r.Answered(addr, addr)
			}
		}
	case kind < 19:
		p.now += p.d.IntN(20)
	default:
		p.put()
	}
}

// heard counts what was accepted, all of which must lie within the zone that was asked: P20.4.
func (p *pair) heard(waits bool, l []api.Accept) {
	p.Helper()
	if !waits {
		p.count["unasked"]++
	} else if len(l) == 0 {
		p.count["of no use"]++
	}
	for _, a := range l {
		p.count[fmt.Sprint("accept of rank ", a.Set.Rank, " kind ", a.Set.Kind)]++
		if a.Zone != p.last.Zone || !name.Within(a.Set.Name, a.Zone) || a.Set.Class != 1 || !entry.Can(a.Set) || a.TTL < 1 || a.At != p.now || a.At+a.TTL != a.Set.Expires {
			p.Fatalf("accepted is %v", a)
		}
	}
	if len(l) > 2 {
		p.count["chain, or several"]++
	}
}

// P20.1 to P20.5: drawn calls, held against the second task.
func TestDrawn(t *testing.T) {
	d := drawing{rand.New(rand.NewPCG(20, 1))}
	count := map[string]int{}
	for range 10000 {
		p := d.paired(t, count)
		for range 40 {
			if p.second.end != nil && d.IntN(4) == 0 {
				break
			}
			p.step()
			if p.task.Work() != p.second.work || p.task.Work() > api.MaxWork {
				t.Fatalf("Work is %d, not %d", p.task.Work(), p.second.work)
			}
			if !slices.EqualFunc(p.stores[0].Sets(), p.stores[1].Sets(), entry.Same) {
				t.Fatalf("the store has %v, not %v", p.stores[0].Sets(), p.stores[1].Sets())
			}
		}
		count[fmt.Sprint("work ", min(p.second.work, 5))]++
	}
	for _, what := range []string{
		"want 1", "want 2", "want 3", "goals 1", "goals 2", "goals 3", "goals 4", "unasked", "of no use", "chain, or several", "work 0", "work 1", "work 2", "work 3", "work 4", "work 5",
		"accept of rank 1 kind 0", "accept of rank 2 kind 0", "accept of rank 3 kind 0", "accept of rank 3 kind 1", "accept of rank 3 kind 2",
	} {
		if count[what] < 200 {
			t.Errorf("%s: only %d times, of %v", what, count[what], count)
		}
	}
}
