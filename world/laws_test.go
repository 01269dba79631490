package world_test

import (
	"fmt"
	"math/rand/v2"
	"slices"
	"testing"

	"cicerone/api"
	"cicerone/audit"
	"cicerone/entry"
	"cicerone/rrset"
	"cicerone/world"
)

// pair is a world and the second one, which do the same steps, and how often what came about.
type pair struct {
	*testing.T
	d     drawing
	w     *world.World
	p     *plain
	kinds []int
	count map[string]int
	// keeps is what the crash may not have taken away, down tells that there was one and no start yet.
	keeps []api.Set
	down  bool
}

// paired is two worlds of a tree.
func (d drawing) paired(t *testing.T, x api.Tree, room, most int, count map[string]int) *pair {
	t.Helper()
	return &pair{T: t, d: d, w: sized(t, x, room, most), p: plainly(x, room, most), count: count}
}

// drawnStep is a step that may be of use now.
func (p *pair) drawnStep() api.Step {
	d := p.d
	if !p.w.Runs() && d.IntN(3) > 0 {
		return start
	}
	streams := []int(nil)
	if p.p.runs {
		streams = p.p.front.Streams()
	}
	switch n := d.IntN(100); {
	case n < 6 || len(streams) == 0 && n < 60:
		return step(api.StepOpen, one(d, 1, 1, 2, 2, 2, 1, 1, 3))
	case n < 40 && len(streams) > 0:
		s := one(d, streams...)
		return come(s, d.bytes(p.p.tree, p.kinds[s-1]))
	case n < 42:
		return step(api.StepEnd, 1+d.IntN(8))
	case n < 60:
		return step(api.StepServe, p.conn())
	case n < 68 && p.p.runs:
		return d.pushed(p.p.tree, p.p.pool.Open())
	case n < 71:
		return step(api.StepDrop, p.conn())
	case n < 78:
		return step(api.StepTick, one(d, 0, 1, 1, 2, 5, 9, 10, 30, -1))
	case n < 81:
		return api.Step{Kind: api.StepCrash, Tails: d.tails()}
	case n < 83:
		return draws(d.IntN(100), d.IntN(100), int(d.Uint64()), d.IntN(3), d.IntN(3))
	case n < 84:
		return step(api.StepShort, d.IntN(60))
	case n < 86:
		return step(api.StepRoom, one(d, room, room, p.w.Disk().Used()+d.IntN(600)))
	case n < 89:
		return step(api.StepFuse, d.IntN(16))
	case n < 91:
		return step(api.StepCompact, 0)
	case n < 92:
		return step(d.IntN(18)-1, d.IntN(4)-1)
	}
	return step(api.StepSettle, one(d, 0, 1, 1, 1, 2, 5))
}

// conn is mostly one that is there.
func (p *pair) conn() int {
	if l := p.w.Conns(); len(l) > 0 && p.d.IntN(10) > 0 {
		return one(p.d, l...)
	}
	return p.d.IntN(4)
}

// do does a step in both worlds, and compares them.
func (p *pair) do(s api.Step) {
	p.Helper()
	keeps := p.p.kept()
	got, want := p.w.Do(s), p.p.step(s)
	if got != want {
		p.Fatalf("Do(%v) is %d, not %d", s, got, want)
	}
	if x, y := all(p.w), p.p.all(); x != y {
		p.Fatalf("behind %v the world is\n%s, not\n%s", s, x, y)
	}
	if !p.p.bound() || p.w.Disk().Used() > room {
		p.Fatalf("behind %v there is too much", s)
	}
	if got == api.OK && s.Kind == api.StepOpen {
		p.kinds = append(p.kinds, s.N)
	}
	p.crashed(s, got, keeps)
	p.takes()
	p.count[fmt.Sprint("step ", s.Kind, ", ", got == api.OK)]++
}

// crashed asks for P2: behind a crash the store opens, has what it must keep, and nothing that was not put.
func (p *pair) crashed(s api.Step, e api.Errno, keeps []api.Set) {
	p.Helper()
	if s.Kind == api.StepCrash {
		p.kinds = nil
		if !p.down {
			p.keeps, p.down = keeps, true
		}
	}
	if s.Kind != api.StepStart || !p.down {
		return
	}
	if e != api.OK {
		// A fuse may have been set since.
		if e != api.ErrDead {
			p.Fatalf("behind a crash StepStart is %d", e)
		}
		return
	}
	p.down = false
	sets := p.w.Store().Sets()
	for _, s := range p.keeps {
		if rrset.Fresh(s, p.w.Now()) && !slices.ContainsFunc(sets, func(x api.Set) bool { return entry.Same(s, x) }) && p.p.most == most {
			p.Fatalf("behind a crash there is no more %v", s)
		}
		p.count["kept"]++
	}
	for _, s := range sets {
		if !slices.ContainsFunc(p.w.Accepts(), func(a api.Accept) bool { return entry.Same(a.Set, s) }) {
			p.Fatalf("behind a crash there is %v", s)
		}
	}
}

// takes compares what goes to some clients.
func (p *pair) takes() {
	p.Helper()
	for i := range p.kinds {
		if !p.p.runs || p.d.IntN(4) > 0 {
			continue
		}
		got := p.w.Out(i + 1)
		want, _ := p.p.front.Take(i + 1)
		if string(got) != string(want) {
			p.Fatalf("to stream %d goes %q, not %q", i+1, got, want)
		}
		if len(got) > 0 {
			p.count["taken"]++
		}
	}
}

// P23.1 to P23.3, P1, P2, P3, P5: drawn scripts, held against the second world, and audited.
func TestDrawn(t *testing.T) {
	d := drawing{rand.New(rand.NewPCG(23, 1))}
	count := map[string]int{}
	for range 250 {
		x := d.tree(one(d, 20, 100, 1000))
		if d.IntN(3) == 0 {
			d.spoil(&x)
		}
		p := d.paired(t, x, one(d, room, room, 3000), one(d, most, most, most, 600), count)
		for range 80 {
			p.do(p.drawnStep())
		}
		l, a := p.w.Journal(), p.w.Accepts()
		if !audit.Paired(l) || !audit.Backed(l, a) {
			t.Fatalf("the journal is %v, of %v", l, a)
		}
		for _, e := range l {
			count[fmt.Sprint("reply ", e.Reply, ", code ", e.Message.Code)]++
		}
		if p.w.Runs() && p.w.Store().Memory() {
			count["memory"]++
		}
	}
	for kind := 1; kind <= 15; kind++ {
		for _, ok := range []bool{true, false} {
			what := fmt.Sprint("step ", kind, ", ", ok)
			if kind != api.StepCrash && kind != api.StepDraws && count[what] < 1 || ok && count[what] < 50 {
				t.Errorf("%s: only %d times, of %v", what, count[what], count)
			}
		}
	}
	for _, what := range []string{"taken", "kept", "memory", "reply true, code 0", "reply true, code 2", "reply true, code 3", "reply true, code 4", "reply true, code 5"} {
		if count[what] < 50 {
			t.Errorf("%s: only %d times, of %v", what, count[what], count)
		}
	}
}
