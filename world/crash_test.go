package world_test

import (
	"fmt"
	"math"
	"math/rand/v2"
	"slices"
	"testing"

	"cicerone/api"
	"cicerone/audit"
)

// tails are what crashes keep of the unsynced bytes: nothing, all, or some, with the last bit turned.
func tails() map[string][]api.Tail {
	l := map[string][]api.Tail{"nothing": nil}
	for what, tail := range map[string]api.Tail{"all": {Keep: math.MaxInt}, "all, turned": {Keep: math.MaxInt, Turn: true}, "some": {Keep: 45}, "some, turned": {Keep: 90, Turn: true}} {
		for _, n := range []string{"manifest", "manifest.new", "s00000001", "s00000002", "s00000003", "s00000004"} {
			l[what] = append(l[what], with(tail, func(t *api.Tail) { t.Name = n }))
		}
	}
	return l
}

// toFill is steps that put sets of all kinds, take some away, and begin further segments.
func toFill() []api.Step {
	long := of(numbered(0), textType)
	big := answered(0, long)
	for i := range 15 {
		big.Answers = append(big.Answers, text(numbered(0), fmt.Sprint(i, string(make([]byte, 200)))))
	}
	return []api.Step{
		come(1, framed(query(1, of("a.com.", textType)), query(2, of("text.", textType)))), step(api.StepSettle, 3),
		come(1, framed(query(3, long))), push(1, big),
		come(1, framed(query(4, of("x.www.com.", 1)), query(5, of("www.sub.com.", textType)))), step(api.StepSettle, 3),
		step(api.StepTick, 70), come(1, framed(query(6, of("x.www.com.", 1)))), push(2, answered(0, of("x.www.com.", 1), host("x.www.com.", 9))),
		come(1, framed(query(7, of(numbered(1), textType)))), push(1, with(answered(0, of(numbered(1), textType)), func(m *api.Message) {
			for _, r := range big.Answers {
				r.Name = named(numbered(1))
				m.Answers = append(m.Answers, r)
			}
		})),
		step(api.StepCompact, 0), come(1, framed(query(8, of("lost.com.", 1)))), step(api.StepSettle, 1),
	}
}

// P2: a disk that stops behind each change of a script, a crash that keeps whatever, and a start: it has what was synced, nothing that was not put, and answers truly. Held against the second world at each step.
func TestCrashes(t *testing.T) {
	d := drawing{rand.New(rand.NewPCG(23, 2))}
	whole := 0
	for fuse := 0; fuse <= whole; fuse++ {
		for what, l := range tails() {
			p := d.paired(t, tree(), room, most, map[string]int{})
			p.do(open(1))
			if whole == 0 {
				p.do(step(api.StepFuse, 1<<20))
				for _, s := range toFill() {
					p.do(s)
				}
				whole = 1<<20 - left(p.w.Disk())
				p.do(crash)
				p.do(start)
				p.do(open(1))
			}
			p.do(step(api.StepFuse, fuse))
			for _, s := range toFill() {
				p.do(s)
			}
			p.do(api.Step{Kind: api.StepCrash, Tails: l})
			if fuse%3 == 0 {
				// One crash behind the other.
				p.do(step(api.StepFuse, fuse%5))
				p.do(start)
				p.do(api.Step{Kind: api.StepCrash, Tails: l})
			}
			p.do(start)
			if !p.w.Runs() {
				t.Fatalf("behind a fuse of %d and a crash that keeps %s the store does not open", fuse, what)
			}
			p.do(open(1))
			q := of("a.com.", textType)
			p.do(come(1, framed(query(9, q))))
			p.do(step(api.StepSettle, 5))
			// At the beginning takes goes through the streams, so that here the journal alone is asked.
			j := p.w.Journal()
			if m := j[len(j)-1].Message; m.ID != 9 || !m.Response || !audit.True(tree(), m) || !audit.Paired(j) || !audit.Backed(j, p.w.Accepts()) {
				t.Fatalf("behind a fuse of %d and a crash that keeps %s the reply is %v", fuse, what, m)
			}
		}
	}
	if whole < 30 {
		t.Errorf("there were %d changes alone", whole)
	}
}

// P2: with no fuse, a crash behind each step loses nothing of what is fresh.
func TestCrashBehindStep(t *testing.T) {
	for n := range toFill() {
		for what, l := range tails() {
			w := made(t, tree())
			does(t, w, open(1))
			does(t, w, toFill()[:n+1]...)
			was := w.Store().Sets()
			does(t, w, api.Step{Kind: api.StepCrash, Tails: l}, start)
			now := fmt.Sprint(w.Store().Sets())
			fresh := slices.DeleteFunc(was, func(s api.Set) bool { return s.Expires <= w.Now() })
			if want := fmt.Sprint(fresh); now != want {
				t.Errorf("behind step %d and a crash that keeps %s there is %s, not %s", n, what, now, want)
			}
		}
	}
}

// P2: a disk that fails otherwise: parts alone are written, or there is no room; the resolver goes on all the same.
func TestFull(t *testing.T) {
	for _, fault := range []api.Step{step(api.StepShort, 0), step(api.StepShort, 10), step(api.StepShort, 60), step(api.StepRoom, 48), step(api.StepRoom, 60), step(api.StepRoom, 300), step(api.StepRoom, 5000)} {
		p := drawing{rand.New(rand.NewPCG(23, 3))}.paired(t, tree(), room, most, map[string]int{})
		p.do(open(1))
		p.do(fault)
		for _, s := range toFill() {
			p.do(s)
			if fault.Kind == api.StepRoom && p.w.Disk().Used() > fault.N {
				t.Errorf("with room for %d bytes the disk has %d", fault.N, p.w.Disk().Used())
			}
		}
		codes := map[int]int{}
		for _, e := range p.w.Journal() {
			if e.Reply {
				codes[e.Message.Code]++
			}
		}
		if codes[0] != 6 || codes[api.CodeName] != 2 {
			t.Errorf("with %v the replies are %v", fault, codes)
		}
		if memory := p.w.Store().Memory(); memory != (fault.Kind == api.StepRoom) {
			t.Errorf("with %v Memory is %t", fault, memory)
		}
		p.do(crash)
		p.do(start)
	}
}

// P23.2, P23.3: what a crash leaves: the clock, draws, what was noted, how many were sent; nothing else.
func TestCrashLeaves(t *testing.T) {
	w := made(t, tree())
	does(t, w, open(1), open(2), step(api.StepTick, 4), come(1, framed(query(1, www))), step(api.StepSettle, 2), come(1, framed(query(2, of("out.com.", 1)), query(3, of("x.", 0)))))
	is(t, w, 1, 3, 1, 2)
	journal, accepts := fmt.Sprint(w.Journal()), fmt.Sprint(w.Accepts())
	d := w.Disk()
	does(t, w, crash)
	for range 2 {
		if fmt.Sprint(w.Journal()) != journal || fmt.Sprint(w.Accepts()) != accepts || w.Now() != 4 || w.Disk() != d || len(w.Out(1)) != 0 || len(w.Out(2)) != 0 {
			t.Errorf("a crash leaves %s", all(w))
		}
		is(t, w, 0, 3)
		if !w.Runs() {
			does(t, w, start)
		}
	}
	// No one is told twice, and the numbers begin anew.
	refuses(t, w, come(1, nil), api.ErrArg)
	does(t, w, open(1), step(api.StepSettle, 5))
	told(t, w, 1)
	does(t, w, come(1, framed(query(1, of("out.com.", 1)))))
	is(t, w, 1, 4, 1)
	// Short and Fuse are gone with it.
	does(t, w, step(api.StepShort, 1), step(api.StepFuse, 3), crash, start, open(1), come(1, framed(query(1, of("not.com.", 1)))), step(api.StepSettle, 5))
	told(t, w, 1, [2]int{1, 3})
	if w.Store().Memory() || w.Store().Sync() != api.OK {
		t.Error("the disk still fails")
	}
}
