package world_test

import (
	"math"
	"testing"

	"cicerone/api"
	"cicerone/store"
	"cicerone/world"
)

// refusesNew asks for an error of New.
func refusesNew(t *testing.T, what string, x api.Tree, room, most int, want api.Errno) {
	t.Helper()
	if w, e := world.New(x, room, most); w != nil || e != want {
		t.Errorf("%s: New is %v, %d, not %d", what, w, e, want)
	}
}

// P23.1: trees that may not be, rooms and bytes out of their range, a disk without room.
func TestNewWrong(t *testing.T) {
	for what, change := range map[string]func(x *api.Tree){
		"no zones":             func(x *api.Tree) { *x = api.Tree{} },
		"no root":              func(x *api.Tree) { x.Zones, x.Servers = x.Zones[1:], nil },
		"no SOA":               func(x *api.Tree) { x.Zones[1].RRs = x.Zones[1].RRs[1:] },
		"a cut without a zone": func(x *api.Tree) { x.Zones[0].RRs = append(x.Zones[0].RRs, ns("org.", "r.")) },
		"an address twice":     func(x *api.Tree) { x.Servers[1].Addr = atRoot },
		"too many servers":     func(x *api.Tree) { x.Servers = make([]api.Server, 41) },
	} {
		refusesNew(t, what, with(tree(), change), room, most, api.ErrArg)
		refusesNew(t, what+", all else wrong, too", with(tree(), change), -1, -1, api.ErrArg)
		refusesNew(t, what+", no room", with(tree(), change), 0, most, api.ErrArg)
	}
	for _, n := range []int{-1, 1<<40 + 1, math.MinInt, math.MaxInt} {
		refusesNew(t, "room", tree(), n, most, api.ErrArg)
		refusesNew(t, "most", tree(), room, n, api.ErrArg)
		refusesNew(t, "most, no room", tree(), 0, n, api.ErrArg)
	}
	// The manifest of one segment has 48 bytes.
	for _, n := range []int{0, 1, 47} {
		refusesNew(t, "no room", tree(), n, most, api.ErrFull)
	}
}

// P23.1, P23.3: a new world runs, and has nothing yet.
func TestNew(t *testing.T) {
	for _, n := range []int{48, 49, room, 1 << 40} {
		for _, m := range []int{0, 1, most, 1 << 40} {
			w := sized(t, tree(), n, m)
			if !w.Runs() || w.Now() != 0 || len(w.Journal()) != 0 || len(w.Accepts()) != 0 || len(w.Store().Sets()) != 0 || w.Store().Memory() {
				t.Errorf("a new world is %s", all(w))
			}
			is(t, w, 0, 0)
			if l := w.Disk().List(); len(l) != 1 || l[0] != "manifest" || w.Disk().Synced("manifest") != 48 {
				t.Errorf("a new world's disk has %s", disk(w.Disk()))
			}
			if len(w.Out(0)) != 0 || len(w.Out(1)) != 0 {
				t.Error("something goes out")
			}
		}
	}
}

// Objects: a nil world, and ones that no call made.
func TestNoWorld(t *testing.T) {
	gone := made(t, tree())
	does(t, gone, open(1), come(1, framed(query(1, of("www.com.", 1)))))
	*gone = world.World{}
	for _, w := range []*world.World{nil, {}, new(world.World), gone} {
		for kind := -1; kind < 18; kind++ {
			for _, n := range []int{-1, 0, 1, math.MinInt, math.MaxInt} {
				if e := w.Do(api.Step{Kind: kind, N: n, Bytes: []byte{1}, Tails: []api.Tail{{Name: "x"}}, Draws: []int{1}}); e != api.ErrNil {
					t.Errorf("Do of kind %d is %d", kind, e)
				}
			}
		}
		if w.Now() != 0 || w.Runs() || w.Journal() != nil || w.Accepts() != nil || w.Store() != nil || w.Disk() != nil || w.Out(1) != nil {
			t.Error("a world that no call made tells something")
		}
		is(t, w, 0, 0)
	}
}

// Objects: a world whose store or disk somebody has taken away goes on as well as it can.
func TestTaken(t *testing.T) {
	steps := func(w *world.World) {
		for _, s := range []api.Step{open(1), come(1, framed(many(0, 3)...)), step(api.StepServe, 1), step(api.StepSettle, 3), step(api.StepTick, 20), step(api.StepCompact, 0), step(api.StepDrop, 2), crash, start, open(1), come(1, framed(many(0, 3)...)), step(api.StepSettle, 3), step(api.StepShort, 1), crash, crash, start} {
			w.Do(s)
			w.Out(1)
		}
		all(w)
	}
	for range 2 {
		w := made(t, single(atRoot, nowhere))
		*w.Store() = store.Store{}
		steps(w)
		w = made(t, single(atRoot, nowhere))
		does(t, w, open(1), come(1, framed(many(0, 5)...)))
		*w.Store() = store.Store{}
		steps(w)
		w = made(t, single(atRoot, nowhere))
		w.Disk().Crash(nil)
		for _, n := range w.Disk().List() {
			w.Disk().Remove(n)
		}
		steps(w)
		w = made(t, single(atRoot, nowhere))
		does(t, w, open(1), come(1, framed(many(0, 5)...)))
		*w.Disk() = *made(t, tree()).Disk().Copy()
		steps(w)
	}
}

// From arguments alone: two worlds know nothing of one another.
func TestTwoWorlds(t *testing.T) {
	v, w := made(t, tree()), made(t, tree())
	does(t, v, open(1), come(1, framed(query(1, of("www.com.", textType)))), step(api.StepSettle, 5), step(api.StepTick, 7), draws(1, 2, 3))
	fresh := all(made(t, tree()))
	if now := all(w); now != fresh {
		t.Errorf("with another world one has become %s, not %s", now, fresh)
	}
	does(t, w, open(1), come(1, framed(query(1, of("www.com.", textType)))), step(api.StepSettle, 5), step(api.StepTick, 7))
	if a, b := all(v), all(w); a != b {
		t.Errorf("two worlds are %s and %s", a, b)
	}
}
