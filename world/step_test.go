package world_test

import (
	"fmt"
	"math"
	"slices"
	"testing"

	"cicerone/api"
	"cicerone/front"
)

// www is a question that com.'s servers answer.
var www = of("www.com.", textType)

// P23.2: kinds that are none, whether it runs or not.
func TestKinds(t *testing.T) {
	w := made(t, tree())
	for range 2 {
		for _, kind := range []int{0, -1, 16, 17, 1 << 32, 1 + 1<<32, math.MinInt, math.MaxInt} {
			for _, n := range []int{0, 1, -1, math.MaxInt} {
				refuses(t, w, step(kind, n), api.ErrArg)
			}
		}
		does(t, w, crash)
	}
}

// P23.2: which steps need a resolver that runs.
func TestStopped(t *testing.T) {
	w := made(t, tree())
	does(t, w, open(1), come(1, framed(query(1, www))), crash)
	if w.Runs() || w.Store() != nil || w.Disk() == nil || len(w.Journal()) != 1 || len(w.Out(1)) != 0 {
		t.Errorf("behind a crash there is %s", all(w))
	}
	is(t, w, 0, 1)
	for _, s := range []api.Step{
		open(1), open(0), come(1, nil), come(1, framed(query(1, www))), step(api.StepEnd, 1), step(api.StepServe, 1), push(1), step(api.StepDrop, 1),
		step(api.StepCompact, 0), step(api.StepSettle, 0), step(api.StepSettle, 1), step(api.StepSettle, -1),
	} {
		refuses(t, w, s, api.ErrArg)
	}
	does(t, w, step(api.StepTick, 5), step(api.StepShort, 1), step(api.StepRoom, 1000), step(api.StepFuse, 10), draws(1), crash, crash, start)
	if !w.Runs() || w.Now() != 5 || w.Store() == nil {
		t.Errorf("behind a start there is %s", all(w))
	}
	refuses(t, w, start, api.ErrArg)
	is(t, w, 0, 1)
}

// P23.2: streams: which kinds there are, how many, what goes on none of them.
func TestStreams(t *testing.T) {
	w := made(t, tree())
	for _, kind := range []int{0, 3, -1, 1 + 1<<32, math.MinInt, math.MaxInt} {
		refuses(t, w, open(kind), api.ErrArg)
	}
	for i := range api.MaxStreams {
		does(t, w, open(1+i%2))
	}
	refuses(t, w, open(3), api.ErrArg)
	refuses(t, w, open(1), api.ErrFull)
	for _, n := range []int{0, -1, 17, math.MinInt, math.MaxInt} {
		refuses(t, w, step(api.StepEnd, n), api.ErrArg)
		refuses(t, w, come(n, framed(query(1, www))), api.ErrArg)
		if len(w.Out(n)) != 0 {
			t.Errorf("something goes to stream %d", n)
		}
	}
	does(t, w, step(api.StepEnd, 3))
	refuses(t, w, step(api.StepEnd, 3), api.ErrArg)
	refuses(t, w, come(3, nil), api.ErrArg)
	does(t, w, open(1))
	refuses(t, w, come(18, nil), api.ErrArg)
	does(t, w, come(17, framed(query(5, www))), step(api.StepSettle, 5))
	told(t, w, 17, [2]int{5, 0})
}

// P23.3: Out is Front.Take: what was taken is gone, and a stream that has ended goes with its last bytes.
func TestOut(t *testing.T) {
	w := made(t, tree())
	does(t, w, open(1), open(2), come(1, framed(query(3, www))), come(2, posted(query(4, www))))
	if len(w.Out(1)) != 0 || len(w.Out(2)) != 0 {
		t.Error("something goes out ahead of an answer")
	}
	does(t, w, step(api.StepSettle, 5))
	told(t, w, 1, [2]int{3, 0})
	told(t, w, 1)
	if got := string(w.Out(2)); len(got) < 50 || got[:15] != "HTTP/1.1 200 OK" {
		t.Errorf("by HTTP goes %q", got)
	}
	does(t, w, come(1, framed(query(7, www))), come(2, []byte("\n")))
	if got := string(w.Out(2)); len(got) < 20 || got[:12] != "HTTP/1.1 400" {
		t.Errorf("by HTTP goes %q", got)
	}
	refuses(t, w, come(2, nil), api.ErrArg)
	told(t, w, 1, [2]int{7, 0})
}

// P23.2: connections that are not there.
func TestNoConnection(t *testing.T) {
	w := made(t, tree())
	for range 2 {
		for _, n := range []int{0, -1, 2, 3, math.MinInt, math.MaxInt} {
			refuses(t, w, step(api.StepServe, n), api.ErrConn)
			refuses(t, w, step(api.StepDrop, n), api.ErrConn)
			refuses(t, w, push(n, answered(0, www, text("www.com.", "x"))), api.ErrConn)
			refuses(t, w, push(n), api.ErrConn)
		}
		does(t, w, open(1), come(1, framed(query(1, www))))
		is(t, w, 1, 1, 1)
	}
}

// P23.2: a server answers what it has, and the task goes on; a step at a time.
func TestServe(t *testing.T) {
	w := made(t, tree())
	does(t, w, open(1), step(api.StepTick, 3), come(1, framed(query(9, of("a.com.", textType)))))
	is(t, w, 1, 1, 1)
	does(t, w, step(api.StepTick, 4), step(api.StepServe, 1))
	is(t, w, 1, 2, 1, 2)
	does(t, w, step(api.StepServe, 1))
	is(t, w, 1, 2, 1, 2)
	told(t, w, 1)
	does(t, w, step(api.StepServe, 2))
	is(t, w, 0, 2, 1, 2)
	l := replies(t, w, 1)
	if len(l) != 1 || l[0].ID != 9 || len(l[0].Answers) != 4 {
		t.Errorf("the reply is %v", l)
	}
	// What was accepted is noted, in order, and stands in the store.
	var names []string
	for _, a := range w.Accepts() {
		if a.At != 7 || a.TTL != 300 || !has(w, a.Set) {
			t.Errorf("accepted was %v", a)
		}
		names = append(names, a.Zone+a.Set.Name+string(rune('0'+a.Set.Type%10)))
	}
	com, root := named("com."), "\x00"
	if want := []string{root + com + "2", root + named("ns.com.") + "1", root + named("two.com.") + "1", com + named("a.com.") + "5", com + named("b.com.") + "5", com + www.Name + "7"}; !slices.Equal(names, want) {
		t.Errorf("accepted were %q, not %q", names, want)
	}
}

// P23.2: bytes that come on a connection: those that answer what is open there, in pieces, too.
func TestPush(t *testing.T) {
	w := made(t, single(atRoot))
	q := of("www.com.", 1)
	does(t, w, open(1), come(1, framed(query(1, q))))
	good := framed(answered(0, q, host("www.com.", 7)))
	for _, m := range []api.Message{answered(1, q, host("www.com.", 8)), answered(0, www, host("www.com.", 8)), with(answered(0, q, host("www.com.", 8)), func(m *api.Message) { m.Response = false }), query(0, q)} {
		does(t, w, push(1, m))
		is(t, w, 1, 1, 1)
	}
	does(t, w, api.Step{Kind: api.StepPush, N: 1, Bytes: good[:20]}, api.Step{Kind: api.StepPush, N: 1}, api.Step{Kind: api.StepPush, N: 1, Bytes: good[20:]})
	is(t, w, 0, 1, 1)
	l := replies(t, w, 1)
	if len(l) != 1 || len(l[0].Answers) != 1 || l[0].Answers[0].Data[3] != 7 {
		t.Errorf("the reply is %v", l)
	}
	if a := w.Accepts(); len(a) != 1 || a[0].Zone != "\x00" {
		t.Errorf("accepted were %v", a)
	}
	// Once more, what is open no more is answered by nothing.
	does(t, w, push(1, answered(0, q, host("www.com.", 9))))
	if len(w.Accepts()) != 1 {
		t.Error("a reply is heard twice")
	}
}

// P23.2: a connection that ends: its tickets are lost, other servers are asked, at once.
func TestDrop(t *testing.T) {
	w := made(t, single(1, 2, 3))
	does(t, w, open(1), come(1, framed(many(0, 2)...)))
	is(t, w, 2, 2, 1)
	does(t, w, step(api.StepDrop, 1))
	is(t, w, 2, 4, 2)
	refuses(t, w, step(api.StepServe, 1), api.ErrConn)
	does(t, w, step(api.StepDrop, 2))
	is(t, w, 2, 6, 3)
	told(t, w, 1)
	does(t, w, step(api.StepDrop, 3))
	is(t, w, 0, 6)
	told(t, w, 1, [2]int{1, 2}, [2]int{2, 2})
	// All have failed as often, so the first one is asked again, on a connection with another number.
	does(t, w, come(1, framed(many(5, 6)...)))
	is(t, w, 1, 7, 4)
}

// P23.2: a server that is nobody's: ErrConn, the connection ends, its tickets are lost, but there is no work; the next step has it.
func TestNobody(t *testing.T) {
	w := made(t, single(nowhere, atRoot))
	does(t, w, open(1), come(1, framed(many(0, 1)...)))
	is(t, w, 1, 1, 1)
	if e := w.Do(step(api.StepServe, 1)); e != api.ErrConn {
		t.Errorf("StepServe is %d", e)
	}
	is(t, w, 1, 1)
	refuses(t, w, step(api.StepServe, 1), api.ErrConn)
	refuses(t, w, step(api.StepTick, -1), api.ErrArg)
	does(t, w, draws())
	is(t, w, 1, 2, 2)
	does(t, w, step(api.StepServe, 2))
	is(t, w, 0, 2, 2)
	told(t, w, 1, [2]int{1, 0})
	// It has failed, so it is not asked again.
	does(t, w, come(1, framed(many(1, 2)...)), step(api.StepServe, 2))
	is(t, w, 0, 3, 2)
	// In a StepSettle the error plays no part.
	w = made(t, single(nowhere, atRoot))
	does(t, w, open(1), come(1, framed(many(0, 1)...)), step(api.StepSettle, 1))
	is(t, w, 1, 2, 2)
	does(t, w, step(api.StepSettle, 1))
	is(t, w, 0, 2, 2)
}

// P23.2: ticks: their range, the last time, and that questions are given up.
func TestTick(t *testing.T) {
	w := made(t, single(1, 2))
	for _, n := range []int{-1, 100001, math.MinInt, math.MaxInt} {
		refuses(t, w, step(api.StepTick, n), api.ErrArg)
	}
	does(t, w, step(api.StepTick, 0), step(api.StepTick, 100000))
	if w.Now() != 100000 {
		t.Errorf("it is %d", w.Now())
	}
	does(t, w, open(1), come(1, framed(many(0, 1)...)), step(api.StepTick, 4), come(1, framed(many(1, 2)...)), step(api.StepTick, 5))
	is(t, w, 2, 2, 1)
	does(t, w, step(api.StepTick, 1))
	// The first one is given up, and asked of the other server.
	is(t, w, 2, 3, 1, 2)
	does(t, w, step(api.StepTick, 4))
	is(t, w, 2, 4, 1, 2)
	does(t, w, step(api.StepTick, 5))
	is(t, w, 2, 4, 1, 2)
	does(t, w, step(api.StepTick, 5))
	is(t, w, 0, 4, 1, 2)
	told(t, w, 1, [2]int{1, 2}, [2]int{1, 2})
	// What comes too late is heard by nobody.
	does(t, w, step(api.StepSettle, 1))
	if len(w.Accepts()) != 0 {
		t.Errorf("accepted were %v", w.Accepts())
	}
}

// P23.2: the clock goes up to 2^39, whether it runs or not.
func TestTickLast(t *testing.T) {
	w := made(t, tree())
	does(t, w, crash)
	const last = 1 << 39
	for w.Now() <= last-100000 {
		if w.Do(step(api.StepTick, 100000)) != api.OK {
			t.Fatal(w.Now())
		}
	}
	does(t, w, start)
	refuses(t, w, step(api.StepTick, last-w.Now()+1), api.ErrArg)
	refuses(t, w, step(api.StepTick, 100000), api.ErrArg)
	does(t, w, step(api.StepTick, last-w.Now()))
	if w.Now() != last {
		t.Errorf("it is %d", w.Now())
	}
	refuses(t, w, step(api.StepTick, 1), api.ErrArg)
	does(t, w, step(api.StepTick, 0), open(1), come(1, framed(query(1, www))), step(api.StepSettle, 5))
	told(t, w, 1, [2]int{1, 0})
	does(t, w, crash)
	refuses(t, w, step(api.StepTick, 1), api.ErrArg)
	does(t, w, start, open(1), come(1, framed(query(2, www))))
	told(t, w, 1, [2]int{2, 0})
}

// P23.2: faults of the disk, of numbers that can't be.
func TestFaultsWrong(t *testing.T) {
	w := made(t, tree())
	for range 2 {
		for _, kind := range []int{api.StepShort, api.StepRoom, api.StepFuse} {
			refuses(t, w, step(kind, -1), api.ErrArg)
			refuses(t, w, step(kind, math.MinInt), api.ErrArg)
		}
		refuses(t, w, step(api.StepRoom, 1<<40+1), api.ErrArg)
		does(t, w, step(api.StepRoom, 1<<40), step(api.StepShort, math.MaxInt), step(api.StepFuse, math.MaxInt), crash)
	}
}

// P23.2: compaction, and that its answer is the step's.
func TestCompact(t *testing.T) {
	w := made(t, tree())
	does(t, w, step(api.StepCompact, 7))
	if l := w.Disk().List(); !slices.Equal(l, []string{"manifest"}) {
		t.Errorf("the disk has %v", l)
	}
	does(t, w, open(1), come(1, framed(query(1, www))), step(api.StepSettle, 5), step(api.StepCompact, -1))
	if l := w.Disk().List(); !slices.Equal(l, []string{"manifest", "s00000003"}) {
		t.Errorf("the disk has %v", l)
	}
	sets := len(w.Store().Sets())
	does(t, w, step(api.StepTick, 300), step(api.StepCompact, 0))
	if l := w.Disk().List(); !slices.Equal(l, []string{"manifest"}) || sets == 0 {
		t.Errorf("the disk has %v, of %d sets", l, sets)
	}
	// On a full disk nothing is moved.
	w = made(t, tree())
	does(t, w, open(1), come(1, framed(query(1, www))), step(api.StepSettle, 5), step(api.StepRoom, w.Disk().Used()))
	refuses(t, w, step(api.StepCompact, 0), api.ErrFull)
	does(t, w, step(api.StepFuse, 1))
	if e := w.Do(step(api.StepCompact, 0)); e != api.ErrDead {
		t.Errorf("StepCompact is %d", e)
	}
}

// P23.2: rounds: their range; each has all servers answer that there are then, and the tasks go on behind all.
func TestSettle(t *testing.T) {
	w := made(t, tree())
	for _, n := range []int{-1, 201, math.MinInt, math.MaxInt} {
		refuses(t, w, step(api.StepSettle, n), api.ErrArg)
	}
	does(t, w, step(api.StepSettle, 0), step(api.StepSettle, 200))
	is(t, w, 0, 0)
	does(t, w, open(1), come(1, framed(query(1, of("out.com.", textType)))), step(api.StepSettle, 0))
	is(t, w, 1, 1, 1)
	// The root, com., the root for net., com. for its server's name, net.
	for i, conns := range [][]int{{1, 2}, {1, 2}, {1, 2}, {1, 2, 3}, {1, 2, 3}} {
		busy, sent := 1, i+2
		if i == 4 {
			busy, sent = 0, 5
		}
		does(t, w, step(api.StepSettle, 1))
		is(t, w, busy, sent, conns...)
	}
	told(t, w, 1, [2]int{1, 0})
	for rounds := range 9 {
		v := made(t, tree())
		does(t, v, open(1), come(1, framed(query(1, of("out.com.", textType)))), step(api.StepSettle, rounds))
		want := 1
		if rounds >= 5 {
			want = 0
		}
		is(t, v, want, min(rounds+1, 5), v.Conns()...)
	}
}

// Within a round no task goes on between two servers: two that wait for two servers go on in their own order.
func TestSettleOrder(t *testing.T) {
	w := made(t, tree())
	does(t, w, open(1), come(1, framed(query(1, www))), step(api.StepSettle, 5))
	// One waits for com., on connection 2; one that began later for the root, on connection 1, behind which com. has its question, too.
	does(t, w, come(1, framed(query(2, of("lost.com.", 1)), query(3, of("to.", 1)))))
	is(t, w, 2, 4, 1, 2)
	does(t, w, step(api.StepSettle, 1))
	is(t, w, 1, 5, 1, 2)
	told(t, w, 1, [2]int{1, 0}, [2]int{2, 3})
	does(t, w, step(api.StepSettle, 1))
	is(t, w, 0, 5, 1, 2)
	told(t, w, 1, [2]int{3, 0})
}

// P23.2: StepStart answers the store's error, and the world does not run then; once that is mended it does.
func TestStartWrong(t *testing.T) {
	w := made(t, tree())
	does(t, w, open(1), come(1, framed(query(1, www))), step(api.StepSettle, 5), crash, step(api.StepFuse, 0))
	refuses(t, w, start, api.ErrDead)
	refuses(t, w, open(1), api.ErrArg)
	does(t, w, crash, start, crash)
	if e := w.Disk().Rename("manifest", "other"); e != api.OK {
		t.Fatal(e)
	}
	refuses(t, w, start, api.ErrLog)
	if e := w.Disk().Rename("other", "manifest"); e != api.OK {
		t.Fatal(e)
	}
	does(t, w, start, open(1), come(1, framed(query(1, www))))
	told(t, w, 1, [2]int{1, 0})
}

// P23.3: the journal is the fronts', one behind the other, with the numbers that each gave.
func TestJournal(t *testing.T) {
	w := made(t, tree())
	f := []*front.Front{front.New(), front.New()}
	for i := range f {
		f[i].Open(api.StreamFrames)
		does(t, w, step(api.StepTick, 3), open(1), come(1, framed(query(7+i, of("www.com.", 252)), query(1, www))))
		f[i].Feed(1, framed(query(7+i, of("www.com.", 252)), query(1, www)), w.Now())
		if i == 0 {
			does(t, w, crash)
			if got, want := fmt.Sprint(w.Journal()), fmt.Sprint(f[0].Journal()); got != want {
				t.Errorf("behind a crash the journal is %s, not %s", got, want)
			}
			does(t, w, start)
		}
	}
	if got, want := fmt.Sprint(w.Journal()), fmt.Sprint(append(f[0].Journal(), f[1].Journal()...)); got != want || len(w.Journal()) != 6 {
		t.Errorf("the journal is %s, not %s", got, want)
	}
}
