package world_test

import (
	"math"
	"slices"
	"testing"

	"cicerone/api"
	"cicerone/world"
)

// Work: each Next takes a draw, which chooses a server, and so does each Ask, for its ID.
func TestDraws(t *testing.T) {
	x := single(1, 2, nowhere)
	q := of(numbered(0), textType)
	for _, c := range []struct {
		draws  []int
		nobody bool
		id     int
	}{
		{nil, false, 0}, {[]int{0}, false, 0}, {[]int{1, 777}, false, 777}, {[]int{2, 777}, true, 777}, {[]int{3, 65535}, false, 65535}, {[]int{0, 65536}, false, 0}, {[]int{0, -1}, false, 65535},
		// 2^64 - 1 is 0 by 3, 2^64 - 2 is 2.
		{[]int{-1, 65537}, false, 1}, {[]int{-2, 5}, true, 5}, {[]int{math.MaxInt, math.MinInt}, false, 0},
	} {
		w := made(t, x)
		does(t, w, draws(c.draws...), open(1), come(1, framed(query(1, q))))
		is(t, w, 1, 1, 1)
		for _, id := range []int{c.id - 1, c.id + 1, c.id + 300} {
			does(t, w, push(1, answered(id&0xffff, q, text(numbered(0), "y"))))
		}
		is(t, w, 1, 1, 1)
		if e := w.Do(step(api.StepServe, 1)); (e == api.ErrConn) != c.nobody {
			t.Errorf("with %v StepServe is %d", c.draws, e)
		}
	}
}

// asks has a client ask the first question that was not asked yet, and wants to see which ID the query has: that alone answers it.
func asks(t *testing.T, w *world.World, i, conn, id int) {
	t.Helper()
	q := of(numbered(i), textType)
	does(t, w, come(1, framed(query(i, q))))
	busy := w.Busy()
	does(t, w, push(conn, answered(id, q, text(numbered(i), "y"))))
	if w.Busy() != busy-1 {
		t.Errorf("question %d does not have the ID %d", i, id)
	}
}

// Work: draws come behind those that are left; one that is done takes one, too, and behind the last one 0 is drawn, also behind a crash.
func TestDrawsLeft(t *testing.T) {
	w := made(t, single(1))
	handed := append(make([]int, 0, 5), 0, 100)
	does(t, w, open(1), draws(handed...), draws(), draws(0, 0, 200))
	clear(handed)
	// A Next, an Ask, then the Next that is done.
	asks(t, w, 1, 1, 100)
	asks(t, w, 2, 1, 200)
	asks(t, w, 3, 1, 0)
	does(t, w, draws(0, 300, 0, 0, 400, 0, 0), crash, draws(500, 7), start, open(1))
	asks(t, w, 4, 1, 300)
	asks(t, w, 5, 1, 400)
	asks(t, w, 6, 1, 500)
	// The 7 was taken by the Next that was done.
	asks(t, w, 7, 1, 0)
}

// Work: questions are asked in the order in which the tasks began; what the pool refuses is lost, and asked of others.
func TestBusy(t *testing.T) {
	// 16 questions for one server: 8 have room on two connections, the others fail at once.
	w := made(t, single(1))
	does(t, w, open(1), come(1, framed(many(0, 16)...)))
	is(t, w, 8, 8, 1, 2)
	var failed [][2]int
	for id := 9; id <= 16; id++ {
		failed = append(failed, [2]int{id, api.CodeServer})
	}
	told(t, w, 1, failed...)
	does(t, w, step(api.StepServe, 2))
	is(t, w, 4, 8, 1, 2)
	told(t, w, 1, [2]int{5, 0}, [2]int{6, 0}, [2]int{7, 0}, [2]int{8, 0})
	does(t, w, step(api.StepServe, 1))
	is(t, w, 0, 8, 1, 2)
	told(t, w, 1, [2]int{1, 0}, [2]int{2, 0}, [2]int{3, 0}, [2]int{4, 0})
	// With two servers all have room: what the first has none for the second one is asked. It takes draws all the same: of a Next, an Ask, a Next and an Ask.
	w = made(t, single(1, 2))
	does(t, w, open(1), come(1, framed(many(0, 16)...)))
	is(t, w, 16, 16, 1, 2, 3, 4)
	told(t, w, 1)
	does(t, w, step(api.StepSettle, 1))
	is(t, w, 0, 16, 1, 2, 3, 4)
	w = made(t, single(1, 2))
	does(t, w, open(1), come(1, framed(many(0, 8)...)), draws(0, 7, 0, 99))
	asks(t, w, 8, 3, 99)
}

// Work: a task whose queries nobody waits for any more goes on; there are MaxTasks at most.
func TestMaxTasks(t *testing.T) {
	w := made(t, single(1, 2, 3))
	does(t, w, open(1), open(1), come(1, framed(many(0, 16)...)))
	is(t, w, 16, 16, 1, 2, 3, 4)
	does(t, w, come(2, framed(query(1, of(numbered(16), textType)))))
	told(t, w, 2, [2]int{1, api.CodeServer})
	// Nobody waits now, but the tasks are there.
	does(t, w, step(api.StepEnd, 1), come(2, framed(query(2, of(numbered(16), textType)), query(3, of(numbered(0), textType)))))
	is(t, w, 16, 16, 1, 2, 3, 4)
	told(t, w, 2, [2]int{2, api.CodeServer}, [2]int{3, api.CodeServer})
	does(t, w, step(api.StepServe, 1), come(2, framed(query(4, of(numbered(15), textType)), query(5, of(numbered(0), textType)))))
	// Four are done; two are begun, of which one is answered at once.
	is(t, w, 13, 17, 1, 2, 3, 4)
	told(t, w, 2, [2]int{5, 0})
	does(t, w, step(api.StepSettle, 1))
	is(t, w, 0, 17, 1, 2, 3, 4)
	told(t, w, 2, [2]int{4, 0})
	if l := w.Journal(); len(l) != 16+2*5 {
		t.Errorf("the journal has %d lines", len(l))
	}
}

// Work: a question that is asked again while a task of those who have gone goes on: each has a task, the first that is done answers.
func TestGone(t *testing.T) {
	w := made(t, single(1))
	does(t, w, open(1), open(1), come(1, framed(many(0, 1)...)), step(api.StepEnd, 1), come(2, framed(many(0, 1)...)))
	is(t, w, 2, 2, 1)
	does(t, w, push(1, answered(0, of(numbered(0), textType), text(numbered(0), "first"))))
	is(t, w, 1, 2, 1)
	l := replies(t, w, 2)
	if len(l) != 1 || string(l[0].Answers[0].Data) != "first" {
		t.Errorf("the reply is %v", l)
	}
	does(t, w, step(api.StepSettle, 1))
	is(t, w, 0, 2, 1)
	told(t, w, 2)
}

// Work: the store is synced behind each step that leaves the world running, once for all tasks; an error has no work.
func TestSync(t *testing.T) {
	w := made(t, single(1))
	does(t, w, open(1), come(1, framed(many(0, 1)...)), step(api.StepSettle, 1))
	d := w.Disk()
	b, e := d.Read("s00000001")
	if e != api.OK || len(b) == 0 || d.Synced("s00000001") != len(b) {
		t.Fatalf("synced are %d of %d bytes", d.Synced("s00000001"), len(b))
	}
	// StepFuse is a step itself, and its own work makes the first change.
	does(t, w, step(api.StepFuse, 1000))
	syncs := func(want int, s api.Step) {
		t.Helper()
		was := left(d)
		w.Do(s)
		if made := was - left(d); made != want {
			t.Errorf("with %v there were %d changes, not %d", s, made, want)
		}
	}
	if n := left(d); n != 999 {
		t.Errorf("behind a fuse of 1000 there are %d changes left", n)
	}
	for _, s := range []api.Step{open(1), come(1, nil), come(1, framed(many(1, 9)...)), step(api.StepTick, 1), step(api.StepShort, 5000), step(api.StepRoom, room), draws(), step(api.StepEnd, 2), step(api.StepSettle, 0), {Kind: api.StepPush, N: 1}} {
		syncs(1, s)
	}
	// Of the eight questions four are answered on each connection, whose sets are written.
	syncs(4+1, step(api.StepServe, 1))
	syncs(1, step(api.StepServe, 1))
	syncs(1, step(api.StepDrop, 1))
	syncs(4+1, step(api.StepServe, 2))
	// Each round has work, and the step has it, too.
	syncs(5+1, step(api.StepSettle, 5))
	for _, s := range []api.Step{open(9), come(9, nil), step(api.StepServe, 9), push(9), step(api.StepDrop, 9), step(api.StepTick, -1), step(api.StepSettle, -1), step(api.StepSettle, 201), step(api.StepFuse, -1), start, step(0, 0)} {
		syncs(0, s)
	}
	does(t, w, crash, step(api.StepFuse, 1000))
	syncs(0, step(api.StepTick, 1))
	syncs(0, draws())
}

// Work: what can't be synced plays no part.
func TestSyncDead(t *testing.T) {
	w := made(t, tree())
	does(t, w, open(1), come(1, framed(query(1, www))), step(api.StepSettle, 5), step(api.StepFuse, 0))
	for i := range 3 {
		does(t, w, come(1, framed(query(i, of("lost.com.", 1)))), step(api.StepSettle, 5), step(api.StepTick, 1))
	}
	told(t, w, 1, [2]int{1, 0}, [2]int{0, 3}, [2]int{1, 3}, [2]int{2, 3})
	if !w.Store().Memory() {
		t.Error("the store still writes")
	}
}

// Tickets: an answer counts with its ticks, a loss as a failure: the next question goes to the best server.
func TestRates(t *testing.T) {
	w := made(t, single(1, 2))
	// asked tells which server is asked on a new connection: nothing is open there, so its number alone tells.
	asked := func(i int, conn int) {
		t.Helper()
		was := w.Sent()
		does(t, w, come(1, framed(many(i, i+1)...)))
		if w.Sent() != was+1 {
			t.Fatalf("%d were sent, not %d", w.Sent(), was+1)
		}
		does(t, w, push(conn, answered(0, of(numbered(i), textType), text(numbered(i), "y"))))
		if w.Busy() != 0 {
			t.Errorf("question %d is not asked on connection %d", i, conn)
		}
		does(t, w, step(api.StepServe, conn))
	}
	does(t, w, open(1))
	asked(0, 1)
	// An answer of 5 ticks: now the second one is better.
	does(t, w, come(1, framed(many(1, 2)...)), step(api.StepTick, 5), step(api.StepServe, 1))
	asked(2, 2)
	// One of 6 ticks: the first one is better again.
	does(t, w, come(1, framed(many(3, 4)...)), step(api.StepTick, 6), step(api.StepServe, 2))
	asked(4, 1)
	// It is given up: the second one is, however slow.
	does(t, w, come(1, framed(many(5, 6)...)), step(api.StepTick, 10), step(api.StepServe, 2), step(api.StepServe, 1))
	asked(6, 2)
	// The rates are gone with a crash.
	does(t, w, crash, start, open(1))
	asked(7, 1)
}

// P23.2: what is asked is told once, for all who wait; types and classes that are nobody's begin no task.
func TestQuestions(t *testing.T) {
	w := made(t, single(1))
	q := many(0, 1)[0]
	not := with(query(7, of("x.", 1)), func(m *api.Message) { m.Opcode = 2 })
	does(t, w, open(1), open(1), come(1, framed(q, q, query(3, of("a.", 255)), not, api.Message{}, with(query(8, of("x.", 1)), func(m *api.Message) { m.Questions[0].Class = 3 }))))
	is(t, w, 1, 1, 1)
	does(t, w, come(2, framed(with(q, func(m *api.Message) { m.ID = 5 }))), step(api.StepSettle, 1))
	is(t, w, 0, 1, 1)
	told(t, w, 1, [2]int{3, 4}, [2]int{7, 4}, [2]int{0, 1}, [2]int{8, 5}, [2]int{1, 0}, [2]int{1, 0})
	told(t, w, 2, [2]int{5, 0})
	// A stream that is refused has its questions begin no task.
	does(t, w, come(1, append(framed(many(1, 3)...), 0, 1, 2)))
	is(t, w, 0, 1, 1)
}

// P23.2: StepServe has the server of its connection answer, with what it has only.
func TestServers(t *testing.T) {
	// com.'s second server alone has sub.com., too.
	w := made(t, tree())
	does(t, w, draws(0, 0, 1), open(1), come(1, framed(query(1, of("www.sub.com.", textType)))), step(api.StepSettle, 2))
	is(t, w, 0, 2, 1, 2)
	told(t, w, 1, [2]int{1, 0})
	w = made(t, tree())
	does(t, w, open(1), come(1, framed(query(1, of("www.sub.com.", textType)))), step(api.StepSettle, 3))
	is(t, w, 0, 3, 1, 2, 3)
	told(t, w, 1, [2]int{1, 0})
	// One that serves nothing refuses, and another one is asked.
	lame := tree()
	lame.Zones[0].RRs[4], lame.Zones[1].RRs[3] = host("ns.com.", ofNone), host("ns.com.", ofNone)
	w = made(t, lame)
	does(t, w, open(1), come(1, framed(query(1, www))), step(api.StepSettle, 3))
	is(t, w, 0, 3, 1, 2, 3)
	told(t, w, 1, [2]int{1, 0})
	if slices.ContainsFunc(w.Accepts(), func(a api.Accept) bool { return a.TTL != 300 || a.At != 0 }) {
		t.Errorf("accepted were %v", w.Accepts())
	}
}
