package world

import (
	"cicerone/api"
	"cicerone/front"
	"cicerone/iterate"
	"cicerone/net"
	"cicerone/pool"
	"cicerone/rate"
	"cicerone/store"
)

// How much a step asks for at most, and the latest time that the clock can tell.
const (
	mostTicks  = 100000
	mostRounds = 200
	latest     = 1 << 39
)

// Do does a step.
func (w *World) Do(s api.Step) api.Errno {
	if !w.made() {
		return api.ErrNil
	}
	e := w.do(s)
	if !failed(e) && w.Runs() {
		w.work()
	}
	return e
}

// do is a step without the work behind it. Those that come first need no resolver that runs.
func (w *World) do(s api.Step) api.Errno {
	switch s.Kind {
	case api.StepTick:
		return w.tick(s.N)
	case api.StepCrash:
		return w.crash(s.Tails)
	case api.StepStart:
		return w.start()
	case api.StepShort:
		return w.disk.Short(s.N)
	case api.StepRoom:
		return w.disk.Room(s.N)
	case api.StepFuse:
		return w.disk.Fuse(s.N)
	case api.StepDraws:
		w.draws = append(w.draws, s.Draws...)
		return api.OK
	}
	if !w.Runs() {
		return api.ErrArg
	}
	return w.doRunning(s)
}

// doRunning is a step of a resolver that runs.
func (w *World) doRunning(s api.Step) api.Errno {
	switch s.Kind {
	case api.StepOpen:
		_, e := w.front.Open(s.N)
		return e
	case api.StepEnd:
		return w.front.End(s.N)
	case api.StepBytes:
		return w.ask(s.N, s.Bytes)
	case api.StepServe:
		return w.serve(s.N)
	case api.StepPush:
		return w.push(s.N, s.Bytes)
	case api.StepDrop:
		return w.drop(s.N)
	case api.StepCompact:
		return w.store.Compact(w.now)
	case api.StepSettle:
		return w.settle(s.N)
	}
	return api.ErrArg
}

// tick has the clock go on.
func (w *World) tick(n int) api.Errno {
	if n < 0 || n > mostTicks || w.now+n > latest {
		return api.ErrArg
	}
	w.now += n
	if w.Runs() {
		w.lose(w.pool.Tick(w.now))
	}
	return api.OK
}

// crash has the disk lose what is not synced, and all that runs be gone.
func (w *World) crash(tails []api.Tail) api.Errno {
	w.disk.Crash(tails)
	if w.Runs() {
		w.stop()
	}
	return api.OK
}

// stop leaves nothing of what runs but the front's journal.
func (w *World) stop() {
	for _, stream := range w.front.Streams() {
		w.front.End(stream)
	}
	if len(w.front.Journal()) > 0 {
		w.past = append(w.past, w.front)
	}
	// The next net gives the same numbers again.
	for _, conn := range w.net.Conns() {
		w.servers.Forget(conn)
	}
	w.running = nil
}

// start has a resolver run on what the disk has.
func (w *World) start() api.Errno {
	if w.Runs() {
		return api.ErrArg
	}
	s, e := store.Open(w.disk, w.now, w.most)
	if failed(e) {
		return e
	}
	n := net.New()
	p, e := pool.New(n)
	if failed(e) {
		return e
	}
	w.running = &running{store: s, front: front.New(), net: n, pool: p, table: rate.New()}
	return api.OK
}

// ask takes a client's bytes, and begins with the questions in them.
func (w *World) ask(stream int, b []byte) api.Errno {
	questions, e := w.front.Feed(stream, b, w.now)
	if failed(e) {
		return e
	}
	for _, q := range questions {
		t, e := iterate.New(q, w.hints)
		if failed(e) || len(w.jobs) >= api.MaxTasks {
			w.front.Fail(q, w.now)
			continue
		}
		w.jobs = append(w.jobs, &job{Task: t})
	}
	return api.OK
}

// serve has a connection's server answer all that was written to it.
func (w *World) serve(conn int) api.Errno {
	b, e := w.net.Take(conn)
	if failed(e) {
		return e
	}
	addr, _ := w.net.Addr(conn)
	answer, e := w.servers.Feed(conn, addr, b)
	if failed(e) {
		w.drop(conn)
		return api.ErrConn
	}
	w.hear(conn, answer)
	return api.OK
}

// push has bytes come on a connection.
func (w *World) push(conn int, b []byte) api.Errno {
	if _, ok := w.net.Addr(conn); !ok {
		return api.ErrConn
	}
	w.hear(conn, b)
	return api.OK
}

// drop ends a connection.
func (w *World) drop(conn int) api.Errno {
	if e := w.net.Drop(conn); failed(e) {
		return e
	}
	w.lose(w.pool.Ended(conn))
	w.servers.Forget(conn)
	return api.OK
}

// settle has all servers answer, so many times.
func (w *World) settle(rounds int) api.Errno {
	if rounds < 0 || rounds > mostRounds {
		return api.ErrArg
	}
	for range rounds {
		for _, conn := range w.net.Conns() {
			w.serve(conn)
		}
		w.work()
	}
	return api.OK
}
