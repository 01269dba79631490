package world_test

import (
	"fmt"
	"slices"

	"cicerone/api"
	"cicerone/entry"
	"cicerone/files"
	"cicerone/front"
	"cicerone/iterate"
	"cicerone/net"
	"cicerone/pool"
	"cicerone/rate"
	"cicerone/store"
	"cicerone/upstream"
	"cicerone/zone"
)

// plain is a second world, by the chapter's words: tickets stand in a list of their own, and the journals of fronts ahead are kept as they were.
type plain struct {
	tree      api.Tree
	servers   *upstream.Servers
	disk      *files.Disk
	most, now int
	draws     []int
	runs      bool
	store     *store.Store
	front     *front.Front
	net       *net.Net
	pool      *pool.Pool
	table     *rate.Table
	tasks     []*iterate.Task
	tickets   []ticket
	journal   []api.Event
	accepts   []api.Accept
	sent      int
	// synced is what the store had when it was synced last, with what it puts written.
	synced []api.Set
}

// ticket is one for which a task waits.
type ticket struct {
	number, addr, sent int
	task               *iterate.Task
}

// plainly is one of a tree that may be, on a disk with enough room.
func plainly(x api.Tree, room, most int) *plain {
	p := &plain{tree: x, most: most}
	p.servers, _ = upstream.New(x)
	p.disk, _ = files.New(room)
	if p.do(start) != api.OK {
		panic("no world")
	}
	return p
}

// step is a step, with the work behind it.
func (p *plain) step(s api.Step) api.Errno {
	switch s.Kind {
	case api.StepCrash, api.StepStart, api.StepTick, api.StepShort, api.StepRoom, api.StepFuse, api.StepDraws:
	default:
		if !p.runs {
			return api.ErrArg
		}
	}
	e := p.do(s)
	if e == api.OK && p.runs {
		p.work()
	}
	return e
}

func (p *plain) do(s api.Step) api.Errno {
	switch s.Kind {
	case api.StepOpen:
		_, e := p.front.Open(s.N)
		return e
	case api.StepEnd:
		return p.front.End(s.N)
	case api.StepBytes:
		l, e := p.front.Feed(s.N, s.Bytes, p.now)
		for _, q := range l {
			if k, e := iterate.New(q, zone.Hints(p.tree)); e != api.OK || len(p.tasks) == 16 {
				p.front.Fail(q, p.now)
			} else {
				p.tasks = append(p.tasks, k)
			}
		}
		return e
	case api.StepServe:
		return p.serve(s.N)
	case api.StepPush:
		if !slices.Contains(p.net.Conns(), s.N) {
			return api.ErrConn
		}
		p.feed(s.N, s.Bytes)
		return api.OK
	case api.StepDrop:
		e := p.net.Drop(s.N)
		if e == api.OK {
			p.lost(p.pool.Ended(s.N))
			p.servers.Forget(s.N)
		}
		return e
	case api.StepTick:
		if s.N < 0 || s.N > 100000 || p.now+s.N > 1<<39 {
			return api.ErrArg
		}
		p.now += s.N
		if p.runs {
			p.lost(p.pool.Tick(p.now))
		}
		return api.OK
	case api.StepCrash:
		p.disk.Crash(s.Tails)
		if p.runs {
			p.journal = append(p.journal, p.front.Journal()...)
		}
		p.runs, p.store, p.front, p.net, p.pool, p.table, p.tasks, p.tickets = false, nil, nil, nil, nil, nil, nil, nil
		// Connections are gone, so nothing that came on them is left.
		p.servers, _ = upstream.New(p.tree)
		return api.OK
	case api.StepStart:
		return p.start()
	case api.StepShort:
		return p.disk.Short(s.N)
	case api.StepRoom:
		return p.disk.Room(s.N)
	case api.StepFuse:
		return p.disk.Fuse(s.N)
	case api.StepDraws:
		p.draws = slices.Concat(p.draws, s.Draws)
		return api.OK
	case api.StepSettle:
		if s.N < 0 || s.N > 200 {
			return api.ErrArg
		}
		for range s.N {
			for _, conn := range p.net.Conns() {
				p.serve(conn)
			}
			p.work()
		}
		return api.OK
	case api.StepCompact:
		return p.store.Compact(p.now)
	}
	return api.ErrArg
}

func (p *plain) start() api.Errno {
	if p.runs {
		return api.ErrArg
	}
	s, e := store.Open(p.disk, p.now, p.most)
	if e != api.OK {
		return e
	}
	p.runs, p.store, p.front, p.net, p.table = true, s, front.New(), net.New(), rate.New()
	p.pool, _ = pool.New(p.net)
	p.synced = p.store.Sets()
	return api.OK
}

func (p *plain) serve(conn int) api.Errno {
	b, e := p.net.Take(conn)
	if e != api.OK {
		return e
	}
	addr, _ := p.net.Addr(conn)
	out, e := p.servers.Feed(conn, addr, b)
	if e != api.OK {
		p.do(step(api.StepDrop, conn))
		return api.ErrConn
	}
	p.feed(conn, out)
	return api.OK
}

func (p *plain) feed(conn int, b []byte) {
	for _, r := range p.pool.Feed(conn, b, p.now) {
		k := p.take(r.Ticket)
		p.table.Answered(k.addr, p.now-k.sent)
		p.accepts = append(p.accepts, k.task.Hear(p.store, r.Message, p.now)...)
	}
}

func (p *plain) lost(l []int) {
	for _, number := range l {
		k := p.take(number)
		p.table.Failed(k.addr)
		k.task.Lost()
	}
}

// take takes a ticket out.
func (p *plain) take(number int) ticket {
	at := slices.IndexFunc(p.tickets, func(k ticket) bool { return k.number == number })
	k := p.tickets[at]
	p.tickets = slices.Delete(p.tickets, at, at+1)
	return k
}

func (p *plain) draw() int {
	if len(p.draws) == 0 {
		return 0
	}
	d := p.draws[0]
	p.draws = p.draws[1:]
	return d
}

func (p *plain) work() {
	for _, k := range slices.Clone(p.tasks) {
		for !slices.ContainsFunc(p.tickets, func(x ticket) bool { return x.task == k }) {
			w := k.Next(p.store, p.table, p.draw(), p.now)
			if w.Kind != api.WantAsk {
				if w.Kind == api.WantDone {
					p.front.Answer(k.Question(), w.Found, p.now)
				} else {
					p.front.Fail(k.Question(), p.now)
				}
				p.tasks = slices.DeleteFunc(p.tasks, func(x *iterate.Task) bool { return x == k })
				break
			}
			if a, e := p.pool.Ask(w.Addr, w.Question, p.draw(), p.now); e == api.OK {
				p.sent++
				p.tickets = append(p.tickets, ticket{a.Ticket, w.Addr, p.now, k})
			} else {
				k.Lost()
			}
		}
	}
	if p.store.Sync() == api.OK && !p.store.Memory() {
		p.synced = p.store.Sets()
	}
}

// all is what the second world tells, as all tells it of the first.
func (p *plain) all() string {
	journal, conns, sets := p.journal, []int(nil), []api.Set(nil)
	if p.runs {
		journal, conns, sets = slices.Concat(p.journal, p.front.Journal()), p.net.Conns(), p.store.Sets()
	}
	return fmt.Sprintf("%d %t %v %v %v %d %d %s %q", p.now, p.runs, journal, p.accepts, conns, len(p.tasks), p.sent, disk(p.disk), fmt.Sprint(sets))
}

// kept is what a crash may not take away: what was synced and is there as it was.
func (p *plain) kept() []api.Set {
	if !p.runs {
		return nil
	}
	now := p.store.Sets()
	return slices.DeleteFunc(slices.Clone(p.synced), func(s api.Set) bool {
		return !slices.ContainsFunc(now, func(x api.Set) bool { return entry.Same(s, x) })
	})
}

// bound tells whether no server has too many connections, and no connection too many questions: P5.
func (p *plain) bound() bool {
	if !p.runs {
		return true
	}
	conns, open := map[int]int{}, map[int]int{}
	for _, conn := range p.net.Conns() {
		addr, _ := p.net.Addr(conn)
		conns[addr]++
	}
	for _, a := range p.pool.Open() {
		open[a.Conn]++
	}
	for _, n := range conns {
		if n > 2 {
			return false
		}
	}
	for _, n := range open {
		if n > 4 {
			return false
		}
	}
	for _, k := range p.tasks {
		if k.Work() > 24 {
			return false
		}
	}
	return len(p.tasks) <= 16
}
