package world

import (
	"slices"

	"cicerone/api"
	"cicerone/iterate"
)

// job is a task, and what it waits for.
type job struct {
	*iterate.Task
	// asked has the Ticket 0, which is nobody's, while the task waits for none; sent is when it was asked.
	asked api.Asked
	sent  int
	ended bool
}

// waits tells whether a task waits for a ticket.
func (j *job) waits() bool { return j.asked.Ticket != 0 }

// isOver tells whether a task is no more.
func (j *job) isOver() bool { return j.ended }

// work asks each task that does not wait what it wants, and makes durable what came of it.
func (w *World) work() {
	for _, j := range slices.DeleteFunc(slices.Clone(w.jobs), (*job).waits) {
		w.goOn(j)
	}
	w.jobs = slices.DeleteFunc(w.jobs, (*job).isOver)
	w.store.Sync()
}

// goOn asks a task what it wants, till it waits or is no more.
func (w *World) goOn(j *job) {
	for {
		want := j.Next(w.store, w.table, w.draw(), w.now)
		switch want.Kind {
		case api.WantAsk:
			if w.send(j, want) {
				return
			}
			j.Lost()
		case api.WantDone:
			w.front.Answer(j.Question(), want.Found, w.now)
			j.ended = true
			return
		case api.WantFail:
			w.front.Fail(j.Question(), w.now)
			j.ended = true
			return
		default:
			// Somebody has taken the store away.
			return
		}
	}
}

// send sends what a task asks, and tells whether that could be done.
func (w *World) send(j *job, want api.Want) bool {
	asked, e := w.pool.Ask(want.Addr, want.Question, w.draw(), w.now)
	if failed(e) {
		return false
	}
	j.asked, j.sent = asked, w.now
	w.sent++
	return true
}

// draw is the next one.
func (w *World) draw() int {
	if len(w.draws) == 0 {
		return 0
	}
	next := w.draws[0]
	w.draws = w.draws[1:]
	return next
}

// hear takes a server's bytes, and has the tasks hear what they answer.
func (w *World) hear(conn int, b []byte) {
	for _, reply := range w.pool.Feed(conn, b, w.now) {
		j := w.waitsFor(reply.Ticket)
		w.table.Answered(j.asked.Addr, w.now-j.sent)
		w.accepts = append(w.accepts, j.Hear(w.store, reply.Message, w.now)...)
		j.asked = api.Asked{}
	}
}

// lose has tickets be lost.
func (w *World) lose(tickets []int) {
	for _, ticket := range tickets {
		j := w.waitsFor(ticket)
		w.table.Failed(j.asked.Addr)
		j.Lost()
		j.asked = api.Asked{}
	}
}

// waitsFor is the task that waits for a ticket: of each that is open there is one.
func (w *World) waitsFor(ticket int) *job {
	at := slices.IndexFunc(w.jobs, func(j *job) bool { return j.asked.Ticket == ticket })
	return w.jobs[at]
}
