package pool

import (
	"slices"
	"strings"

	"cicerone/api"
	"cicerone/name"
	"cicerone/prefix"
)

// ids is how many IDs there are.
const ids = 1 << 16

// connection is one of the pool's, with what it has read, and what is open on it, by tickets.
type connection struct {
	number, addr int
	reader       *prefix.Reader
	open         []question
}

// ticket is what a reply must show to be a question's on a connection: the ID, and what was asked. Its name has small letters alone, so that two tickets are the same just if they are equal.
type ticket struct {
	id    int
	asked api.Question
}

// ticketOf is the ticket of a message with an ID and a question.
func ticketOf(id int, q api.Question) ticket {
	q.Name = name.Lower(q.Name)
	return ticket{id, q}
}

// question is an open one.
type question struct {
	asked  api.Asked
	ticket ticket
	sent   int
}

// newQuestion is one that is sent now.
func newQuestion(a api.Asked, now int) question {
	o := question{asked: a, ticket: ticketOf(a.ID, a.Question), sent: now}
	// The name that was handed in is not kept.
	o.asked = o.copy()
	return o
}

// copy is what was asked, as new memory.
func (o question) copy() api.Asked {
	a := o.asked
	a.Question.Name = strings.Clone(a.Question.Name)
	return a
}

// late tells whether a question was sent so long ago that it is given up.
func (o question) late(now int) bool {
	// The difference is reckoned without a sign, as that of two times far apart has no room in an int.
	return now >= o.sent && uint64(now)-uint64(o.sent) >= api.Timeout
}

// freeID is the first ID from a draw on that is not open on the connection.
func (c *connection) freeID(draw int) int {
	// A negative draw counts as a number near 2^64.
	id := int(uint64(draw) % ids)
	for slices.ContainsFunc(c.open, func(o question) bool { return o.ticket.id == id }) {
		id = (id + 1) % ids
	}
	return id
}

// answered takes out the question that a message answers: its number, and whether there is one.
func (c *connection) answered(m api.Message) (int, bool) {
	if !m.Response || len(m.Questions) != 1 {
		return 0, false
	}
	shown := ticketOf(m.ID, m.Questions[0])
	at := slices.IndexFunc(c.open, func(o question) bool { return o.ticket == shown })
	if at < 0 {
		return 0, false
	}
	number := c.open[at].asked.Ticket
	c.open = slices.Delete(c.open, at, at+1)
	return number, true
}
