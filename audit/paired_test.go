package audit_test

import (
	"fmt"
	"math"
	"slices"
	"testing"

	"cicerone/api"
	"cicerone/audit"
)

// P24.1, P24.4: journals without replies.
func TestPairedNone(t *testing.T) {
	paired(t, "nil", true)
	if !audit.Paired([]api.Event{}) {
		t.Error("an empty journal is not paired")
	}
	q := came(1, query(1, asked("a.", 1)))
	paired(t, "a query", true, q)
	paired(t, "queries", true, q, q, came(2, query(7, asked("b.", 2))))
	paired(t, "queries that are none", true, came(1, api.Message{}), came(-1, reply(query(1, asked("a.", 1)))))
}

// P24.1: the example, and replies that stand behind their queries, in whatever order.
func TestPaired(t *testing.T) {
	a, b := query(1, asked("a.", 1)), query(2, asked("b.", 1))
	paired(t, "a reply without a query", false, went(1, 0, reply(a)))
	paired(t, "one", true, came(1, a), went(1, 0, reply(a)))
	paired(t, "the reply ahead", false, went(1, 0, reply(a)), came(1, a))
	paired(t, "in order", true, came(1, a), came(1, b), went(1, 0, reply(a)), went(1, 0, reply(b)))
	paired(t, "in the other order", true, came(1, a), came(1, b), went(1, 0, reply(b)), went(1, 0, reply(a)))
	paired(t, "one of two", true, came(1, a), came(1, b), went(1, 0, reply(b)))
	paired(t, "twice", false, came(1, a), went(1, 0, reply(a)), went(1, 0, reply(a)))
	paired(t, "twice, another one open", false, came(1, a), came(1, b), went(1, 0, reply(a)), went(1, 0, reply(a)))
	paired(t, "two that are alike", true, came(1, a), came(1, a), went(1, 0, reply(a)), went(1, 0, reply(a)))
	paired(t, "in turns", true, came(1, a), went(1, 0, reply(a)), came(1, a), went(1, 0, reply(a)))
	paired(t, "two alike, three replies", false, came(1, a), came(1, a), went(1, 0, reply(a)), went(1, 0, reply(a)), went(1, 0, reply(a)))
	paired(t, "the second ahead of its query", false, came(1, a), went(1, 0, reply(a)), went(1, 0, reply(a)), came(1, a))
	paired(t, "two streams", true, came(1, a), came(2, a), went(2, 0, reply(a)), went(1, 0, reply(a)))
	paired(t, "twice on one of two streams", false, came(1, a), came(2, a), went(2, 0, reply(a)), went(2, 0, reply(a)))
	paired(t, "a good one behind a bad one", false, went(1, 0, reply(b)), came(1, a), went(1, 0, reply(a)))
	paired(t, "a bad one last", false, came(1, a), went(1, 0, reply(a)), came(1, b), went(2, 0, reply(b)))
}

// P24.1: what the two must have in common.
func TestPairedCommon(t *testing.T) {
	m := query(0xabcd, asked("www.example.", 1))
	for what, change := range map[string]func(e *api.Event){
		"another stream":        func(e *api.Event) { e.Stream = 2 },
		"another ID":            func(e *api.Event) { e.Message.ID++ },
		"an ID that is too far": func(e *api.Event) { e.Message.ID += 1 << 16 },
		"another Opcode":        func(e *api.Event) { e.Message.Opcode = 1 },
		"another RD":            func(e *api.Event) { e.Message.RD = false },
		"another name":          func(e *api.Event) { e.Message.Questions[0].Name = named("example.") },
		"other letters":         func(e *api.Event) { e.Message.Questions[0].Name = named("wWw.example.") },
		"another Type":          func(e *api.Event) { e.Message.Questions[0].Type = 2 },
		"another Class":         func(e *api.Event) { e.Message.Questions[0].Class = 0 },
		"no question":           func(e *api.Event) { e.Message.Questions = nil },
		"an empty list":         func(e *api.Event) { e.Message.Questions = []api.Question{} },
		"its question twice":    func(e *api.Event) { e.Message.Questions = slices.Repeat(e.Message.Questions, 2) },
		"a question behind":     func(e *api.Event) { e.Message.Questions = append(e.Message.Questions, asked("b.", 1)) },
		"a question ahead of it": func(e *api.Event) {
			e.Message.Questions = append([]api.Question{asked("b.", 1)}, e.Message.Questions...)
		},
	} {
		changed := func(e api.Event) api.Event {
			e.Message.Questions = slices.Clone(e.Message.Questions)
			change(&e)
			return e
		}
		q, r := came(1, m), went(1, 0, reply(m))
		paired(t, what+" in the reply", false, q, changed(r))
		paired(t, what+" in the query", false, changed(q), r)
		paired(t, what+", then the right one", true, changed(q), q, r)
		if x := changed(q); len(x.Message.Questions) == 1 {
			paired(t, what+" in both", true, x, changed(r))
			paired(t, what+" of two", true, q, x, changed(r), r)
		} else {
			paired(t, what+" in both", false, x, changed(r))
		}
	}
}

// P24.1: replies are Responses with RA; queries need not be anything.
func TestPairedBits(t *testing.T) {
	m := query(1, asked("a.", 1))
	for what, change := range map[string]func(m *api.Message){
		"no Response": func(m *api.Message) { m.Response = false },
		"no RA":       func(m *api.Message) { m.RA = false },
		"neither":     func(m *api.Message) { m.Response, m.RA = false, false },
	} {
		paired(t, what, false, came(1, m), went(1, 0, with(reply(m), change)))
		paired(t, what+", a query that is one", false, came(1, reply(m)), went(1, 0, with(reply(m), change)))
	}
	paired(t, "a query that is a Response", true, came(1, reply(m)), went(1, 0, reply(m)))
}

// P24.1: what plays no part: times, AA, TC, codes and sections.
func TestPairedRest(t *testing.T) {
	m := query(1, asked("a.", 1))
	for _, at := range []int{math.MinInt, -1, 0, 5, math.MaxInt} {
		q, r := came(1, m), went(1, 0, reply(m))
		q.At, r.At = at, -(at + 1)
		paired(t, "times", true, q, r)
	}
	other := with(reply(m, host("x.", 1)), func(m *api.Message) {
		m.AA, m.TC, m.Code, m.Authority, m.Additional = true, true, 9, m.Answers, m.Answers
	})
	paired(t, "the rest of the reply", true, came(1, m), went(1, 0, other))
	full := with(m, func(m *api.Message) { m.AA, m.TC, m.RA, m.Code, m.Answers = true, true, true, 5, []api.RR{{}} })
	paired(t, "the rest of the query", true, came(1, full), went(1, 0, reply(m)))
}

// P24.1: things made by hand: names that are none, numbers of all sizes.
func TestPairedByHand(t *testing.T) {
	for _, n := range noNames {
		for _, number := range []int{math.MinInt, -1, 0, 1 << 16, math.MaxInt} {
			m := query(number, api.Question{Name: n, Type: number, Class: number})
			m.Opcode = number
			paired(t, "by hand", true, came(number, m), went(number, number, reply(m)))
			paired(t, "by hand, twice", false, came(number, m), went(number, number, reply(m)), went(number, number, reply(m)))
			paired(t, "by hand, another stream", false, came(number, m), went(number^1, number, reply(m)))
		}
	}
}

// P24.1: a query of which all is zero is none of what a reply without a question answers.
func TestPairedZero(t *testing.T) {
	zero := api.Message{Questions: []api.Question{{}}}
	paired(t, "zero", true, came(0, zero), went(0, 0, reply(zero)))
	paired(t, "no question", false, came(0, zero), went(0, 0, reply(api.Message{})))
	paired(t, "two questions", false, came(0, zero), went(0, 0, reply(api.Message{Questions: make([]api.Question, 2)})))
	paired(t, "no question in both", false, came(0, api.Message{}), went(0, 0, reply(api.Message{})))
}

// Ends: a journal of many lines.
func TestPairedLong(t *testing.T) {
	var l []api.Event
	for i := range 100000 {
		l = append(l, came(i%16, query(i%65536, asked("a.", 1))))
	}
	for i := range l {
		l = append(l, went(i%16, i, reply(l[i].Message)))
	}
	paired(t, "many", true, l...)
	l[0].Stream = 99
	paired(t, "many, and one wrong", false, l...)
}

// Memory: the journal is not changed.
func TestPairedMemory(t *testing.T) {
	m := query(1, asked("a.", 1))
	m.Questions = append(m.Questions, asked("room.", 2))[:1]
	l := append([]api.Event{came(1, m), went(1, 3, reply(m, roomy([]api.RR{host("a.", 1)})...))}, came(9, m))[:2]
	was := fmt.Sprintf("%+v%+v", l[:3], m.Questions[:2])
	paired(t, "roomy", true, l...)
	backed(t, "roomy", true, l, accepted(0, 300+3, ".", host("a.", 1)))
	if now := fmt.Sprintf("%+v%+v", l[:3], m.Questions[:2]); now != was {
		t.Errorf("the journal has become %s, not %s", now, was)
	}
}
