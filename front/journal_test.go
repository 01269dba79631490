package front_test

import (
	"testing"

	"cicerone/api"
)

// P21.4: queries and the replies to them stand in the journal in order, of all streams; malformed bodies, those that are too short, and what goes out for them, do not.
func TestJournal(t *testing.T) {
	f := opened(t, api.StreamFrames, api.StreamHTTP)
	notes(t, f)
	mal := "123456789012"
	not := with(query(9, of(b)), func(m *api.Message) { m.Opcode = 2 })
	refuse := query(8, with(of(b), func(q *api.Question) { q.Class = 3 }))
	feeds(t, f, 1, framed(append([]string{mal}, encoded(query(1, of(a)), not)...)...), 5, of(a))
	feeds(t, f, 2, posted(append(encoded(refuse, query(2, of(upA))), mal)...), 6)
	want := []api.Event{
		came(1, 5, query(1, of(a))), came(1, 5, not), went(1, 5, empty(not, api.CodeNot)),
		came(2, 6, refuse), went(2, 6, empty(refuse, api.CodeRefused)), came(2, 6, query(2, of(upA))),
	}
	notes(t, f, want...)
	r := []api.RR{record(a, 43, 1)}
	answers(t, f, of(a), found(set(a, 50, 1)), 7)
	want = append(want, went(1, 7, reply(query(1, of(a)), 0, r, nil)), went(2, 7, reply(query(2, of(upA)), 0, r, nil)))
	notes(t, f, want...)
	feeds(t, f, 1, framed("short"), 8)
	feeds(t, f, 2, posted(queries(of(b))...)+"\n", 9)
	want = append(want, came(2, 9, query(1, of(b))))
	notes(t, f, want...)
	takes(t, f, 1, framed(append([]string{malformed('1'<<8 | '2')}, encoded(empty(not, api.CodeNot), reply(query(1, of(a)), 0, r, nil))...)...))
	takes(t, f, 2, back(append(encoded(empty(refuse, api.CodeRefused), reply(query(2, of(upA)), 0, r, nil)), malformed('1'<<8|'2'))...)+refused)
	streams(t, f)
	notes(t, f, want...)
	opens(t, f, api.StreamFrames, 3)
	feeds(t, f, 3, framed(queries(of(b))...), 1, of(b))
	notes(t, f, append(want, came(3, 1, query(1, of(b))))...)
}

// P21.4: a reply stands there when it is given, at that time, also where it waits for those ahead.
func TestJournalOrder(t *testing.T) {
	l, replies, bodies := asks(3)
	f := opened(t, api.StreamHTTP)
	not := query(9, with(of(b), func(q *api.Question) { q.Type = 255 }))
	feeds(t, f, 1, posted(append(bodies, encoded(not)...)...), 1, l...)
	want := []api.Event{came(1, 1, query(1, l[0])), came(1, 1, query(2, l[1])), came(1, 1, query(3, l[2])), came(1, 1, not), went(1, 1, empty(not, api.CodeNot))}
	notes(t, f, want...)
	settles(t, f, 3)
	want = append(want, went(1, 10, replies[2]))
	notes(t, f, want...)
	fails(t, f, l[0], 20)
	want = append(want, went(1, 20, empty(query(1, l[0]), api.CodeServer)))
	notes(t, f, want...)
	takes(t, f, 1, back(encoded(empty(query(1, l[0]), api.CodeServer))...))
	settles(t, f, 2)
	notes(t, f, append(want, went(1, 10, replies[1]))...)
	takes(t, f, 1, back(encoded(replies[1], replies[2], empty(not, api.CodeNot))...))
}

// P21.4: what stands there stays, whatever becomes of its stream; queries that wait no more have no reply.
func TestJournalEnded(t *testing.T) {
	for way := range 3 {
		l, replies, bodies := asks(3)
		f := opened(t, api.StreamHTTP)
		feeds(t, f, 1, posted(bodies...), 1, l...)
		for _, i := range []int{1, 3} {
			settles(t, f, i)
		}
		want := []api.Event{
			came(1, 1, query(1, l[0])), came(1, 1, query(2, l[1])), came(1, 1, query(3, l[2])), went(1, 10, replies[0]), went(1, 10, replies[2]),
		}
		notes(t, f, want...)
		switch way {
		case 0:
			ends(t, f, 1, api.OK)
		case 1:
			feeds(t, f, 1, posted("short"), 11)
		case 2:
			feeds(t, f, 1, "\n", 11)
			takes(t, f, 1, back(encoded(replies[0])...)+refused)
		}
		r, _ := content(2)
		if e := f.Answer(l[1], r, 20); e != api.ErrArg {
			t.Errorf("Answer is %d", e)
		}
		notes(t, f, want...)
	}
}
