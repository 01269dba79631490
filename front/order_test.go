package front_test

import (
	"testing"

	"cicerone/api"
	"cicerone/front"
)

// content is what is answered of one of the numbered questions at 10, and the records of the reply.
func content(i int) (api.Found, []api.RR) {
	n := numbered(i).Name
	return found(set(n, 50, byte(i))), []api.RR{record(n, 40, byte(i))}
}

// asks is the questions from 1 on, the replies to them, and the bodies that ask them.
func asks(many int) ([]api.Question, []api.Message, []string) {
	var l []api.Question
	var replies []api.Message
	for i := 1; i <= many; i++ {
		_, r := content(i)
		l = append(l, numbered(i))
		replies = append(replies, reply(query(i, numbered(i)), 0, r, nil))
	}
	return l, replies, queries(l...)
}

// settles answers one of them.
func settles(t *testing.T, f *front.Front, i int) {
	t.Helper()
	r, _ := content(i)
	answers(t, f, numbered(i), r, 10)
}

// Replies: of frames each goes out at once, the later one first where that is ready first.
func TestFramesOrder(t *testing.T) {
	l, replies, bodies := asks(4)
	r := encoded(replies...)
	f := opened(t, api.StreamFrames)
	feeds(t, f, 1, framed(bodies...), 0, l...)
	for _, i := range []int{3, 1, 4} {
		settles(t, f, i)
		takes(t, f, 1, framed(r[i-1]))
		takes(t, f, 1, "")
	}
	feeds(t, f, 1, framed("123456789012"), 0)
	takes(t, f, 1, framed(malformed('1'<<8|'2')))
	settles(t, f, 2)
	takes(t, f, 1, framed(r[1]))

	// Not taken in between, they stand one behind the other.
	f = opened(t, api.StreamFrames)
	feeds(t, f, 1, framed(bodies...), 0, l...)
	for _, i := range []int{4, 2, 1, 3} {
		settles(t, f, i)
	}
	takes(t, f, 1, framed(r[3], r[1], r[0], r[2]))
}

// Replies: by HTTP one that is ready waits for those ahead.
func TestHTTPOrder(t *testing.T) {
	for _, order := range [][]int{{1, 2, 3}, {1, 3, 2}, {2, 1, 3}, {2, 3, 1}, {3, 1, 2}, {3, 2, 1}} {
		for _, takesAll := range []bool{false, true} {
			l, replies, bodies := asks(3)
			r := encoded(replies...)
			f := opened(t, api.StreamHTTP)
			feeds(t, f, 1, posted(bodies...), 0, l...)
			ready := map[int]int{}
			next, all := 1, ""
			for _, i := range order {
				settles(t, f, i)
				ready[i]++
				out := ""
				for ready[next] > 0 {
					out += back(r[next-1])
					next++
				}
				all += out
				if takesAll {
					takes(t, f, 1, out)
					takes(t, f, 1, "")
				}
			}
			if !takesAll {
				takes(t, f, 1, all)
			}
			streams(t, f, 1)
		}
	}
}

// Replies: by HTTP what is replied at once waits, too: malformed bodies, codes at once, and one ahead that is malformed.
func TestHTTPOrderAtOnce(t *testing.T) {
	l, replies, bodies := asks(2)
	r := encoded(replies...)
	not := query(9, with(of(b), func(q *api.Question) { q.Type = 255 }))
	mal := "\x12\x34" + "5678901234"
	f := opened(t, api.StreamHTTP)
	feeds(t, f, 1, posted(mal, bodies[0], mal, encoded(not)[0], bodies[1], mal), 0, l...)
	takes(t, f, 1, back(malformed(0x1234)))
	takes(t, f, 1, "")
	settles(t, f, 2)
	takes(t, f, 1, "")
	settles(t, f, 1)
	takes(t, f, 1, back(r[0], malformed(0x1234), encoded(empty(not, api.CodeNot))[0], r[1], malformed(0x1234)))
	// With nothing ahead a reply goes at once again.
	feeds(t, f, 1, posted(encoded(not)...), 0)
	takes(t, f, 1, back(encoded(empty(not, api.CodeNot))...))
	feeds(t, f, 1, posted(mal), 0)
	takes(t, f, 1, back(malformed(0x1234)))
}

// Replies: each stream has an order of its own.
func TestHTTPOrderOthers(t *testing.T) {
	l, replies, bodies := asks(2)
	r := encoded(replies...)
	f := opened(t, api.StreamHTTP, api.StreamHTTP, api.StreamFrames)
	feeds(t, f, 1, posted(bodies...), 0, l...)
	feeds(t, f, 2, posted(bodies[1], bodies[0]), 0)
	feeds(t, f, 3, framed(bodies...), 0)
	settles(t, f, 2)
	takes(t, f, 1, "")
	takes(t, f, 2, back(r[1]))
	takes(t, f, 3, framed(r[1]))
	settles(t, f, 1)
	takes(t, f, 1, back(r...))
	takes(t, f, 2, back(r[0]))
	takes(t, f, 3, framed(r[0]))
}

// P21.1: a request that is not kept: behind its reply the stream has ended, and is there till it is taken.
func TestClosing(t *testing.T) {
	l, replies, bodies := asks(2)
	r := encoded(replies...)
	f := opened(t, api.StreamHTTP)
	feeds(t, f, 1, posted(bodies[0])+closing(bodies[1])+posted(bodies[0])+"\n", 0, l...)
	feeds(t, f, 1, posted(bodies[0]), 0)
	takes(t, f, 1, "")
	settles(t, f, 2)
	takes(t, f, 1, "")
	streams(t, f, 1)
	settles(t, f, 1)
	streams(t, f, 1)
	waits(t, f)
	feeds(t, f, 1, posted(bodies...), 0)
	feeds(t, f, 1, "\n", 0)
	takes(t, f, 1, back(r[0])+last(r[1]))
	none(t, f, 1)
	streams(t, f)

	// A reply at once, or to what is malformed, ends it likewise.
	not := query(9, with(of(b), func(q *api.Question) { q.Type = 255 }))
	for body, want := range map[string]string{encoded(not)[0]: encoded(empty(not, api.CodeNot))[0], "123456789012": malformed('1'<<8 | '2')} {
		f = opened(t, api.StreamHTTP)
		feeds(t, f, 1, closing(body)+posted(bodies...), 0)
		waits(t, f)
		streams(t, f, 1)
		feeds(t, f, 1, posted(bodies...), 0)
		takes(t, f, 1, last(want))
		none(t, f, 1)
	}

	// A body that is too short has no reply but the refusal.
	f = opened(t, api.StreamHTTP)
	feeds(t, f, 1, posted(bodies[0])+closing("short"), 0)
	takes(t, f, 1, refused)
	none(t, f, 1)
}

// P21.1: a stream that has ended can be ended, without its bytes.
func TestEndEnded(t *testing.T) {
	for i, kind := range kinds {
		f := opened(t, kind)
		feeds(t, f, 1, sent(kind, "short"), 0)
		streams(t, f, 1)
		ends(t, f, 1, api.OK)
		none(t, f, 1)
		f = opened(t, kind)
		feeds(t, f, 1, sent(kind, "short"), 0)
		takes(t, f, 1, []string{"", refused}[i])
		ends(t, f, 1, api.ErrArg)
	}
}

// Queries: what went ahead of a refusal has gone; what was ready and waits for those ahead is lost.
func TestRefusedLost(t *testing.T) {
	l, replies, bodies := asks(3)
	r := encoded(replies...)
	mal := "123456789012"
	lost := malformed('1'<<8 | '2')
	for _, bad := range []string{posted("short"), "\n"} {
		f := opened(t, api.StreamHTTP, api.StreamFrames)
		feeds(t, f, 1, posted(bodies...), 0, l...)
		feeds(t, f, 2, framed(bodies[1:]...), 0)
		for _, i := range []int{1, 3} {
			settles(t, f, i)
		}
		feeds(t, f, 1, posted(mal)+bad+posted(mal), 0)
		waits(t, f, l[1])
		settles(t, f, 2)
		takes(t, f, 1, back(r[0])+refused)
		none(t, f, 1)
		takes(t, f, 2, framed(r[2], r[1]))

		// Within one piece, too.
		f = opened(t, api.StreamHTTP)
		feeds(t, f, 1, posted(mal, bodies[0], mal)+bad, 0)
		takes(t, f, 1, back(lost)+refused)
	}
	f := opened(t, api.StreamFrames)
	feeds(t, f, 1, framed(mal, bodies[0], mal, "short", mal), 0)
	takes(t, f, 1, framed(lost, lost))
	none(t, f, 1)
}

// Replies: those of a stream that is there no more are lost, and those of the others go out.
func TestEndedLost(t *testing.T) {
	l, replies, bodies := asks(2)
	r := encoded(replies...)
	f := opened(t, api.StreamHTTP, api.StreamFrames, api.StreamHTTP)
	feeds(t, f, 1, posted(bodies...), 0, l...)
	feeds(t, f, 2, framed(bodies...), 0)
	feeds(t, f, 3, posted(bodies...), 0)
	settles(t, f, 2)
	ends(t, f, 1, api.OK)
	settles(t, f, 1)
	takes(t, f, 2, framed(r[1], r[0]))
	takes(t, f, 3, back(r...))
	none(t, f, 1)
	streams(t, f, 2, 3)
}

// P21.1: what Take answers, one behind the other, is all that goes out, whatever is fed in between.
func TestTake(t *testing.T) {
	for _, kind := range kinds {
		l, replies, bodies := asks(3)
		r := encoded(replies...)
		f := opened(t, kind)
		takes(t, f, 1, "")
		for i := range 3 {
			s := sent(kind, bodies[i])
			feeds(t, f, 1, s[:7], 0)
			takes(t, f, 1, "")
			feeds(t, f, 1, s[7:]+s[:3], 0, l[i])
			settles(t, f, i+1)
			feeds(t, f, 1, s[3:], 0, l[i])
			takes(t, f, 1, told(kind, r[i]))
			takes(t, f, 1, "")
			fails(t, f, l[i], 0)
			answered := told(kind, encoded(empty(query(i+1, l[i]), api.CodeServer))...)
			feeds(t, f, 1, sent(kind, "123456789012"), 0)
			takes(t, f, 1, answered+told(kind, malformed('1'<<8|'2')))
		}
		streams(t, f, 1)
	}
}
