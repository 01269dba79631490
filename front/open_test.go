package front_test

import (
	"math"
	"testing"

	"cicerone/api"
	"cicerone/front"
)

// P21.1: kinds that are none, of a new front and of a full one: stream.New's error is told first, and no number is used up.
func TestOpenWrong(t *testing.T) {
	f := opened(t)
	streams(t, f)
	waits(t, f)
	notes(t, f)
	for i := range api.MaxStreams + 1 {
		for _, kind := range []int{0, 3, 4, -1, -2, 257, 1 + 1<<32, math.MinInt, math.MaxInt} {
			if n, e := f.Open(kind); n != 0 || e != api.ErrArg {
				t.Errorf("Open(%d) is %d, %d", kind, n, e)
			}
		}
		if i < api.MaxStreams {
			opens(t, f, kinds[i%2], i+1)
		}
	}
}

// P21.1: MaxStreams streams, and one more.
func TestOpenFull(t *testing.T) {
	f := opened(t)
	var l []int
	for i := range 16 {
		opens(t, f, kinds[i%2], i+1)
		l = append(l, i+1)
		streams(t, f, l...)
	}
	for range 3 {
		for _, kind := range kinds {
			if n, e := f.Open(kind); n != 0 || e != api.ErrFull {
				t.Errorf("Open(%d) of a full front is %d, %d", kind, n, e)
			}
		}
	}
	streams(t, f, l...)
	ends(t, f, 5, api.OK)
	opens(t, f, api.StreamHTTP, 17)
	streams(t, f, 1, 2, 3, 4, 6, 7, 8, 9, 10, 11, 12, 13, 14, 15, 16, 17)
	if n, e := f.Open(api.StreamFrames); n != 0 || e != api.ErrFull {
		t.Errorf("Open of a front that is full again is %d, %d", n, e)
	}
}

// P21.1: a stream that has ended is there, and counts, till it is taken.
func TestOpenFullOfEnded(t *testing.T) {
	f := opened(t)
	for i := range 16 {
		opens(t, f, api.StreamFrames, i+1)
		feeds(t, f, i+1, framed("short"), 0)
	}
	if n, e := f.Open(api.StreamFrames); n != 0 || e != api.ErrFull {
		t.Errorf("Open is %d, %d", n, e)
	}
	takes(t, f, 3, "")
	opens(t, f, api.StreamFrames, 17)
	if n, e := f.Open(api.StreamFrames); n != 0 || e != api.ErrFull {
		t.Errorf("Open is %d, %d", n, e)
	}
}

// P21.1: numbers rise, and none is given again.
func TestNumbers(t *testing.T) {
	f := opened(t)
	for i := range 50 {
		kind := kinds[i%2]
		opens(t, f, kind, i+1)
		if i%3 == 0 {
			ends(t, f, i+1, api.OK)
		} else {
			feeds(t, f, i+1, sent(kind, ""), 0)
			takes(t, f, i+1, []string{"", refused}[i%2])
		}
		streams(t, f)
	}
	opens(t, f, api.StreamFrames, 51)
	opens(t, f, api.StreamFrames, 52)
	ends(t, f, 52, api.OK)
	opens(t, f, api.StreamFrames, 53)
	streams(t, f, 51, 53)
	none(t, f, 52, 50, 1)
}

// P21.1: numbers of streams that are none.
func TestNone(t *testing.T) {
	none(t, opened(t), append(never, 1, 2)...)
	f := opened(t, kinds...)
	none(t, f, append(never, 3, 4)...)
	feeds(t, f, 1, framed(queries(of(a))...), 0, of(a))
	none(t, f, append(never, 3, 4)...)
	streams(t, f, 1, 2)
}

// P21.1: End of a stream, twice, with what waits on it, and with bytes that were not taken.
func TestEnd(t *testing.T) {
	for i, kind := range kinds {
		f := opened(t, kind, kinds[1-i])
		ends(t, f, 1, api.OK)
		none(t, f, 1)
		streams(t, f, 2)
		ends(t, f, 2, api.OK)
		none(t, f, 1, 2)
		streams(t, f)

		f = opened(t, kind)
		feeds(t, f, 1, sent(kind, append(queries(of(a), of(b)), "123456789012")...), 0, of(a), of(b))
		waits(t, f, of(a), of(b))
		ends(t, f, 1, api.OK)
		waits(t, f)
		none(t, f, 1)
		for _, q := range []api.Question{of(a), of(b)} {
			if f.Answer(q, found(set(q.Name, 50, 1)), 0) != api.ErrArg || f.Fail(q, 0) != api.ErrArg {
				t.Errorf("somebody waits for %v", q)
			}
		}
		notes(t, f, came(1, 0, query(1, of(a))), came(1, 0, query(2, of(b))))
	}
}

// P21.1, P21.4: End of one of several streams with queries that wait: those of the others wait on. A question's place and letters are those of the first query that still waits for it.
func TestEndBeside(t *testing.T) {
	f := opened(t, api.StreamFrames, api.StreamHTTP, api.StreamFrames)
	feeds(t, f, 1, framed(queries(of(upA), of(a), numbered(1))...), 0, of(upA), numbered(1))
	feeds(t, f, 2, posted(queries(of(b), of(a))...), 0, of(b))
	feeds(t, f, 3, framed(queries(of(upB), of(upA))...), 0)
	waits(t, f, of(upA), numbered(1), of(b))
	ends(t, f, 1, api.OK)
	waits(t, f, of(b), of(a))
	streams(t, f, 2, 3)
	ends(t, f, 2, api.OK)
	waits(t, f, of(upB), of(upA))
	answers(t, f, of(a), found(set(a, 50, 1)), 10)
	takes(t, f, 3, framed(encoded(reply(query(2, of(upA)), 0, []api.RR{record(a, 40, 1)}, nil))...))
	waits(t, f, of(upB))
	ends(t, f, 3, api.OK)
	waits(t, f)
	streams(t, f)
}

// P21.1: a question that nobody waits for any more is told anew.
func TestEndAskedAgain(t *testing.T) {
	f := opened(t, api.StreamFrames, api.StreamHTTP)
	feeds(t, f, 1, framed(queries(of(a))...), 0, of(a))
	ends(t, f, 1, api.OK)
	feeds(t, f, 2, posted(queries(of(upA))...), 3, of(upA))
	waits(t, f, of(upA))
	fails(t, f, of(a), 4)
	feeds(t, f, 2, posted(queries(of(a))...), 5, of(a))
	waits(t, f, of(a))
}

// Objects: a nil front, and one that no call made.
func TestNoFront(t *testing.T) {
	made := opened(t, api.StreamFrames)
	feeds(t, made, 1, framed(queries(of(a))...), 0, of(a))
	*made = front.Front{}
	for _, f := range []*front.Front{nil, {}, new(front.Front), made} {
		for range 2 {
			for _, n := range append(never, 1, 2) {
				if got, e := f.Open(n); got != 0 || e != api.ErrNil {
					t.Errorf("Open is %d, %d", got, e)
				}
				ends(t, f, n, api.ErrNil)
				for _, s := range []string{"", framed(queries(of(a))...), "short"} {
					if got, e := f.Feed(n, []byte(s), 0); len(got) != 0 || e != api.ErrNil {
						t.Errorf("Feed is %v, %d", got, e)
					}
				}
				if got, e := f.Take(n); len(got) != 0 || e != api.ErrNil {
					t.Errorf("Take is %q, %d", got, e)
				}
			}
			for _, q := range []api.Question{of(a), {}} {
				if f.Answer(q, api.Found{}, 0) != api.ErrNil || f.Answer(q, found(set(a, 9, 1)), 0) != api.ErrNil || f.Fail(q, 0) != api.ErrNil {
					t.Errorf("Answer or Fail of %v is not ErrNil", q)
				}
			}
			streams(t, f)
			waits(t, f)
			notes(t, f)
		}
	}
}

// From arguments alone: fronts know nothing of one another.
func TestTwoFronts(t *testing.T) {
	f, g := opened(t, api.StreamFrames), opened(t, api.StreamHTTP, api.StreamHTTP)
	feeds(t, f, 1, framed(queries(of(a))...), 0, of(a))
	feeds(t, g, 2, posted(queries(of(a))...), 0, of(a))
	fails(t, f, of(a), 0)
	waits(t, f)
	waits(t, g, of(a))
	ends(t, g, 1, api.OK)
	streams(t, f, 1)
	streams(t, g, 2)
	takes(t, g, 2, "")
}
