package stream_test

import (
	"math/rand/v2"
	"slices"
	"testing"

	"cicerone/api"
	"cicerone/http"
	"cicerone/prefix"
)

// plain is a second stream, by the chapter's words: all bytes that came, how many frames of them were told, and for each request that has no reply whether it is kept.
type plain struct {
	kind  int
	came  []byte
	told  int
	keeps []bool
	ended bool
}

// frames is all that the bytes that came hold, read anew, and which of these are kept.
func (p *plain) frames() ([]frame, []bool) {
	var l []frame
	var keeps []bool
	if p.kind == api.StreamFrames {
		for _, b := range prefix.New().Feed(p.came) {
			l, keeps = append(l, frame{string(b), false}), append(keeps, true)
		}
		return l, keeps
	}
	requests, e := http.New().Feed(p.came)
	for _, q := range requests {
		l, keeps = append(l, frame{string(q.Body), false}), append(keeps, q.Keep)
	}
	if e != api.OK {
		l = append(l, bad)
	}
	return l, keeps
}

func (p *plain) feed(b []byte) []frame {
	if p.ended {
		return nil
	}
	_, had := p.frames()
	p.came = append(p.came, b...)
	l, keeps := p.frames()
	p.keeps = append(p.keeps, keeps[len(had):]...)
	now := l[p.told:]
	p.told = len(l)
	return now
}

func (p *plain) reply(body []byte) (string, api.Errno) {
	if p.ended || len(body) > most {
		return "", api.ErrArg
	}
	if p.kind == api.StreamFrames {
		return framed(string(body)), api.OK
	}
	keep := true
	if len(p.keeps) > 0 {
		keep, p.keeps = p.keeps[0], p.keeps[1:]
	}
	p.ended = !keep
	return replied(string(body), keep), api.OK
}

func (p *plain) refuse() string {
	if p.ended {
		return ""
	}
	p.ended = true
	if p.kind == api.StreamFrames {
		return ""
	}
	return refused
}

// drawnBytes is what a client may send: of each kind some, seldom wrong or not kept.
func drawnBytes(r *rand.Rand, kind int) string {
	switch r.IntN(20) {
	case 0:
		return closing(of(r.IntN(30)))
	case 1:
		return of(r.IntN(4))
	case 2:
		return ""
	}
	l := make([]string, 1+r.IntN(3))
	for i := range l {
		l[i] = of(r.IntN(150))
	}
	return sent(kind, l...)
}

// P14.1 to P14.4: drawn calls, held against the second stream.
func TestDrawn(t *testing.T) {
	r := rand.New(rand.NewPCG(14, 1))
	for range 1500 {
		kind := kinds[r.IntN(2)]
		s, p := opened(t, kind), &plain{kind: kind}
		var waiting []byte
		for range 25 {
			switch n := r.IntN(40); {
			case n == 0:
				if got, want := string(s.Refuse()), p.refuse(); got != want {
					t.Fatalf("Refuse is %q, not %q", got, want)
				}
			case n < 15:
				body := []byte(of(r.IntN(300)))
				if n == 1 {
					body = make([]byte, most+r.IntN(2))
				}
				b, e := s.Reply(body)
				if want, we := p.reply(body); string(b) != want || e != we {
					t.Fatalf("Reply is %.200q, %d, not %.200q, %d", b, e, want, we)
				}
			default:
				waiting = append(waiting, drawnBytes(r, kind)...)
				size := r.IntN(len(waiting) + 1)
				got, want := all(s.Feed(waiting[:size])), p.feed(waiting[:size])
				if !slices.Equal(got, want) {
					t.Fatalf("Feed is %v, not %v", got, want)
				}
				waiting = waiting[size:]
			}
			if s.Ended() != p.ended {
				t.Fatalf("Ended is %t, not %t", s.Ended(), p.ended)
			}
		}
	}
}

// parsed is the bodies that a client reads out of all that went to it.
func parsed(t *testing.T, kind int, b []byte) []string {
	t.Helper()
	var l []string
	if kind == api.StreamFrames {
		r := prefix.New()
		for _, body := range r.Feed(b) {
			l = append(l, string(body))
		}
		if r.Left() > 0 {
			t.Errorf("%d bytes are left", r.Left())
		}
		return l
	}
	for len(b) > 0 {
		code, body, rest, e := http.ParseReply(b)
		if code != 200 || e != api.OK {
			t.Fatalf("a reply is %d, %d", code, e)
		}
		l, b = append(l, string(body)), rest
	}
	return l
}

// P14.4: a client that parses what Reply tells has the bodies, in order.
func TestParsed(t *testing.T) {
	bodies := []string{"a", "", "bc", of(100), "\x00\x01", refused, framed("x"), of(most), ""}
	for _, kind := range kinds {
		s := opened(t, kind)
		feeds(t, s, sent(kind, "1", "2", "3", "4"), good("1", "2", "3", "4")...)
		var went []byte
		for i, body := range bodies {
			if i == len(bodies)-1 && kind == api.StreamHTTP {
				feeds(t, s, closing("5"), good("5")...)
			}
			b, e := s.Reply([]byte(body))
			if e != api.OK {
				t.Errorf("kind %d: Reply is %d", kind, e)
			}
			went = append(went, b...)
		}
		if got := parsed(t, kind, went); !slices.Equal(got, bodies) {
			t.Errorf("kind %d: the client has %.300q", kind, got)
		}
	}
}

// Memory: bytes that were handed in are neither changed nor kept, nor the room behind them.
func TestFeedMemory(t *testing.T) {
	bodies := []string{"abc", "", "defgh", of(200), "i"}
	for _, kind := range kinds {
		for _, size := range []int{1, 2, 3, 7, 50, 100, 1 << 20} {
			s := opened(t, kind)
			var frames []api.Frame
			for part := range slices.Chunk([]byte(sent(kind, bodies...)), size) {
				room := append(slices.Clone(part), "room behind it"...)
				was := string(room)
				frames = append(frames, s.Feed(room[:len(part)])...)
				if string(room) != was {
					t.Errorf("kind %d: a feed of %q has made them %q", kind, was, room)
				}
				spoil(room)
			}
			if got := all(frames); !slices.Equal(got, good(bodies...)) {
				t.Errorf("kind %d: with bytes changed behind feeds of %d there are %v", kind, size, got)
			}
		}
	}
}

// Memory: no body that was told shares anything with another one, or with the stream.
func TestFramesMemory(t *testing.T) {
	bodies := []string{"abc", "", "defgh", of(200), "i"}
	for _, kind := range kinds {
		s := opened(t, kind)
		b := []byte(sent(kind, append(bodies, "last")...))
		frames := s.Feed(b[:len(b)-3])
		if !slices.Equal(all(frames), good(bodies...)) {
			t.Fatalf("kind %d: Feed is %v", kind, all(frames))
		}
		for i := range frames {
			spoil(frames[i].Body)
			for j, f := range all(frames) {
				if j != i && f.body != bodies[j] {
					t.Errorf("kind %d: with body %d body %d has become %q", kind, i, j, f.body)
				}
			}
			spoil(frames[i].Body)
		}
		for i := range frames {
			spoil(frames[i].Body)
			_ = append(frames[i].Body, "over the end"...)
		}
		clear(frames[:cap(frames)])
		if string(b) != sent(kind, append(bodies, "last")...) {
			t.Errorf("kind %d: with the bodies the bytes have become %q", kind, b)
		}
		feeds(t, s, string(b[len(b)-3:])+sent(kind, "new"), good("last", "new")...)
	}
}

// Memory: what Reply and Refuse answer shares nothing with a body, or with another answer.
func TestReplyMemory(t *testing.T) {
	for _, kind := range kinds {
		s := opened(t, kind)
		room := []byte("bodyroom")
		b, _ := s.Reply(room[:4])
		c, _ := s.Reply(room[:4])
		want := string(c)
		if spoil(b); string(room) != "bodyroom" || string(c) != want {
			t.Errorf("kind %d: with an answer the room became %q, another answer %q", kind, room, c)
		}
		if spoil(room); string(c) != want {
			t.Errorf("kind %d: with the body the answer became %q", kind, c)
		}
		spoil(s.Refuse())
	}
	ends(t, opened(t, api.StreamHTTP), refused)
}

// Ends: many requests that wait for replies.
func TestMany(t *testing.T) {
	const n = 20000
	s := opened(t, api.StreamHTTP)
	var b []byte
	for range n {
		b = append(b, posted("q")...)
	}
	if l := s.Feed(append(b, closing("last")...)); len(l) != n+1 {
		t.Fatalf("%d frames", len(l))
	}
	for range n {
		replies(t, s, "r", replied("r", true), false)
	}
	replies(t, s, "r", replied("r", false), true)
	over(t, s)
}
