package stream_test

import (
	"math"
	"slices"
	"strings"
	"testing"

	"cicerone/api"
	"cicerone/stream"
)

// P14.1: kinds that are none.
func TestNewWrong(t *testing.T) {
	for _, kind := range []int{0, 3, 4, -1, -2, math.MinInt, math.MaxInt, 1 + 1<<32, 2 + 1<<32, 257} {
		if s, e := stream.New(kind); s != nil || e != api.ErrArg {
			t.Errorf("New(%d) is %v, %d", kind, s, e)
		}
	}
}

// P14.1, P14.2: new streams have nothing, and are not at their end.
func TestNew(t *testing.T) {
	for _, kind := range kinds {
		s := opened(t, kind)
		feeds(t, s, "")
		if l := s.Feed(nil); len(l) != 0 || s.Ended() {
			t.Errorf("kind %d: Feed(nil) is %v, %t", kind, l, s.Ended())
		}
	}
}

// P14.2: bodies of both kinds, in one feed, one byte at a time, and in feeds of no bytes.
func TestFeed(t *testing.T) {
	bodies := []string{"a", "", "bcd", of(100), "", of(300), "\x00\x01", of(most)}
	for _, kind := range kinds {
		b := sent(kind, bodies...)
		s := opened(t, kind)
		feeds(t, s, b, good(bodies...)...)
		feeds(t, s, "")
		feeds(t, s, sent(kind, "more"), good("more")...)
		s = opened(t, kind)
		var got []frame
		for i := range len(b) {
			got = append(got, all(s.Feed([]byte(b[i:i+1])))...)
			feeds(t, s, "")
		}
		if !slices.Equal(got, good(bodies...)) || s.Ended() {
			t.Errorf("kind %d: byte by byte it tells %v, %t", kind, got, s.Ended())
		}
	}
}

// P14.2: the chapter's example, and parts of frames.
func TestFrames(t *testing.T) {
	s := opened(t, api.StreamFrames)
	feeds(t, s, "\x00\x01a", good("a")...)
	feeds(t, s, "\x00\x02b")
	feeds(t, s, "c\x00", good("bc")...)
	feeds(t, s, "\x00\x00\x00\x00", good("", "")...)
	feeds(t, s, posted("a")[:2]+"x")
}

// P14.2: replies of frames, as many as one likes, whatever came; none ends the stream.
func TestFramesReply(t *testing.T) {
	s := opened(t, api.StreamFrames)
	for _, body := range []string{"", "r", "hello", of(255), of(256), of(most)} {
		replies(t, s, body, framed(body), false)
	}
	feeds(t, s, framed("q")+closing("z")[:1], good("q")...)
	for range 3 {
		replies(t, s, "r", "\x00\x01r", false)
	}
	refuses(t, s, of(most+1), api.ErrArg)
	replies(t, s, "r", "\x00\x01r", false)
}

// P14.2, P14.3: Refuse of frames tells none, whatever waits.
func TestFramesRefuse(t *testing.T) {
	ends(t, opened(t, api.StreamFrames), "")
	s := opened(t, api.StreamFrames)
	feeds(t, s, framed("a", "b")+"\x00\x05c", good("a", "b")...)
	replies(t, s, "r", framed("r"), false)
	ends(t, s, "")
}

// P14.2: of HTTP an error is one Bad frame, behind the requests ahead of it.
func TestBad(t *testing.T) {
	inChunks := posted("", "abc")[len(posted("")):]
	wrongChunk := inChunks[:strings.Index(inChunks, "abc")] + "abcd"
	for _, wrong := range []string{"\n", "\x00", "GET / HTTP/1.1\r\n\r\n", "\r\n", "X\rY", wrongChunk} {
		s := opened(t, api.StreamHTTP)
		feeds(t, s, posted("a", "", "c")+wrong+posted("d"), append(good("a", "", "c"), bad)...)
		feeds(t, s, "")
		feeds(t, s, posted("e")+"\n")
		if s.Ended() {
			t.Errorf("behind %q the stream is at its end", wrong)
		}
		s = opened(t, api.StreamHTTP)
		feeds(t, s, wrong, bad)
		feeds(t, s, wrong)
		s = opened(t, api.StreamHTTP)
		feeds(t, s, posted("a"), good("a")...)
		feeds(t, s, wrong[:len(wrong)-1])
		feeds(t, s, wrong[len(wrong)-1:], bad)
	}
}

// P14.2: behind an error replies go on, and it is Refuse that ends the stream.
func TestBadReplies(t *testing.T) {
	s := opened(t, api.StreamHTTP)
	feeds(t, s, posted("a", "b")+"\n", append(good("a", "b"), bad)...)
	for _, body := range []string{"r", "", "more", "and more"} {
		replies(t, s, body, replied(body, true), false)
	}
	ends(t, s, refused)
	s = opened(t, api.StreamHTTP)
	feeds(t, s, "\n", bad)
	replies(t, s, "r", replied("r", true), false)
	ends(t, s, refused)
}

// P14.2: a request that is not kept: its reply alone is not kept, and behind that the stream is at its end.
func TestClosing(t *testing.T) {
	s := opened(t, api.StreamHTTP)
	feeds(t, s, closing("a"), good("a")...)
	feeds(t, s, posted("b")+"\n")
	if s.Ended() {
		t.Error("ahead of its reply the stream is at its end")
	}
	replies(t, s, "r", replied("r", false), true)
	over(t, s)
	s = opened(t, api.StreamHTTP)
	feeds(t, s, posted("a", "b")+closing("c")+"\n"+posted("d"), good("a", "b", "c")...)
	replies(t, s, "1", replied("1", true), false)
	replies(t, s, "", replied("", true), false)
	feeds(t, s, posted("e"))
	replies(t, s, of(most), replied(of(most), false), true)
	over(t, s)
}

// P14.2: with no request that waits a reply is kept, and stands for none that comes later.
func TestRepliesMore(t *testing.T) {
	s := opened(t, api.StreamHTTP)
	for range 3 {
		replies(t, s, "r", replied("r", true), false)
	}
	feeds(t, s, posted("a"), good("a")...)
	for range 3 {
		replies(t, s, "r", replied("r", true), false)
	}
	feeds(t, s, posted("b", "c")[:150], good("b")...)
	feeds(t, s, posted("b", "c")[150:], good("c")...)
	replies(t, s, "1", replied("1", true), false)
	feeds(t, s, closing("d"), good("d")...)
	replies(t, s, "2", replied("2", true), false)
	replies(t, s, "3", replied("3", false), true)
	over(t, s)
}

// P14.3: a reply of too many bytes changes nothing: the request still has none.
func TestReplyGreat(t *testing.T) {
	s := opened(t, api.StreamHTTP)
	refuses(t, s, of(most+1), api.ErrArg)
	feeds(t, s, posted("a")+closing("b"), good("a", "b")...)
	refuses(t, s, of(most+1), api.ErrArg)
	replies(t, s, "1", replied("1", true), false)
	for range 3 {
		refuses(t, s, of(most+1), api.ErrArg)
		refuses(t, s, of(1<<20), api.ErrArg)
	}
	replies(t, s, "2", replied("2", false), true)
	over(t, s)
}

// P14.2, P14.3: Refuse of HTTP, in each state.
func TestRefuse(t *testing.T) {
	for _, ahead := range []string{"", posted("a"), posted("a", "b"), closing("a"), posted("a") + closing("b"), posted("a")[:20], "\n", posted("a") + "\n"} {
		for count := range 3 {
			s := opened(t, api.StreamHTTP)
			s.Feed([]byte(ahead))
			for range count {
				s.Reply([]byte("r"))
			}
			if !s.Ended() {
				ends(t, s, refused)
			} else if over(t, s); ahead != closing("a") && ahead != posted("a")+closing("b") {
				t.Errorf("behind %q and %d replies the stream is at its end", ahead, count)
			}
		}
	}
}

// Objects: a nil stream, and one that no call made.
func TestNoStream(t *testing.T) {
	made := opened(t, api.StreamHTTP)
	made.Feed([]byte(posted("a")))
	*made = stream.Stream{}
	for _, s := range []*stream.Stream{nil, {}, new(stream.Stream), made} {
		for range 2 {
			for _, b := range []string{"", "\n", framed("a"), posted("a"), of(most + 1)} {
				feeds(t, s, b)
				refuses(t, s, b, api.ErrNil)
			}
			if l := s.Feed(nil); len(l) != 0 {
				t.Errorf("Feed(nil) is %v", l)
			}
			if b, e := s.Reply(nil); len(b) != 0 || e != api.ErrNil {
				t.Errorf("Reply(nil) is %q, %d", b, e)
			}
			if b := s.Refuse(); len(b) != 0 || s.Ended() {
				t.Errorf("Refuse is %q, %t", b, s.Ended())
			}
		}
	}
}

// P14.2: replies that are nil, empty, or empty with room.
func TestReplyNone(t *testing.T) {
	for _, kind := range kinds {
		want := framed("")
		if kind == api.StreamHTTP {
			want = replied("", true)
		}
		for _, none := range [][]byte{nil, {}, make([]byte, 0, 9)} {
			if b, e := opened(t, kind).Reply(none); string(b) != want || e != api.OK {
				t.Errorf("kind %d: Reply(%#v) is %q, %d", kind, none, b, e)
			}
		}
	}
}

// From arguments alone: streams know nothing of one another.
func TestTwoStreams(t *testing.T) {
	a, b, c := opened(t, api.StreamHTTP), opened(t, api.StreamHTTP), opened(t, api.StreamFrames)
	feeds(t, a, posted("one")[:40])
	feeds(t, b, closing("two"), good("two")...)
	feeds(t, c, "\x00")
	feeds(t, a, posted("one")[40:], good("one")...)
	feeds(t, c, "\x01x", good("x")...)
	replies(t, a, "1", replied("1", true), false)
	replies(t, b, "2", replied("2", false), true)
	replies(t, c, "3", framed("3"), false)
	ends(t, c, "")
	feeds(t, a, posted("three"), good("three")...)
}
