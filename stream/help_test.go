package stream_test

import (
	"fmt"
	"slices"
	"strings"
	"testing"

	"cicerone/api"
	"cicerone/http"
	"cicerone/prefix"
	"cicerone/stream"
)

// most is how many bytes a body has at most.
const most = 65535

// kinds are all that there are.
var kinds = []int{api.StreamFrames, api.StreamHTTP}

// framed is the frames of texts.
func framed(l ...string) string {
	s := ""
	for _, text := range l {
		b, _ := prefix.Encode([]byte(text))
		s += string(b)
	}
	return s
}

// posted is requests that are kept, each with one of these bodies; every other one is in chunks.
func posted(l ...string) string {
	s := ""
	for i, text := range l {
		b, _ := http.Ask([]byte(text), i%2 == 1)
		s += string(b)
	}
	return s
}

// closing is a request that is not kept.
func closing(text string) string {
	return strings.Replace(posted(text), "Host: resolver", "Connection: close", 1)
}

// sent is bodies as a client of a kind sends them.
func sent(kind int, l ...string) string {
	if kind == api.StreamFrames {
		return framed(l...)
	}
	return posted(l...)
}

// replied is what goes to a client of HTTP for a body.
func replied(body string, keep bool) string {
	b, _ := http.Reply(200, []byte(body), keep)
	return string(b)
}

// refused is what goes to a client of HTTP whose stream is refused.
const refused = "HTTP/1.1 400 Bad Request\r\nContent-Length: 0\r\nConnection: close\r\n\r\n"

// opened is a new stream.
func opened(t *testing.T, kind int) *stream.Stream {
	t.Helper()
	s, e := stream.New(kind)
	if s == nil || e != api.OK || s.Ended() {
		t.Fatalf("New(%d) is %v, %d", kind, s, e)
	}
	return s
}

// frame is a frame to be compared.
type frame struct {
	body string
	bad  bool
}

func (f frame) String() string {
	return fmt.Sprintf("%d bytes %.20q %t", len(f.body), f.body, f.bad)
}

// good is frames with these bodies, bad a Bad one.
func good(l ...string) []frame {
	var out []frame
	for _, text := range l {
		out = append(out, frame{text, false})
	}
	return out
}

var bad = frame{"", true}

// all is frames as they are compared.
func all(l []api.Frame) []frame {
	var out []frame
	for _, f := range l {
		out = append(out, frame{string(f.Body), f.Bad})
	}
	return out
}

// feeds asks for what Feed tells.
func feeds(t *testing.T, s *stream.Stream, b string, want ...frame) {
	t.Helper()
	if got := all(s.Feed([]byte(b))); !slices.Equal(got, want) {
		t.Errorf("Feed of %d bytes %.100q is %v, not %v", len(b), b, got, want)
	}
}

// replies asks for what Reply answers, and whether the stream is at its end then.
func replies(t *testing.T, s *stream.Stream, body, want string, ended bool) {
	t.Helper()
	b, e := s.Reply([]byte(body))
	if string(b) != want || e != api.OK || s.Ended() != ended {
		t.Errorf("Reply of %d bytes %.30q is %.200q, %d, %t, not %.200q, %t", len(body), body, b, e, s.Ended(), want, ended)
	}
}

// refuses asks that Reply answers an error, which changes nothing.
func refuses(t *testing.T, s *stream.Stream, body string, e api.Errno) {
	t.Helper()
	ended := s.Ended()
	if b, got := s.Reply([]byte(body)); len(b) != 0 || got != e || s.Ended() != ended {
		t.Errorf("Reply of %d bytes %.30q is %.200q, %d, %t", len(body), body, b, got, s.Ended())
	}
}

// ends asks for what Refuse tells, and that the stream is at its end then.
func ends(t *testing.T, s *stream.Stream, want string) {
	t.Helper()
	if b := s.Refuse(); string(b) != want || !s.Ended() {
		t.Errorf("Refuse is %q, %t", b, s.Ended())
	}
	over(t, s)
}

// over asks that a stream at its end does nothing any more.
func over(t *testing.T, s *stream.Stream) {
	t.Helper()
	for range 2 {
		for _, b := range []string{"", "\x00", "\n", framed("a", ""), posted("a", "b"), closing("c"), strings.Repeat("x", 5000)} {
			feeds(t, s, b)
			refuses(t, s, b, api.ErrArg)
		}
		refuses(t, s, strings.Repeat("x", most+1), api.ErrArg)
		if b := s.Refuse(); len(b) != 0 || !s.Ended() {
			t.Errorf("Refuse at the end is %q, %t", b, s.Ended())
		}
	}
}

// of is a text of so many bytes, those of lines and chunks among them.
func of(size int) string {
	return strings.Repeat("0\r\n\r\nxF\x00\xff-", size/10+1)[:size]
}

// spoil changes each byte of a list, and of the room behind it.
func spoil(b []byte) {
	b = b[:cap(b)]
	for i := range b {
		b[i] ^= 0x55
	}
}
