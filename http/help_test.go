package http_test

import (
	"fmt"
	"regexp"
	"slices"
	"strconv"
	"strings"
	"testing"

	"cicerone/api"
	"cicerone/chunk"
	"cicerone/http"
)

// most is how many bytes a body has at most, mostHead a head.
const (
	most     = 65535
	mostHead = 2000
)

// postLine is the first line of each request; the others are fields that may stand behind it.
const (
	postLine   = "POST /dns-query HTTP/1.1"
	typeField  = "Content-Type: application/dns-message"
	chunkField = "Transfer-Encoding: chunked"
	closeField = "Connection: close"
	keepField  = "Connection: keep-alive"
)

// sizeField is the field that tells so many bytes.
func sizeField(size int) string { return "Content-Length: " + strconv.Itoa(size) }

// lines is texts as lines, and an empty one behind them.
func lines(l ...string) string { return strings.Join(l, "\r\n") + "\r\n\r\n" }

// posted is a request's head with these fields.
func posted(fields ...string) string { return lines(slices.Insert(fields, 0, postLine)...) }

// sized is a request with a body whose length is told ahead, and with further fields.
func sized(body string, fields ...string) string {
	return posted(append([]string{typeField, sizeField(len(body))}, fields...)...) + body
}

// chunked is a request with a body in chunks of so many bytes, and with further fields.
func chunked(body string, size int, fields ...string) string {
	b, _ := chunk.Encode([]byte(body), size)
	return posted(append([]string{chunkField, typeField}, fields...)...) + string(b)
}

// told is a request that a Feed tells.
type told struct {
	line, body string
	keep       bool
}

// kept is a request that is kept, closed one that is not.
func kept(body string) told   { return told{postLine, body, true} }
func closed(body string) told { return told{postLine, body, false} }

func (q told) String() string {
	return fmt.Sprintf("%q with %d bytes %.20q, %t", q.line, len(q.body), q.body, q.keep)
}

// outcome is what a Feed answers, and whether the reader has ended.
type outcome struct {
	requests []told
	e        api.Errno
	ended    bool
}

func (o outcome) String() string { return fmt.Sprint(o.requests, ", ", int(o.e), ", ", o.ended) }

// same tells whether two outcomes are alike.
func (o outcome) same(p outcome) bool {
	return slices.Equal(o.requests, p.requests) && o.e == p.e && o.ended == p.ended
}

// all is requests as they are compared.
func all(l []api.Request) []told {
	var out []told
	for _, q := range l {
		out = append(out, told{q.Line, string(q.Body), q.Keep})
	}
	return out
}

// fed is what a reader tells of bytes.
func fed(r *http.Reader, b string) outcome {
	l, e := r.Feed([]byte(b))
	return outcome{all(l), e, r.Ended()}
}

// feeds asks what a Feed answers.
func feeds(t *testing.T, r *http.Reader, b string, e api.Errno, ended bool, want ...told) {
	t.Helper()
	if got := fed(r, b); !got.same(outcome{want, e, ended}) {
		t.Errorf("Feed of %d bytes %.300q is %v, not %v", len(b), b, got, outcome{want, e, ended})
	}
}

// over asks that a reader that has ended takes nothing, whatever comes.
func over(t *testing.T, r *http.Reader) {
	t.Helper()
	for _, b := range []string{"", "\r", "\n", "\x00", "x", sized("abc"), chunked("abc", 2), "GET / HTTP/1.1\r\n\r\n", times(3000, "x"), ""} {
		feeds(t, r, b, api.OK, true)
	}
}

// byBytes feeds a new reader with one byte at a time, but for the last one, and gives it and all that it told.
func byBytes(t *testing.T, b string) (*http.Reader, []told) {
	t.Helper()
	r := http.New()
	var l []told
	for i := range len(b) - 1 {
		got := fed(r, b[i:i+1])
		if got.e != api.OK || got.ended {
			t.Errorf("of %.300q byte %d is %v", b, i, got)
		}
		l = append(l, got.requests...)
	}
	return r, l
}

// wrong asks that bytes are an error at their last one and not ahead of it, whether they come in one feed or one by one, with these requests ahead; and that the reader has ended then.
func wrong(t *testing.T, b string, want ...told) {
	t.Helper()
	last := len(b) - 1
	r := http.New()
	feeds(t, r, b[:last], api.OK, false, want...)
	feeds(t, r, b[last:], api.ErrHTTP, true)
	over(t, r)
	for _, behind := range []string{"", "\n", sized("abc")} {
		r = http.New()
		feeds(t, r, b+behind, api.ErrHTTP, true, want...)
		over(t, r)
	}
	r, l := byBytes(t, b)
	if !slices.Equal(l, want) {
		t.Errorf("byte by byte %.300q is %v, not %v", b, l, want)
	}
	feeds(t, r, b[last:], api.ErrHTTP, true)
	over(t, r)
}

// right asks that bytes are these requests, the last one whole with the last byte, whether they come in one feed or one by one.
func right(t *testing.T, b string, want ...told) {
	t.Helper()
	last, ahead := len(b)-1, len(want)-1
	ended := !want[ahead].keep
	feeds(t, http.New(), b, api.OK, ended, want...)
	r := http.New()
	feeds(t, r, b[:last], api.OK, false, want[:ahead]...)
	feeds(t, r, b[last:], api.OK, ended, want[ahead])
	r, l := byBytes(t, b)
	if !slices.Equal(l, want[:ahead]) {
		t.Errorf("byte by byte %.300q is %v, not %v", b, l, want[:ahead])
	}
	feeds(t, r, b[last:], api.OK, ended, want[ahead])
	feeds(t, r, "", api.OK, ended)
	if ended {
		over(t, r)
	} else {
		feeds(t, r, sized("next"), api.OK, false, kept("next"))
	}
}

// What the second reader knows a head by.
var (
	noPart   = regexp.MustCompile("[^\t\n\r -~]|\r[^\n]|(^|[^\r])\n")
	heads    = regexp.MustCompile("^POST /dns-query HTTP/1\\.1\r\n([A-Za-z0-9-]+:[\t -~]*\r\n)*\r\n$")
	types    = regexp.MustCompile("(?im)^content-type:[ \t]*(application/dns-message)?")
	lengths  = regexp.MustCompile("(?im)^(content-length|transfer-encoding):[ \t]*([0-9]{1,5}\\b|chunked\\b)?")
	connects = regexp.MustCompile("(?im)^connection:[ \t]*(close|keep-alive)?")
	ends     = regexp.MustCompile("^[ \t]*\r\n")
)

// value is what the one field of a kind has (none: there is no such field), and whether there is no second one or other value.
func value(head string, kind *regexp.Regexp) (string, bool) {
	l := kind.FindAllStringSubmatchIndex(head, -1)
	if len(l) == 0 {
		return "", true
	}
	at := l[0][len(l[0])-2:]
	if len(l) > 1 || at[0] < 0 || !ends.MatchString(head[at[1]:]) {
		return "", false
	}
	return strings.ToLower(head[at[0]:at[1]]), true
}

// plainHead is what a whole head tells: the length (-1: chunks), whether it is kept; and whether it may be.
func plainHead(head string) (int, bool, bool) {
	kind, ok1 := value(head, types)
	length, ok2 := value(head, lengths)
	connection, ok3 := value(head, connects)
	size, e := strconv.Atoi(length)
	named := strings.ToLower(lengths.FindString(head))
	if length == "chunked" {
		size, e = -1, nil
		ok2 = ok2 && strings.HasPrefix(named, "transfer")
	} else {
		ok2 = ok2 && strings.HasPrefix(named, "content")
	}
	ok := heads.MatchString(head) && ok1 && ok2 && ok3 && kind != "" && e == nil && size <= most
	return size, connection != "close", ok
}

// plain is what all bytes that came hold, read anew by the chapter's words: the requests, whether an error is behind them, and whether a reader has ended.
func plain(b string) outcome {
	o := outcome{}
	bad := func() outcome { return outcome{o.requests, api.ErrHTTP, true} }
	for b != "" {
		end := strings.Index("\r\n"+b, "\r\n\r\n") + 2
		whole := end >= 2 && end <= mostHead
		if !whole {
			end = min(len(b), mostHead)
		}
		head, rest := b[:end], b[end:]
		if noPart.MatchString(head) || !whole && end == mostHead {
			return bad()
		}
		if !whole {
			return o
		}
		size, keep, ok := plainHead(head)
		if !ok {
			return bad()
		}
		body := ""
		if size < 0 {
			r := chunk.New(most)
			taken, whole, e := r.Feed([]byte(rest))
			if e != api.OK {
				return bad()
			}
			if !whole {
				return o
			}
			size, body = taken, string(r.Body())
		} else if len(rest) < size {
			return o
		} else {
			body = rest[:size]
		}
		o.requests = append(o.requests, told{postLine, body, keep})
		b = rest[size:]
		if !keep {
			o.ended = true
			return o
		}
	}
	return o
}

// cut feeds a new reader with parts, and asks behind each of them for what all that came holds.
func cut(t *testing.T, parts ...string) {
	t.Helper()
	r := http.New()
	came, had := "", outcome{}
	for i, part := range parts {
		came += part
		now := plain(came)
		want := outcome{now.requests[len(had.requests):], now.e, now.ended}
		if had.ended {
			want.e = api.OK
		}
		if got := fed(r, part); !got.same(want) {
			t.Fatalf("of the parts %.900q number %d is %v, not %v", parts, i, got, want)
		}
		had = now
	}
}

// of is a text of so many bytes, those of lines and chunks among them.
func of(size int) string {
	const some = "0\r\n0\r\n\r\nxF\x00\xff-"
	b := make([]byte, size)
	for i := range b {
		b[i] = some[(i+size)%len(some)]
	}
	return string(b)
}

// times is a text so many times.
func times(n int, s string) string { return strings.Repeat(s, n) }

// bytewise is a text in parts of one byte.
func bytewise(s string) []string {
	var l []string
	for i := range len(s) {
		l = append(l, s[i:i+1])
	}
	return l
}

// spoil changes each byte of a list, and of the room behind it.
func spoil(b []byte) {
	b = b[:cap(b)]
	for i := range b {
		b[i] ^= 0x55
	}
}

// whole is a list with the room behind it.
func whole(b []byte) string { return string(b[:cap(b)]) }
