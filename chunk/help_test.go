package chunk_test

import (
	"fmt"
	"strconv"
	"strings"
	"testing"

	"cicerone/api"
	"cicerone/chunk"
)

// most is how many bytes a body has at most.
const most = 65535

// hexadecimal is all digits that a length may have.
const hexadecimal = "0123456789abcdefABCDEF"

// of is a text of so many bytes, those of marks and digits among them.
func of(size int) string {
	const some = "0\r\n0\r\n\r\nxF\x00\xff-"
	b := make([]byte, size)
	for i := range b {
		b[i] = some[(i+size)%len(some)]
	}
	return string(b)
}

// times is a text so many times.
func times(n int, s string) string { return strings.Repeat(s, n) }

// outcome is what a reader tells: what Feed answers, and the body.
type outcome struct {
	taken int
	whole bool
	e     api.Errno
	body  string
}

func (o outcome) String() string {
	return fmt.Sprintf("%d, %t, %d, a body of %d bytes %.20q", o.taken, o.whole, o.e, len(o.body), o.body)
}

// fed is what a reader tells of bytes.
func fed(r *chunk.Reader, b string) outcome {
	n, whole, e := r.Feed([]byte(b))
	return outcome{n, whole, e, string(r.Body())}
}

// feeds asks what a Feed answers, and which body there is behind it.
func feeds(t *testing.T, r *chunk.Reader, b string, taken int, whole bool, e api.Errno, body string) {
	t.Helper()
	want := outcome{taken, whole, e, body}
	if got := fed(r, b); got != want {
		t.Errorf("Feed of %d bytes %.30q is %v, not %v", len(b), b, got, want)
	}
}

// goesOn asks that a reader takes all of a feed, and that the body is not whole.
func goesOn(t *testing.T, r *chunk.Reader, b string, body string) {
	t.Helper()
	feeds(t, r, b, len(b), false, api.OK, body)
}

// ended asks that a reader at its end takes nothing, whatever comes.
func ended(t *testing.T, r *chunk.Reader, whole bool, e api.Errno, body string) {
	t.Helper()
	for _, b := range []string{"", "\r", "\n", "\r\n", "0", "x", "3\r\nabc\r\n", "0\r\n\r\n", times(70000, "0"), ""} {
		feeds(t, r, b, 0, whole, e, body)
	}
}

// wrong asks that bytes are an error at their last one and not ahead of it, whether they come in one feed or one by one; and that it stays, with the body.
func wrong(t *testing.T, most int, b string, e api.Errno, body string) {
	t.Helper()
	last := len(b) - 1
	r := chunk.New(most)
	goesOn(t, r, b[:last], body)
	feeds(t, r, b[last:], 0, false, e, body)
	ended(t, r, false, e, body)
	r = chunk.New(most)
	feeds(t, r, b, 0, false, e, body)
	ended(t, r, false, e, body)
	r = chunk.New(most)
	feeds(t, r, b+"\r\n0\r\n\r\n", 0, false, e, body)
	ended(t, r, false, e, body)
	r = chunk.New(most)
	for i := range last {
		if n, whole, e := r.Feed([]byte(b[i : i+1])); n != 1 || whole || e != api.OK {
			t.Errorf("of %.30q byte %d is %d, %t, %d", b, i, n, whole, e)
		}
	}
	feeds(t, r, b[last:], 0, false, e, body)
	ended(t, r, false, e, body)
}

// right asks that bytes are a body, whole with their last one, whether they come in one feed or one by one, and whatever stands behind.
func right(t *testing.T, most int, b string, body string) {
	t.Helper()
	last := len(b) - 1
	for _, behind := range []string{"", "\r\n", "0\r\n\r\n", "x"} {
		r := chunk.New(most)
		feeds(t, r, b+behind, len(b), true, api.OK, body)
		ended(t, r, true, api.OK, body)
		r = chunk.New(most)
		goesOn(t, r, b[:last], body)
		feeds(t, r, b[last:]+behind, 1, true, api.OK, body)
		ended(t, r, true, api.OK, body)
	}
	r := chunk.New(most)
	for i := range last {
		if n, whole, e := r.Feed([]byte(b[i : i+1])); n != 1 || whole || e != api.OK {
			t.Errorf("of %.30q byte %d is %d, %t, %d", b, i, n, whole, e)
		}
	}
	feeds(t, r, b[last:], 1, true, api.OK, body)
	ended(t, r, true, api.OK, body)
}

// marks is what must come as it stands: what is behind it, and whether bytes end ahead of that, or have something else.
func marks(b, want string) (rest string, short, ok bool) {
	for i := range len(want) {
		if i == len(b) {
			return "", true, true
		}
		if b[i] != want[i] {
			return "", false, false
		}
	}
	return b[len(want):], false, true
}

// plain is what all bytes that came are, read anew by the chapter's words; taken is how many of them, if there is no error.
func plain(all string, most int) outcome {
	o := outcome{taken: len(all)}
	bad := func(e api.Errno) outcome { return outcome{e: e, body: o.body} }
	for rest := all; rest != ""; {
		behind := strings.TrimLeft(rest, hexadecimal)
		digits := rest[:len(rest)-len(behind)]
		if len(digits) > 6 {
			return bad(api.ErrChunk)
		}
		if behind == "" {
			return o
		}
		if digits == "" || behind[0] != '\r' {
			return bad(api.ErrChunk)
		}
		size, _ := strconv.ParseInt(digits, 16, 64)
		if len(o.body)+int(size) > most {
			return bad(api.ErrFull)
		}
		end := size == 0
		want := "\r\n"
		if end {
			want = "\r\n\r\n"
		}
		var short, ok bool
		if rest, short, ok = marks(behind, want); ok && !short && !end {
			part := rest[:min(int(size), len(rest))]
			o.body += part
			rest, short, ok = marks(rest[len(part):], "\r\n")
		}
		if !ok {
			return bad(api.ErrChunk)
		}
		if short {
			return o
		}
		if end {
			o.taken, o.whole = len(all)-len(rest), true
			return o
		}
	}
	return o
}

// cut feeds a new reader with parts, and asks behind each of them for what all that came is.
func cut(t *testing.T, most int, parts ...string) {
	t.Helper()
	r := chunk.New(most)
	all, taken := "", 0
	for i, part := range parts {
		all += part
		want := plain(all, most)
		if want.e == api.OK {
			want.taken, taken = want.taken-taken, want.taken
		}
		if got := fed(r, part); got != want {
			t.Fatalf("most %d: of the parts %.300q number %d is %v, not %v", most, parts, i, got, want)
		}
	}
}

// bytewise is a text in parts of one byte.
func bytewise(s string) []string {
	var l []string
	for i := range len(s) {
		l = append(l, s[i:i+1])
	}
	return l
}

// spoil changes each byte of a list, and of the room behind it.
func spoil(b []byte) {
	b = b[:cap(b)]
	for i := range b {
		b[i] ^= 0x55
	}
}

// whole is a list with the room behind it.
func whole(b []byte) string { return string(b[:cap(b)]) }
