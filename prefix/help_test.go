package prefix_test

import (
	"fmt"
	"slices"
	"strings"
	"testing"

	"cicerone/api"
	"cicerone/prefix"
)

// most is how many bytes a frame has at most.
const most = 65535

// framed is the frames of texts, by the chapter's words.
func framed(l ...string) string {
	s := ""
	for _, text := range l {
		s += string([]byte{byte(len(text) / 256), byte(len(text) % 256)}) + text
	}
	return s
}

// of is a text of so many bytes, none of which is like its neighbours.
func of(size int) string {
	b := make([]byte, size)
	for i := range b {
		b[i] = byte(i*7 + i/256 + size)
	}
	return string(b)
}

// texts is frames as texts.
func texts(frames [][]byte) []string {
	var l []string
	for _, f := range frames {
		l = append(l, string(f))
	}
	return l
}

// short is texts in few words.
func short(l []string) string {
	s := fmt.Sprint(len(l), ":")
	for _, text := range l {
		s += fmt.Sprintf(" %d bytes %.12q", len(text), text)
	}
	return s
}

// feeds asks what a Feed tells, and what waits behind it.
func feeds(t *testing.T, r *prefix.Reader, b string, left int, want ...string) {
	t.Helper()
	if got := texts(r.Feed([]byte(b))); !slices.Equal(got, want) {
		t.Errorf("Feed of %d bytes %.12q tells %s, not %s", len(b), b, short(got), short(want))
	}
	if got := r.Left(); got != left {
		t.Errorf("behind %d bytes %.12q Left is %d, not %d", len(b), b, got, left)
	}
}

// plain is what all bytes that came hold, reckoned anew: the frames that are whole, and how many bytes are of none.
func plain(all string) ([]string, int) {
	var l []string
	for len(all) >= 2 {
		end := 2 + int(all[0])*256 + int(all[1])
		if len(all) < end {
			break
		}
		l, all = append(l, all[2:end]), all[end:]
	}
	return l, len(all)
}

// cut feeds a new reader with parts, and asks behind each of them for what all that came holds.
func cut(t *testing.T, parts ...string) {
	t.Helper()
	r := prefix.New()
	all, told := "", 0
	for i, part := range parts {
		all += part
		want, left := plain(all)
		got := texts(r.Feed([]byte(part)))
		if !slices.Equal(got, want[told:]) || r.Left() != left {
			t.Fatalf("of the parts %.200q number %d tells %s, Left %d, not %s, %d", parts, i, short(got), r.Left(), short(want[told:]), left)
		}
		told = len(want)
	}
}

// spoil changes each byte of a list, and of the room behind it.
func spoil(b []byte) {
	b = b[:cap(b)]
	for i := range b {
		b[i] ^= 0x55
	}
}

// whole is a list with the room behind it.
func whole(b []byte) string { return string(b[:cap(b)]) }

// refuses asks that Encode answers ErrArg, and nothing beside it.
func refuses(t *testing.T, b []byte) {
	t.Helper()
	if f, e := prefix.Encode(b); len(f) != 0 || e != api.ErrArg {
		t.Errorf("Encode of %d bytes is %d bytes, %d", len(b), len(f), e)
	}
}

// bytewise is a text in parts of one byte.
func bytewise(s string) []string {
	var l []string
	for i := range len(s) {
		l = append(l, s[i:i+1])
	}
	return l
}

// times is a text so many times.
func times(n int, s string) string { return strings.Repeat(s, n) }
