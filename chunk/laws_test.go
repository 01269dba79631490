package chunk_test

import (
	"fmt"
	"math/rand/v2"
	"slices"
	"strings"
	"testing"

	"cicerone/api"
	"cicerone/chunk"
)

// P12.3: each cut of bodies in two and in three, with bytes behind their end, and of what is none.
func TestCuts(t *testing.T) {
	for _, stream := range []string{
		"3\r\nabc\r\n0\r\n\r\nrest",
		"1\r\na\r\n00000B\r\n0\r\n\r\n0\r\n\r\nq\r\n000000\r\n\r\n0\r\n\r\n",
		"2\r\nab\r\n3\r\ncde\r\n4\r\nfghi\r\n0\r\n\r\n",
		"2\r\nab\r\n2\r\ncdX\n0\r\n\r\n",
		"2\r\nab\r\n0000000\r\n\r\n",
		"0\r\nX: y\r\n\r\n",
		"",
	} {
		for i := range len(stream) + 1 {
			for j := i; j <= len(stream); j++ {
				for _, most := range []int{0, 4, 12, most} {
					cut(t, most, stream[:i], stream[i:j], stream[j:])
				}
			}
		}
		cut(t, most, bytewise(stream)...)
	}
}

// P12.1: behind each beginning of a body each byte, held against the second reader.
func TestEachByte(t *testing.T) {
	stream := "2\r\nab\r\n00001\r\nc\r\n000\r\n\r\n"
	for i := range len(stream) + 1 {
		for c := range 256 {
			b := string([]byte{byte(c)})
			for _, most := range []int{2, 3} {
				cut(t, most, stream[:i]+b)
				cut(t, most, stream[:i], b, "", "\r\n", "0")
				cut(t, most, stream[:i]+b+"\r\n", "0\r\n")
			}
		}
	}
}

// drawnParts is a text cut anywhere, at some places more than once.
func drawnParts(r *rand.Rand, s string) []string {
	ends := []int{len(s)}
	for range r.IntN(12) {
		ends = append(ends, r.IntN(len(s)+1))
	}
	slices.Sort(ends)
	var l []string
	from := 0
	for _, end := range ends {
		l, from = append(l, s[from:end]), end
	}
	return l
}

// drawnLength is a length's digits.
func drawnLength(r *rand.Rand, size int) string {
	digits := fmt.Sprintf("%x", size)
	if r.IntN(2) == 0 {
		digits = strings.ToUpper(digits)
	}
	return times(r.IntN(7-len(digits)), "0") + digits
}

// drawnBody is a body's chunks, and the body.
func drawnBody(r *rand.Rand) (string, string) {
	stream, body := "", ""
	for range r.IntN(6) {
		part := of([]int{1, 2, 1 + r.IntN(20), 1 + r.IntN(20), 1 + r.IntN(400)}[r.IntN(5)])
		stream += drawnLength(r, len(part)) + "\r\n" + part + "\r\n"
		body += part
	}
	return stream + drawnLength(r, 0) + "\r\n\r\n", body
}

// P12.1, P12.3: drawn bodies, cut anywhere, with a limit about their length.
func TestDrawn(t *testing.T) {
	r := rand.New(rand.NewPCG(12, 1))
	for range 3000 {
		stream, body := drawnBody(r)
		if got, want := plain(stream, most), (outcome{len(stream), true, api.OK, body}); got != want {
			t.Fatalf("the second reader has %v, not %v", got, want)
		}
		limit := max(0, len(body)+r.IntN(5)-2)
		cut(t, limit, drawnParts(r, stream+of(r.IntN(30)))...)
	}
}

// P12.1, P12.3: drawn bodies of which some bytes are others, or away, or twice there; and drawn bytes.
func TestDrawnWrong(t *testing.T) {
	r := rand.New(rand.NewPCG(12, 2))
	for range 5000 {
		stream, _ := drawnBody(r)
		b := []byte(stream)
		for range 1 + r.IntN(2) {
			at := r.IntN(len(b))
			switch r.IntN(3) {
			case 0:
				b[at] = "0123abcABg;\r\n \x00"[r.IntN(15)]
			case 1:
				b = append(slices.Delete(b, at, at+1), 'x')
			case 2:
				b = slices.Insert(b, at, b[at])
			}
		}
		cut(t, most, drawnParts(r, string(b))...)
	}
	for range 5000 {
		b := make([]byte, r.IntN(30))
		for i := range b {
			b[i] = "00112ab\r\r\n\n"[r.IntN(11)]
		}
		cut(t, r.IntN(9), drawnParts(r, string(b))...)
		cut(t, most, bytewise(string(b))...)
	}
}

// Memory: bytes that were handed in are neither changed nor kept, nor the room behind them.
func TestFeedMemory(t *testing.T) {
	stream := "3\r\nabc\r\n00000A\r\n0123456789\r\n1\r\nz\r\n0\r\n\r\n"
	for size := 1; size <= len(stream); size++ {
		r := chunk.New(100)
		for part := range slices.Chunk([]byte(stream), size) {
			room := append(slices.Clone(part), "room behind it"...)
			was := whole(room)
			r.Feed(room[:len(part)])
			if whole(room) != was {
				t.Errorf("a feed of %q has made them %q", was, whole(room))
			}
			spoil(room)
		}
		feeds(t, r, "", 0, true, api.OK, "abc0123456789z")
	}
}

// Memory: each Body is new: none shares anything, its room too, with another one, with what the reader has, or with the bytes.
func TestBodyMemory(t *testing.T) {
	stream := "3\r\nabc\r\n00000A\r\n0123456789\r\n1\r\nz\r\n0\r\n\r\n"
	for _, end := range []string{stream, strings.Replace(stream, "z\r", "zX", 1), stream[:20]} {
		r := chunk.New(100)
		var parts, bodies [][]byte
		var had []string
		for _, part := range bytewise(end) {
			parts = append(parts, []byte(part))
			r.Feed(parts[len(parts)-1])
			for range 2 {
				body := r.Body()
				bodies, had = append(bodies, body), append(had, string(body))
			}
		}
		want := string(r.Body())
		if want != plain(end, 100).body {
			t.Errorf("the body is %q", want)
		}
		for i := range bodies {
			spoil(bodies[i])
			for j := range bodies {
				if j != i && string(bodies[j]) != had[j] {
					t.Fatalf("with body %d body %d has become %q", i, j, bodies[j])
				}
			}
			if got := string(r.Body()); got != want {
				t.Fatalf("with body %d the reader's has become %q", i, got)
			}
			spoil(bodies[i])
		}
		for i := range bodies {
			spoil(bodies[i])
			_ = append(bodies[i], "over the end"...)
		}
		if got := string(slices.Concat(parts...)); got != end {
			t.Errorf("with the bodies the bytes have become %q", got)
		}
	}
}

// Memory: a body that was answered and is written over plays no part in what comes behind.
func TestBodyBetween(t *testing.T) {
	r := chunk.New(100)
	for i := range 50 {
		r.Feed([]byte("1\r\n" + string(rune('a'+i%26)) + "\r\n"))
		body := r.Body()
		if len(body) != i+1 || body[i] != byte('a'+i%26) {
			t.Fatalf("behind %d chunks the body is %q", i+1, body)
		}
		spoil(append(body, times(i, "w")...))
	}
	want := times(2, "abcdefghijklmnopqrstuvwxyz")[:50]
	feeds(t, r, "0\r\n\r\n", 5, true, api.OK, want)
}
