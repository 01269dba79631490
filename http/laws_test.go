package http_test

import (
	"fmt"
	"math/rand/v2"
	"slices"
	"strings"
	"testing"

	"cicerone/api"
	"cicerone/http"
)

// streams are some that a client may send, right and wrong.
func streams() []string {
	return []string{
		sized("abc") + chunked("de", 1) + sized("", closeField) + "rest",
		posted("content-type:APPLICATION/DNS-MESSAGE", "TRANSFER-encoding:\t Chunked ", "x:") + "1\r\na\r\n0\r\n\r\n" + sized("b")[:40],
		sized("a", keepField) + posted(typeField, sizeField(1), "X y"),
		sized("a") + "\r\n" + sized("b"),
		chunked("abc", 3)[:90] + "X" + sized("b"),
		posted(chunkField, typeField) + "10000\r\n" + sized("b"),
		sized("")[:50] + "\r" + sized("b"),
		"",
	}
}

// P13.4: each cut of streams in two and in three.
func TestCuts(t *testing.T) {
	for _, stream := range streams() {
		for i := range len(stream) + 1 {
			cut(t, stream[:i], stream[i:])
			for j := i; j <= len(stream); j += 1 + len(stream)/40 {
				cut(t, stream[:i], stream[i:j], stream[j:])
			}
		}
		cut(t, bytewise(stream)...)
	}
}

// P13.4: great heads and bodies, cut about each byte at which something ends.
func TestCutsGreat(t *testing.T) {
	parts := []string{filled(mostHead), "abc", sized(of(most)), chunked(of(most), 3000), filled(mostHead + 1)}
	stream := strings.Join(parts, "")
	ends := []int{0, len(stream)}
	at := 0
	for _, part := range parts {
		at += len(part)
		for near := at - 2; near <= min(at+2, len(stream)); near++ {
			ends = append(ends, near)
		}
	}
	slices.Sort(ends)
	for i, from := range ends {
		for _, to := range ends[i:] {
			cut(t, stream[:from], stream[from:to], stream[to:])
		}
	}
}

// P13.1: behind each beginning of streams, and in the place of each byte, bytes at which something may change, held against the second reader.
func TestEachByte(t *testing.T) {
	for _, stream := range streams()[:2] {
		for i := range len(stream) + 1 {
			for _, b := range bytewise("\x00\x08\t\n\v\r\x1f !-/059:;@AFGZ[`afgz{~\x7f\x80\xff") {
				cut(t, stream[:i], b, "", "\r\n", "\r\n", "z")
				cut(t, stream[:i]+b+stream[min(i+1, len(stream)):])
			}
		}
	}
}

// drawnCase is a text with some of its letters small, some capital.
func drawnCase(r *rand.Rand, s string) string {
	switch r.IntN(4) {
	case 0:
		return strings.ToUpper(s)
	case 1:
		return strings.ToLower(s)
	}
	return s
}

// drawnField is a field, with blanks about its value.
func drawnField(r *rand.Rand, field string) string {
	blanks := []string{"", " ", "\t", " \t "}
	name, value, _ := strings.Cut(drawnCase(r, field), ": ")
	return name + ":" + blanks[r.IntN(4)] + value + blanks[r.IntN(4)]
}

// drawnRequest is a request, and what is told of it.
func drawnRequest(r *rand.Rand) (string, told) {
	q := kept(of([]int{0, 1, r.IntN(20), r.IntN(200)}[r.IntN(4)]))
	fields := []string{typeField}
	behind := q.body
	if r.IntN(2) == 0 {
		fields = append(fields, fmt.Sprintf("Content-Length: %0*d", r.IntN(6), len(q.body)))
	} else {
		whole := chunked(q.body, 1+r.IntN(50))
		fields, behind = append(fields, chunkField), whole[strings.Index(whole, "\r\n\r\n")+4:]
	}
	switch r.IntN(9) {
	case 0:
		fields, q.keep = append(fields, closeField), false
	case 1, 2:
		fields = append(fields, keepField)
	}
	for range r.IntN(3) {
		fields = append(fields, []string{"Host: resolver", "X:", "Accept: */*", "content: length"}[r.IntN(4)])
	}
	r.Shuffle(len(fields), func(i, j int) { fields[i], fields[j] = fields[j], fields[i] })
	for i := range fields {
		fields[i] = drawnField(r, fields[i])
	}
	return posted(fields...) + behind, q
}

// drawnParts is a text cut anywhere, at some places more than once.
func drawnParts(r *rand.Rand, s string) []string {
	ends := []int{len(s)}
	for range r.IntN(12) {
		ends = append(ends, r.IntN(len(s)+1))
	}
	slices.Sort(ends)
	var l []string
	from := 0
	for _, end := range ends {
		l, from = append(l, s[from:end]), end
	}
	return l
}

// P13.1, P13.4: drawn requests, cut anywhere.
func TestDrawn(t *testing.T) {
	r := rand.New(rand.NewPCG(13, 1))
	for range 2000 {
		stream := ""
		want := outcome{}
		for range r.IntN(5) {
			b, q := drawnRequest(r)
			if stream += b; !want.ended {
				want.requests, want.ended = append(want.requests, q), !q.keep
			}
		}
		if got := plain(stream); !got.same(want) {
			t.Fatalf("the second reader has %v of %q, not %v", got, stream, want)
		}
		more, _ := drawnRequest(r)
		cut(t, drawnParts(r, stream+more[:r.IntN(len(more)+1)])...)
	}
}

// P13.1, P13.4: drawn requests of which some bytes are others, or away, or twice there, or some lines are.
func TestDrawnWrong(t *testing.T) {
	r := rand.New(rand.NewPCG(13, 2))
	for range 8000 {
		stream, _ := drawnRequest(r)
		more, _ := drawnRequest(r)
		l := strings.SplitAfter(stream+more, "\n")
		if i := r.IntN(len(l)); r.IntN(3) == 0 {
			l = slices.Insert(l, i, l[r.IntN(len(l))])
		} else if r.IntN(3) == 0 {
			l = slices.Delete(l, i, i+1)
		}
		b := []byte(strings.Join(l, ""))
		for range r.IntN(3) {
			at := r.IntN(len(b))
			switch r.IntN(3) {
			case 0:
				b[at] = "01:; \t\r\n-aZ\x00\x7f\x80"[r.IntN(14)]
			case 1:
				b = append(slices.Delete(b, at, at+1), 'x')
			case 2:
				b = slices.Insert(b, at, b[at])
			}
		}
		cut(t, drawnParts(r, string(b))...)
	}
}

// Memory: bytes that were handed in are neither changed nor kept, nor the room behind them.
func TestFeedMemory(t *testing.T) {
	stream := sized("abc") + chunked("defg", 3) + sized("") + sized(of(50), keepField) + sized("last", closeField)
	want := []told{kept("abc"), kept("defg"), kept(""), kept(of(50)), closed("last")}
	for _, size := range []int{1, 2, 3, 7, 30, 64, 100, 201, len(stream)} {
		r := http.New()
		var got []told
		var kept []api.Request
		for part := range slices.Chunk([]byte(stream), size) {
			room := append(slices.Clone(part), "room behind it"...)
			was := whole(room)
			l, _ := r.Feed(room[:len(part)])
			if whole(room) != was {
				t.Errorf("a feed of %q has made them %q", was, whole(room))
			}
			spoil(room)
			got, kept = append(got, all(l)...), append(kept, l...)
		}
		if !slices.Equal(got, want) || !slices.Equal(all(kept), want) {
			t.Errorf("with bytes changed behind feeds of %d there are %v, then %v", size, got, all(kept))
		}
	}
}

// Memory: no body shares anything, its room too, with another one, with the bytes, or with what the reader has.
func TestBodiesMemory(t *testing.T) {
	stream := sized("abc") + chunked("defg", 3) + sized("hi") + chunked(of(100), 100) + sized(of(90)) + sized("next")[:88]
	want := plain(stream).requests
	for _, size := range []int{1, 5, 30, 90, 200, len(stream)} {
		r := http.New()
		var requests []api.Request
		var parts [][]byte
		for part := range slices.Chunk([]byte(stream), size) {
			part = slices.Clone(part)
			parts = append(parts, part)
			l, _ := r.Feed(part)
			requests = append(requests, l...)
			clear(l[:cap(l)])
		}
		for i := range requests {
			spoil(requests[i].Body)
			for j, q := range all(requests) {
				if j != i && q != want[j] {
					t.Errorf("feeds of %d: with body %d request %d has become %v", size, i, j, q)
				}
			}
			spoil(requests[i].Body)
		}
		for i := range requests {
			spoil(requests[i].Body)
			_ = append(requests[i].Body, "over the end"...)
		}
		if got := string(slices.Concat(parts...)); got != stream {
			t.Errorf("feeds of %d: with the bodies the bytes have become %q", size, got)
		}
		feeds(t, r, sized("next")[88:]+sized("new"), api.OK, false, kept("next"), kept("new"))
	}
}
