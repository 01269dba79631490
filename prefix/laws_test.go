package prefix_test

import (
	"math/rand/v2"
	"slices"
	"testing"

	"cicerone/prefix"
)

// drawnStream is frames, most of them small, and perhaps the beginning of one.
func drawnStream(r *rand.Rand) string {
	s := ""
	for range r.IntN(8) {
		s += framed(of([]int{0, 0, 1, 2, r.IntN(9), r.IntN(9), r.IntN(600), r.IntN(most + 1)}[r.IntN(8)]))
	}
	more := framed(of(r.IntN(300)))
	return s + more[:r.IntN(len(more)+1)]
}

// drawnParts is a text cut anywhere, at some places more than once.
func drawnParts(r *rand.Rand, s string) []string {
	ends := []int{len(s)}
	for range r.IntN(12) {
		ends = append(ends, r.IntN(len(s)+1))
	}
	slices.Sort(ends)
	var l []string
	from := 0
	for _, end := range ends {
		l, from = append(l, s[from:end]), end
	}
	return l
}

// P11.2, P11.3: drawn frames and cuts; and bytes of which nobody asked that they be frames.
func TestDrawn(t *testing.T) {
	r := rand.New(rand.NewPCG(11, 3))
	for range 2000 {
		cut(t, drawnParts(r, drawnStream(r))...)
	}
	for range 500 {
		b := make([]byte, r.IntN(400))
		for i := range b {
			b[i] = byte(r.IntN(1 << r.IntN(9)))
		}
		cut(t, drawnParts(r, string(b))...)
		cut(t, bytewise(string(b))...)
	}
}

// Memory: bytes that were handed in are neither changed nor kept, whichever part of a frame they are.
func TestFeedBytesMemory(t *testing.T) {
	stream := framed("abcdef", "", "gh", of(700)) + "\x00\x09xyz"
	want, left := plain(stream)
	for _, size := range []int{1, 2, 3, 4, 5, 8, 13, 300, len(stream)} {
		r := prefix.New()
		var frames [][]byte
		for part := range slices.Chunk([]byte(stream), size) {
			room := append(slices.Clone(part), "room behind it"...)
			was := whole(room)
			frames = append(frames, r.Feed(room[:len(part)])...)
			if whole(room) != was {
				t.Errorf("a feed of %q has made them %q", was, whole(room))
			}
			spoil(room)
		}
		if !slices.Equal(texts(frames), want) || r.Left() != left {
			t.Errorf("with bytes changed behind feeds of %d there are %s, Left %d", size, short(texts(frames)), r.Left())
		}
		if l := texts(r.Feed([]byte("123456"))); !slices.Equal(l, []string{"xyz123456"}) {
			t.Errorf("with bytes changed behind feeds of %d the last frame is %q", size, l)
		}
	}
}

// Memory: no frame shares anything, its room too, with another one, with the bytes, or with what waits.
func TestFramesMemory(t *testing.T) {
	stream := framed("abc", "", "defghijk", "lm", of(100)) + "\x00\x0312"
	want, _ := plain(stream)
	for _, size := range []int{1, 2, 3, 5, 7, 20, len(stream)} {
		r := prefix.New()
		var frames, parts [][]byte
		for part := range slices.Chunk([]byte(stream), size) {
			part = slices.Clone(part)
			parts = append(parts, part)
			frames = append(frames, r.Feed(part)...)
		}
		for i := range frames {
			spoil(frames[i])
			for j := range frames {
				if j != i && string(frames[j]) != want[j] {
					t.Errorf("feeds of %d: with frame %d frame %d has become %q", size, i, j, frames[j])
				}
			}
			spoil(frames[i])
		}
		for i := range frames {
			spoil(frames[i])
			_ = append(frames[i], "over the end"...)
		}
		if got := string(slices.Concat(parts...)); got != stream {
			t.Errorf("feeds of %d: with the frames the bytes have become %q", size, got)
		}
		feeds(t, r, "3"+framed("new"), 0, "123", "new")
	}
}

// Memory: frames of later feeds share nothing with those of earlier ones, nor their lists.
func TestFramesLater(t *testing.T) {
	r := prefix.New()
	first := r.Feed([]byte(framed("abcd", "efgh") + "\x00"))
	second := r.Feed([]byte("\x04ijkl" + framed("mnop")))
	if got := append(texts(first), texts(second)...); !slices.Equal(got, []string{"abcd", "efgh", "ijkl", "mnop"}) {
		t.Fatalf("the frames are %q", got)
	}
	for i := range first {
		spoil(first[i])
	}
	clear(first[:cap(first)])
	if got := texts(second); !slices.Equal(got, []string{"ijkl", "mnop"}) {
		t.Errorf("with the earlier frames the later ones became %q", got)
	}
	third := r.Feed([]byte(framed("qrst")))
	if got := append(texts(second), texts(third)...); !slices.Equal(got, []string{"ijkl", "mnop", "qrst"}) {
		t.Errorf("behind a third feed the frames are %q", got)
	}
}
