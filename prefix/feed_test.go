package prefix_test

import (
	"slices"
	"strings"
	"testing"

	"cicerone/prefix"
)

// P11.2: the chapter's example.
func TestFeedExample(t *testing.T) {
	r := prefix.New()
	feeds(t, r, "\x00\x01", 2)
	feeds(t, r, "a\x00", 1, "a")
}

// P11.2: a new reader has nothing.
func TestNew(t *testing.T) {
	r := prefix.New()
	if r == nil || r.Left() != 0 {
		t.Fatal("New is a reader that has something, or none")
	}
	feeds(t, r, "", 0)
	feeds(t, r, "\x00\x00", 0, "")
}

// P11.2: frames that come whole, alone and several in a feed.
func TestFeedWhole(t *testing.T) {
	r := prefix.New()
	feeds(t, r, "\x00\x01a", 0, "a")
	feeds(t, r, "\x00\x03bcd", 0, "bcd")
	feeds(t, r, "\x00\x01e\x00\x02fg\x00\x01h", 0, "e", "fg", "h")
	feeds(t, r, framed(of(255), of(256), of(257)), 0, of(255), of(256), of(257))
	feeds(t, r, framed("same", "same", "", "same"), 0, "same", "same", "", "same")
}

// P11.2: frames of no bytes.
func TestFeedEmptyFrames(t *testing.T) {
	r := prefix.New()
	feeds(t, r, "\x00\x00", 0, "")
	feeds(t, r, "\x00", 1)
	feeds(t, r, "\x00", 0, "")
	feeds(t, r, "\x00\x00\x00\x00\x00\x00", 0, "", "", "")
	feeds(t, r, "\x00\x00\x00", 1, "")
	feeds(t, r, "\x00\x00", 1, "")
	feeds(t, r, "\x01a\x00\x00", 0, "a", "")
	feeds(t, r, times(3000, "\x00"), 0, make([]string, 1500)...)
}

// P11.2: a length's first byte alone, whichever it is.
func TestFeedFirstByte(t *testing.T) {
	for c := range 256 {
		r := prefix.New()
		first := string([]byte{byte(c)})
		body := of(c*256 + 1)
		feeds(t, r, first, 1)
		feeds(t, r, "", 1)
		feeds(t, r, "\x01", 2)
		feeds(t, r, body[:len(body)-1], 1+len(body))
		feeds(t, r, body[len(body)-1:]+first, 1, body)
	}
}

// P11.2: one byte at a time, with what waits behind each.
func TestFeedBytewise(t *testing.T) {
	r := prefix.New()
	for range 3 {
		feeds(t, r, "\x00", 1)
		feeds(t, r, "\x03", 2)
		feeds(t, r, "\x00", 3)
		feeds(t, r, "\xff", 4)
		feeds(t, r, "\x00", 0, "\x00\xff\x00")
	}
}

// P11.2: the greatest frame: whole, one byte ahead of its end, and one behind it.
func TestFeedGreatest(t *testing.T) {
	great := of(most)
	feeds(t, prefix.New(), framed(great), 0, great)
	feeds(t, prefix.New(), framed(great)+"x", 1, great)
	feeds(t, prefix.New(), framed(great, great, "", great), 0, great, great, "", great)
	r := prefix.New()
	feeds(t, r, framed(great)[:1+most], 1+most)
	feeds(t, r, great[most-1:], 0, great)
	feeds(t, r, "\xff", 1)
	feeds(t, r, "\xff", 2)
	for i := range most - 1 {
		r.Feed([]byte(great[i : i+1]))
	}
	feeds(t, r, "", 1+most)
	feeds(t, r, great[most-1:]+"\xff\xff"+great[:7], 9, great)
}

// P11.2: one byte more than a frame has at most is of the next one.
func TestFeedOneMore(t *testing.T) {
	r := prefix.New()
	feeds(t, r, "\xff\xff"+times(most+1, "\x00"), 1, times(most, "\x00"))
	feeds(t, r, "\x00", 0, "")
}

// P11.2: feeds of no bytes change nothing, in whichever state.
func TestFeedNothing(t *testing.T) {
	r := prefix.New()
	stream := framed("ab", "", "c")
	want := []string{}
	for i := range len(stream) + 1 {
		all, left := plain(stream[:i])
		for _, none := range [][]byte{nil, {}, make([]byte, 0, 5)} {
			if l := r.Feed(none); len(l) != 0 || r.Left() != left {
				t.Errorf("behind %q no bytes tell %q, Left %d", stream[:i], l, r.Left())
			}
		}
		if !slices.Equal(want, all) {
			t.Errorf("behind %q there were %q, not %q", stream[:i], want, all)
		}
		if i < len(stream) {
			want = append(want, texts(r.Feed([]byte(stream[i:i+1])))...)
		}
	}
}

// P11.2: what is told was told: no frame comes twice, and Left asks for nothing.
func TestFeedOnce(t *testing.T) {
	r := prefix.New()
	feeds(t, r, framed("a", "b")+"\x00\x05cd", 4, "a", "b")
	for range 3 {
		feeds(t, r, "", 4)
	}
	feeds(t, r, "efg", 0, "cdefg")
	feeds(t, r, "", 0)
}

// P11.2: bytes of a frame that look like frames are none.
func TestFeedWithin(t *testing.T) {
	inner := framed("a", "", "bc")
	feeds(t, prefix.New(), framed(inner, framed(inner)), 0, inner, framed(inner))
	cut(t, bytewise(framed(inner, framed(inner)))...)
}

// P11.3: each cut of a stream in two and in three.
func TestCuts(t *testing.T) {
	stream := framed("abc", "", "d", "", "", of(9), "\x00\x00", "\xff") + "\x00\x04zzz"
	for i := range len(stream) + 1 {
		for j := i; j <= len(stream); j++ {
			cut(t, stream[:i], stream[i:j], stream[j:])
		}
	}
	cut(t, bytewise(stream)...)
}

// P11.3: great frames, cut about each byte at which something ends.
func TestCutsGreat(t *testing.T) {
	stream := framed(of(most), of(256), "", of(most)) + "\xff\xff" + of(300)
	ends := []int{0, 1, 2, 3, 257, 258, 65536, 65537, 65538, 65539, 65540, 65794, 65795, 65796, 65797, 65798, 65799, len(stream) - 302, len(stream) - 1, len(stream)}
	for _, i := range ends {
		for _, j := range ends {
			if i <= j {
				cut(t, stream[:i], stream[i:j], stream[j:])
			}
		}
	}
}

// Objects: a nil reader, and one that no call made, tell nothing.
func TestNoReader(t *testing.T) {
	made := prefix.New()
	made.Feed([]byte("\x00\x02a"))
	*made = prefix.Reader{}
	for _, r := range []*prefix.Reader{nil, {}, new(prefix.Reader), made} {
		for _, b := range []string{"", "\x00", "\x00\x00", "\x01a", framed("a", "b"), framed(of(most))} {
			feeds(t, r, b, 0)
		}
		if l := r.Feed(nil); len(l) != 0 {
			t.Errorf("Feed(nil) is %q", l)
		}
	}
}

// From arguments alone: readers know nothing of one another.
func TestTwoReaders(t *testing.T) {
	a, b := prefix.New(), prefix.New()
	feeds(t, a, "\x00\x02x", 3)
	feeds(t, b, "\x00", 1)
	feeds(t, b, "\x01", 2)
	feeds(t, a, "y", 0, "xy")
	feeds(t, b, "", 2)
	feeds(t, b, "z", 0, "z")
}

// Ends: many bytes, in one feed and in many.
func TestFeedMany(t *testing.T) {
	const n = 100000
	stream := times(n, framed("ab"))
	want := slices.Repeat([]string{"ab"}, n)
	feeds(t, prefix.New(), stream, 0, want...)
	r := prefix.New()
	var got []string
	for part := range strings.SplitSeq(stream, "b") {
		got = append(got, texts(r.Feed([]byte(part+"b")))...)
	}
	if !slices.Equal(got, want) || r.Left() != 1 {
		t.Errorf("many feeds tell %d frames, Left %d", len(got), r.Left())
	}
}
