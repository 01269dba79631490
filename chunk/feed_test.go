package chunk_test

import (
	"fmt"
	"math"
	"strings"
	"testing"

	"cicerone/api"
	"cicerone/chunk"
)

// P12.1: the chapter's example, and bytes behind it.
func TestFeedExample(t *testing.T) {
	right(t, 10, "3\r\nabc\r\n0\r\n\r\n", "abc")
}

// P12.1: a new reader has nothing.
func TestNew(t *testing.T) {
	for _, most := range []int{math.MinInt, -1, 0, 1, most, math.MaxInt} {
		r := chunk.New(most)
		if r == nil || len(r.Body()) != 0 {
			t.Fatalf("New(%d) is a reader that has something, or none", most)
		}
		goesOn(t, r, "", "")
	}
}

// P12.1: what is taken, and what came of the body, behind each byte.
func TestFeedBytewise(t *testing.T) {
	r := chunk.New(100)
	for _, step := range []struct{ b, body string }{
		{"3", ""}, {"\r", ""}, {"\n", ""}, {"a", "a"}, {"b", "ab"}, {"c", "abc"}, {"\r", "abc"}, {"\n", "abc"},
		{"0", "abc"}, {"2", "abc"}, {"\r", "abc"}, {"\n", "abc"}, {"\r", "abc\r"}, {"\n", "abc\r\n"}, {"\r", "abc\r\n"}, {"\n", "abc\r\n"},
		{"0", "abc\r\n"}, {"0", "abc\r\n"}, {"\r", "abc\r\n"}, {"\n", "abc\r\n"}, {"\r", "abc\r\n"},
	} {
		goesOn(t, r, step.b, step.body)
		goesOn(t, r, "", step.body)
	}
	feeds(t, r, "\n", 1, true, api.OK, "abc\r\n")
	ended(t, r, true, api.OK, "abc\r\n")
}

// P12.1: bodies of several chunks, of none, and with bytes that look like chunks.
func TestFeedWhole(t *testing.T) {
	right(t, 100, "0\r\n\r\n", "")
	right(t, 0, "0\r\n\r\n", "")
	right(t, 100, "1\r\na\r\n1\r\nb\r\n0\r\n\r\n", "ab")
	right(t, 100, "5\r\nabcde\r\n1\r\nf\r\n3\r\nghi\r\n0\r\n\r\n", "abcdefghi")
	right(t, 100, "5\r\n0\r\n\r\n\r\n2\r\n\r\n\r\n2\r\n\n\r\r\n0\r\n\r\n", "0\r\n\r\n\r\n\n\r")
	right(t, 100, "4\r\n\x00\xff0g\r\n0\r\n\r\n", "\x00\xff0g")
	right(t, 100, "10\r\n"+times(16, "z")+"\r\n0\r\n\r\n", times(16, "z"))
}

// P12.1: lengths of 1 to 6 digits, with noughts ahead, with small and capital letters.
func TestLengths(t *testing.T) {
	for _, l := range []struct {
		digits string
		size   int
	}{
		{"1", 1}, {"9", 9}, {"a", 10}, {"A", 10}, {"b", 11}, {"B", 11}, {"c", 12}, {"C", 12}, {"d", 13}, {"D", 13}, {"e", 14}, {"E", 14}, {"f", 15}, {"F", 15},
		{"01", 1}, {"001", 1}, {"0001", 1}, {"00001", 1}, {"000001", 1}, {"00000a", 10}, {"00000F", 15},
		{"10", 16}, {"fF", 255}, {"Ff", 255}, {"0aB", 171}, {"100", 256}, {"aBc", 0xabc}, {"DeF", 0xdef}, {"1234", 0x1234}, {"00cafe", 0xcafe}, {"CAFE", 0xcafe},
		{"ffff", most}, {"0FFFF", most}, {"00ffFF", most}, {"005678", 0x5678}, {"09", 9}, {"90", 0x90},
	} {
		body := times(l.size, "q")
		right(t, most, l.digits+"\r\n"+body+"\r\n0\r\n\r\n", body)
	}
}

// P12.1: each digit at each place of a length.
func TestDigits(t *testing.T) {
	for i, c := range hexadecimal {
		value := i
		if i >= 16 {
			value = i - 6
		}
		for place, unit := range []int{1, 16, 256, 4096} {
			text := fmt.Sprintf("%c%s", c, times(place, "0"))
			if size := value * unit; size > 0 {
				body := times(size, "q")
				feeds(t, chunk.New(size), text+"\r\n"+body+"\r\n0\r\n\r\n", len(text)+size+9, true, api.OK, body)
				wrong(t, size-1, text+"\r", api.ErrFull, "")
			} else {
				right(t, 0, text+"\r\n\r\n", "")
			}
		}
	}
}

// P12.1: lengths of 5 and 6 digits are more than any body has; that is told at the 13, not ahead.
func TestLengthsGreat(t *testing.T) {
	for _, digits := range []string{"10000", "fffff", "FFFFF", "010000", "100000", "fffffF", "ffffff", "abcdef"} {
		wrong(t, most, digits+"\r", api.ErrFull, "")
		wrong(t, math.MaxInt, digits+"\r", api.ErrFull, "")
		wrong(t, most, "1\r\na\r\n"+digits+"\r", api.ErrFull, "a")
		wrong(t, most, digits+"\n", api.ErrChunk, "")
		wrong(t, most, digits+"g", api.ErrChunk, "")
	}
}

// P12.1: seven digits are too many, whichever they are, and whatever stands behind.
func TestLengthsLong(t *testing.T) {
	for _, digits := range []string{"0000000", "0000001", "1000000", "fffffff", "FFFFFFF", "0abcdef", "1234567", "000000a"} {
		wrong(t, most, digits, api.ErrChunk, "")
		wrong(t, 0, digits, api.ErrChunk, "")
		wrong(t, most, "2\r\nab\r\n"+digits, api.ErrChunk, "ab")
	}
	for _, c := range hexadecimal {
		wrong(t, most, "12345"+"6"+string(c), api.ErrChunk, "")
		wrong(t, most, "000000"+string(c), api.ErrChunk, "")
	}
}

// P12.1: a length of no digits.
func TestLengthsNone(t *testing.T) {
	for _, most := range []int{0, 5, most} {
		wrong(t, most, "\r", api.ErrChunk, "")
		wrong(t, most, "\n", api.ErrChunk, "")
	}
	wrong(t, most, "2\r\nab\r\n\r", api.ErrChunk, "ab")
	wrong(t, 2, "2\r\nab\r\n\r", api.ErrChunk, "ab")
}

// P12.1: each byte that is no digit, at each place of a length.
func TestNoDigit(t *testing.T) {
	for c := range 256 {
		b := string([]byte{byte(c)})
		if strings.Contains(hexadecimal, b) {
			continue
		}
		for _, ahead := range []string{"", "1", "0", "a1", "000", "123f", "00000", "ffffff", "000000"} {
			if c != '\r' || ahead == "" {
				wrong(t, most, ahead+b, api.ErrChunk, "")
				wrong(t, most, "3\r\nabc\r\n"+ahead+b, api.ErrChunk, "abc")
			}
		}
	}
}

// P12.1: each byte but the one that must come, at each place that asks for one.
func TestMarks(t *testing.T) {
	for _, place := range []struct{ ahead, must, body string }{
		{"3\r", "\n", ""}, {"00000A\r", "\n", ""}, {"3\r\nabc", "\r", "abc"}, {"3\r\nabc\r", "\n", "abc"},
		{"3\r\nabc\r\n1\r", "\n", "abc"}, {"3\r\nabc\r\n1\r\nd", "\r", "abcd"}, {"3\r\nabc\r\n1\r\nd\r", "\n", "abcd"},
		{"0\r", "\n", ""}, {"0\r\n", "\r", ""}, {"0\r\n\r", "\n", ""}, {"000000\r", "\n", ""}, {"000000\r\n", "\r", ""}, {"000000\r\n\r", "\n", ""},
		{"3\r\nabc\r\n0\r", "\n", "abc"}, {"3\r\nabc\r\n0\r\n", "\r", "abc"}, {"3\r\nabc\r\n0\r\n\r", "\n", "abc"},
	} {
		for c := range 256 {
			if b := string([]byte{byte(c)}); b != place.must {
				wrong(t, 20, place.ahead+b, api.ErrChunk, place.body)
			}
		}
	}
}

// P12.1: ends of one nought up to six; behind them neither extensions nor trailers.
func TestEnds(t *testing.T) {
	for n := 1; n <= 6; n++ {
		noughts := times(n, "0")
		for _, most := range []int{0, 1, most} {
			right(t, most, noughts+"\r\n\r\n", "")
		}
		right(t, 2, "2\r\nab\r\n"+noughts+"\r\n\r\n", "ab")
		wrong(t, 9, noughts+";", api.ErrChunk, "")
		wrong(t, 9, noughts+" ", api.ErrChunk, "")
		wrong(t, 9, noughts+"\r\na", api.ErrChunk, "")
		wrong(t, 9, noughts+"\r\n0", api.ErrChunk, "")
	}
	wrong(t, 9, "0000000", api.ErrChunk, "")
	wrong(t, 9, "3;", api.ErrChunk, "")
	wrong(t, 9, "3 ", api.ErrChunk, "")
	wrong(t, 9, " ", api.ErrChunk, "")
	wrong(t, 9, "0x", api.ErrChunk, "")
	wrong(t, 9, "-", api.ErrChunk, "")
	wrong(t, 9, "+", api.ErrChunk, "")
}

// P12.1: what most counts as: a chunk of just so many bytes, and of one more.
func TestMost(t *testing.T) {
	for given, counts := range map[int]int{
		math.MinInt: 0, -65536: 0, -2: 0, -1: 0, 0: 0, 1: 1, 2: 2, 15: 15, 16: 16, 255: 255, 256: 256, 4095: 4095, 65534: 65534,
		most: most, most + 1: most, most + 2: most, 1 << 20: most, 1 << 32: most, math.MaxInt: most,
	} {
		body := times(counts, "m")
		chunks := ""
		if counts > 0 {
			chunks = fmt.Sprintf("%x\r\n%s\r\n", counts, body)
		}
		right(t, given, chunks+"0\r\n\r\n", body)
		wrong(t, given, fmt.Sprintf("%x\r", counts+1), api.ErrFull, "")
		wrong(t, given, chunks+"1\r", api.ErrFull, body)
		wrong(t, given, chunks+"000001\r", api.ErrFull, body)
		wrong(t, given, chunks+"ffffff\r", api.ErrFull, body)
		if counts > 1 {
			first := "1\r\nm\r\n"
			right(t, given, first+fmt.Sprintf("%X\r\n%s\r\n0\r\n\r\n", counts-1, body[1:]), body)
			wrong(t, given, first+fmt.Sprintf("%X\r", counts), api.ErrFull, "m")
		}
	}
}

// P12.1: a body of chunks of one byte, up to the most and one byte longer.
func TestMostByOnes(t *testing.T) {
	r := chunk.New(3)
	one := "1\r\nx\r\n"
	goesOn(t, r, one, "x")
	goesOn(t, r, one, "xx")
	goesOn(t, r, one, "xxx")
	goesOn(t, r, "1", "xxx")
	feeds(t, r, "\r", 0, false, api.ErrFull, "xxx")
	ended(t, r, false, api.ErrFull, "xxx")
	all := times(most, one)
	feeds(t, chunk.New(most), all+"0\r\n\r\n", len(all)+5, true, api.OK, times(most, "x"))
	feeds(t, chunk.New(most), all+one, 0, false, api.ErrFull, times(most, "x"))
}

// P12.1: of a 13 behind the digits of too long a chunk the error is ErrFull, of all else ErrChunk: what stands behind the first of them plays no part.
func TestFirstFault(t *testing.T) {
	wrong(t, 2, "3\r", api.ErrFull, "")
	wrong(t, 2, "3x", api.ErrChunk, "")
	wrong(t, 2, "3\n", api.ErrChunk, "")
	feeds(t, chunk.New(2), "3\rx", 0, false, api.ErrFull, "")
	feeds(t, chunk.New(2), "3x\r", 0, false, api.ErrChunk, "")
	feeds(t, chunk.New(2), "2\r\nabx3\r", 0, false, api.ErrChunk, "ab")
	feeds(t, chunk.New(2), "1\r\na\r\n2\rx", 0, false, api.ErrFull, "a")
}

// P12.1: an error within a feed leaves what came ahead of it in the body, of the same feed and of the ones ahead.
func TestFaultBody(t *testing.T) {
	r := chunk.New(100)
	goesOn(t, r, "3\r\nabc\r\n4\r\nd", "abcd")
	feeds(t, r, "efg\r\n2\r\nhiX", 0, false, api.ErrChunk, "abcdefghi")
	ended(t, r, false, api.ErrChunk, "abcdefghi")
	r = chunk.New(6)
	goesOn(t, r, "3\r\nabc\r\n2\r\nd", "abcd")
	feeds(t, r, "e\r\n2\r\nfg", 0, false, api.ErrFull, "abcde")
	ended(t, r, false, api.ErrFull, "abcde")
}

// P12.1: feeds of no bytes change nothing, in whichever state.
func TestFeedNothing(t *testing.T) {
	stream := "2\r\nab\r\n00001\r\nc\r\n00\r\n\r\n"
	r := chunk.New(10)
	for i := range len(stream) + 1 {
		want := plain(stream[:i], 10)
		want.taken = 0
		for _, none := range [][]byte{nil, {}, make([]byte, 0, 5)} {
			n, whole, e := r.Feed(none)
			if got := (outcome{n, whole, e, string(r.Body())}); got != want {
				t.Errorf("behind %q no bytes are %v, not %v", stream[:i], got, want)
			}
		}
		if i < len(stream) {
			r.Feed([]byte(stream[i : i+1]))
		}
	}
	ended(t, r, true, api.OK, "abc")
}

// P12.1: bytes behind a body's end, in the same feed and in later ones, are left to others.
func TestBehindEnd(t *testing.T) {
	body := "2\r\nab\r\n0\r\n\r\n"
	r := chunk.New(10)
	all := body + "1\r\nc\r\n0\r\n\r\nrest"
	feeds(t, r, all, len(body), true, api.OK, "ab")
	feeds(t, r, all[len(body):], 0, true, api.OK, "ab")
	next := chunk.New(10)
	feeds(t, next, all[len(body):], 11, true, api.OK, "c")
	feeds(t, next, "rest", 0, true, api.OK, "c")
	feeds(t, r, "", 0, true, api.OK, "ab")
	r = chunk.New(10)
	goesOn(t, r, "2\r\nab\r\n0", "ab")
	feeds(t, r, "\r\n\r\n\r\n\r\n", 4, true, api.OK, "ab")
	ended(t, r, true, api.OK, "ab")
}

// Objects: a nil reader, and one that no call made.
func TestNoReader(t *testing.T) {
	made := chunk.New(10)
	made.Feed([]byte("3\r\nab"))
	*made = chunk.Reader{}
	failed := chunk.New(10)
	failed.Feed([]byte("x"))
	*failed = chunk.Reader{}
	for _, r := range []*chunk.Reader{nil, {}, new(chunk.Reader), made, failed} {
		for _, b := range []string{"", "0", "3\r\nabc\r\n0\r\n\r\n", "0\r\n\r\n", "x", "\r"} {
			feeds(t, r, b, 0, false, api.ErrNil, "")
		}
		if n, whole, e := r.Feed(nil); n != 0 || whole || e != api.ErrNil {
			t.Errorf("Feed(nil) is %d, %t, %d", n, whole, e)
		}
	}
}

// From arguments alone: readers know nothing of one another.
func TestTwoReaders(t *testing.T) {
	a, b := chunk.New(5), chunk.New(1)
	goesOn(t, a, "3\r\nab", "ab")
	goesOn(t, b, "1\r\nz\r", "z")
	goesOn(t, a, "c\r", "abc")
	feeds(t, b, "x", 0, false, api.ErrChunk, "z")
	feeds(t, a, "\n0\r\n\r\n", 6, true, api.OK, "abc")
	ended(t, b, false, api.ErrChunk, "z")
}
