package chunk_test

import (
	"fmt"
	"math"
	"testing"

	"cicerone/api"
	"cicerone/chunk"
)

// encodes asks for what Encode answers.
func encodes(t *testing.T, body string, size int, want string) {
	t.Helper()
	b, e := chunk.Encode([]byte(body), size)
	if e != api.OK || string(b) != want {
		t.Errorf("Encode of %d bytes by %d is %d bytes %.60q, %d, not %d bytes %.60q", len(body), size, len(b), b, e, len(want), want)
	}
}

// P12.2: small bodies, as bytes.
func TestEncode(t *testing.T) {
	encodes(t, "abc", 3, "3\r\nabc\r\n0\r\n\r\n")
	encodes(t, "abc", 1, "1\r\na\r\n1\r\nb\r\n1\r\nc\r\n0\r\n\r\n")
	encodes(t, "abc", 2, "2\r\nab\r\n1\r\nc\r\n0\r\n\r\n")
	encodes(t, "abc", 4, "3\r\nabc\r\n0\r\n\r\n")
	encodes(t, "abc", 100, "3\r\nabc\r\n0\r\n\r\n")
	encodes(t, "abc", 0xffffff, "3\r\nabc\r\n0\r\n\r\n")
	encodes(t, "abcdef", 3, "3\r\nabc\r\n3\r\ndef\r\n0\r\n\r\n")
	encodes(t, "0\r\n\r\n\x00\xff", 5, "5\r\n0\r\n\r\n\r\n2\r\n\x00\xff\r\n0\r\n\r\n")
	encodes(t, times(250, "x"), 100, "64\r\n"+times(100, "x")+"\r\n64\r\n"+times(100, "x")+"\r\n32\r\n"+times(50, "x")+"\r\n0\r\n\r\n")
}

// P12.2: a body of no bytes, nil and empty, is the end alone.
func TestEncodeNone(t *testing.T) {
	for _, size := range []int{1, 2, 100, 0xffffff} {
		for _, none := range [][]byte{nil, {}, make([]byte, 0, 7)} {
			if b, e := chunk.Encode(none, size); e != api.OK || string(b) != "0\r\n\r\n" {
				t.Errorf("Encode(%#v, %d) is %q, %d", none, size, b, e)
			}
		}
	}
}

// P12.2: lengths in small letters, without noughts ahead.
func TestEncodeLengths(t *testing.T) {
	for size, digits := range map[int]string{
		1: "1", 9: "9", 10: "a", 11: "b", 12: "c", 13: "d", 14: "e", 15: "f", 16: "10", 0xab: "ab", 0xff: "ff", 0x100: "100",
		0xcde: "cde", 0xfff: "fff", 0x1000: "1000", 0xabcd: "abcd", 0xffff: "ffff", 0x10000: "10000", 0xef012: "ef012", 0xfffff: "fffff", 0x100000: "100000", 0xffffff: "ffffff",
	} {
		body := times(size, "z")
		encodes(t, body, size, digits+"\r\n"+body+"\r\n0\r\n\r\n")
		encodes(t, body, 0xffffff, digits+"\r\n"+body+"\r\n0\r\n\r\n")
		encodes(t, body+"y", size, digits+"\r\n"+body+"\r\n1\r\ny\r\n0\r\n\r\n")
	}
}

// P12.2: bodies and sizes about one another, by a second reckoning.
func TestEncodeSizes(t *testing.T) {
	for _, length := range []int{1, 2, 15, 16, 17, 99, 100, 101, 255, 256, 1000, most, most + 1, 200000} {
		for _, size := range []int{1, 2, 3, 7, 15, 16, 17, 100, 255, 256, 999, 1000, 4096, most, 0xffffff} {
			body := of(length)
			want := []byte{}
			for from := 0; from < length; from += size {
				part := body[from:min(from+size, length)]
				want = fmt.Appendf(want, "%x\r\n%s\r\n", len(part), part)
			}
			encodes(t, body, size, string(want)+"0\r\n\r\n")
		}
	}
}

// P12.2: sizes that can't be.
func TestEncodeWrong(t *testing.T) {
	for _, size := range []int{0, -1, -2, math.MinInt, 0x1000000, 0x1000001, 1 << 31, 1 << 32, 1<<32 + 1, math.MaxInt} {
		for _, body := range [][]byte{nil, {}, []byte("a"), make([]byte, 70000)} {
			if b, e := chunk.Encode(body, size); len(b) != 0 || e != api.ErrArg {
				t.Errorf("Encode of %d bytes by %d is %.30q, %d", len(body), size, b, e)
			}
		}
	}
}

// Memory: what Encode answers is new, and neither the body nor the room behind it is written to.
func TestEncodeMemory(t *testing.T) {
	for _, size := range []int{1, 2, 3, 4, 100} {
		room := []byte("abcdefgh")
		b, _ := chunk.Encode(room[:4], size)
		c, _ := chunk.Encode(room[:4], size)
		want := string(c)
		if spoil(b); string(room) != "abcdefgh" || string(c) != want {
			t.Errorf("with an answer the room became %q, another answer %q", room, c)
		}
		if spoil(room); string(c) != want {
			t.Errorf("with the body the answer became %q", c)
		}
		b, _ = chunk.Encode(nil, size)
		spoil(b)
		if c, _ = chunk.Encode(nil, size); string(c) != "0\r\n\r\n" {
			t.Errorf("with an answer the end became %q", c)
		}
	}
}

// P12.2, Ends: a wrong size leaves the body alone.
func TestEncodeWrongMemory(t *testing.T) {
	room := []byte("abcdefgh")
	chunk.Encode(room[:4], 0)
	if string(room) != "abcdefgh" {
		t.Errorf("the room became %q", room)
	}
}

// P12.4: what Encode writes is read as the body: by readers that take just so many bytes, cut anywhere; one byte less is too few.
func TestEncodeRead(t *testing.T) {
	for _, length := range []int{0, 1, 2, 15, 16, 17, 100, 101, 1000, 4095, 4096, most - 1, most} {
		for _, size := range []int{1, 2, 15, 16, 17, 100, 256, 5000, most - 1, most, most + 1, 0xffffff} {
			body := of(length)
			b, e := chunk.Encode([]byte(body), size)
			if e != api.OK {
				t.Fatalf("Encode of %d bytes by %d is %d", length, size, e)
			}
			feeds(t, chunk.New(length), string(b), len(b), true, api.OK, body)
			feeds(t, chunk.New(most), string(b)+"0\r\n\r\n", len(b), true, api.OK, body)
			half := len(b) / 2
			r := chunk.New(length)
			r.Feed(b[:half])
			feeds(t, r, string(b[half:]), len(b)-half, true, api.OK, body)
			if length > 0 {
				had := (length - 1) / size * size
				feeds(t, chunk.New(length-1), string(b), 0, false, api.ErrFull, body[:had])
			}
		}
	}
}
