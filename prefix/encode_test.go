package prefix_test

import (
	"testing"

	"cicerone/api"
	"cicerone/prefix"
)

// P11.1: the frame of bytes, of none up to the most.
func TestEncode(t *testing.T) {
	for _, size := range []int{0, 1, 2, 3, 254, 255, 256, 257, 511, 512, 4000, 32767, 32768, 65279, 65280, most - 1, most} {
		text := of(size)
		b, e := prefix.Encode([]byte(text))
		if e != api.OK || string(b) != framed(text) || len(b) != 2+size {
			t.Errorf("Encode of %d bytes is %d bytes %.12x, %d", size, len(b), b, e)
		}
	}
}

// P11.1: frames, as bytes.
func TestEncodeKnown(t *testing.T) {
	for text, want := range map[string]string{
		"":          "\x00\x00",
		"a":         "\x00\x01a",
		"\x00":      "\x00\x01\x00",
		"\xff\xfe":  "\x00\x02\xff\xfe",
		of(0x0102):  "\x01\x02" + of(0x0102),
		of(0xff00):  "\xff\x00" + of(0xff00),
		of(0xffff):  "\xff\xff" + of(0xffff),
		"\x00\x01a": "\x00\x03\x00\x01a",
	} {
		if b, e := prefix.Encode([]byte(text)); string(b) != want || e != api.OK {
			t.Errorf("Encode of %d bytes %.12q is %d bytes %.12q, %d", len(text), text, len(b), b, e)
		}
	}
}

// P11.1: no bytes, nil and empty, have a frame.
func TestEncodeNone(t *testing.T) {
	for _, none := range [][]byte{nil, {}, make([]byte, 0, 9)} {
		if b, e := prefix.Encode(none); string(b) != "\x00\x00" || e != api.OK {
			t.Errorf("Encode(%#v) is %x, %d", none, b, e)
		}
	}
}

// P11.1: more bytes than a frame has.
func TestEncodeTooMany(t *testing.T) {
	for _, size := range []int{most + 1, most + 2, 65537, 65536 + 255, 2 * 65536, 1 << 20, 1 << 24} {
		refuses(t, make([]byte, size))
	}
	refuses(t, make([]byte, most+1, 3*65536))
}

// P11.1: it is the bytes that count, not the room behind them.
func TestEncodeRoom(t *testing.T) {
	b, e := prefix.Encode(make([]byte, most+1)[:3])
	if string(b) != "\x00\x03\x00\x00\x00" || e != api.OK {
		t.Errorf("Encode is %x, %d", b, e)
	}
}

// Memory: a frame is new, and neither the bytes nor the room behind them are written to.
func TestEncodeMemory(t *testing.T) {
	room := []byte("abcdefgh")
	b, _ := prefix.Encode(room[:3])
	c, _ := prefix.Encode(room[:3])
	if spoil(b); string(room) != "abcdefgh" || string(c) != "\x00\x03abc" {
		t.Errorf("with a frame the room became %q, another frame %q", room, c)
	}
	if spoil(room); string(c) != "\x00\x03abc" {
		t.Errorf("with the bytes the frame became %q", c)
	}
	refused := append(make([]byte, most+1), "room"...)
	if refuses(t, refused[:most+1]); string(refused) != times(most+1, "\x00")+"room" {
		t.Error("bytes that were refused have changed")
	}
}

// P11.1, P11.2: what Encode tells is a frame that Feed tells.
func TestEncodeFeed(t *testing.T) {
	r := prefix.New()
	for _, size := range []int{0, 1, 2, 255, 256, 257, 4000, most, 0, 3} {
		b, e := prefix.Encode([]byte(of(size)))
		if e != api.OK {
			t.Fatalf("Encode of %d bytes is %d", size, e)
		}
		feeds(t, r, string(b), 0, of(size))
	}
}
