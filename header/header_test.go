package header_test

import (
	"bytes"
	"math"
	"testing"

	"cicerone/api"
	"cicerone/header"
)

// tells asks that these are a header's bytes, there and back.
func tells(t *testing.T, h api.Header, counts [4]int, want ...byte) {
	t.Helper()
	b, e := header.Encode(h, counts)
	if e != api.OK || !bytes.Equal(b, want) {
		t.Errorf("Encode(%+v, %v) is % x, %d", h, counts, b, e)
	}
	h2, counts2, e := header.Decode(want)
	if e != api.OK || h2 != h || counts2 != counts {
		t.Errorf("Decode(% x) is %+v, %v, %d", want, h2, counts2, e)
	}
}

func TestBytes(t *testing.T) {
	var none [4]int
	tells(t, api.Header{}, none, 0, 0, 0, 0, 0, 0, 0, 0, 0, 0, 0, 0)
	tells(t, api.Header{ID: 1, Response: true, RD: true, RA: true, Code: 3}, [4]int{1, 0, 0, 0},
		0x00, 0x01, 0x81, 0x83, 0x00, 0x01, 0x00, 0x00, 0x00, 0x00, 0x00, 0x00)
	tells(t, api.Header{ID: 0x1234}, none, 0x12, 0x34, 0, 0, 0, 0, 0, 0, 0, 0, 0, 0)
	tells(t, api.Header{ID: 65535}, none, 0xff, 0xff, 0, 0, 0, 0, 0, 0, 0, 0, 0, 0)
	tells(t, api.Header{Response: true}, none, 0, 0, 0x80, 0, 0, 0, 0, 0, 0, 0, 0, 0)
	tells(t, api.Header{Opcode: 1}, none, 0, 0, 0x08, 0, 0, 0, 0, 0, 0, 0, 0, 0)
	tells(t, api.Header{Opcode: 15}, none, 0, 0, 0x78, 0, 0, 0, 0, 0, 0, 0, 0, 0)
	tells(t, api.Header{AA: true}, none, 0, 0, 0x04, 0, 0, 0, 0, 0, 0, 0, 0, 0)
	tells(t, api.Header{TC: true}, none, 0, 0, 0x02, 0, 0, 0, 0, 0, 0, 0, 0, 0)
	tells(t, api.Header{RD: true}, none, 0, 0, 0x01, 0, 0, 0, 0, 0, 0, 0, 0, 0)
	tells(t, api.Header{RA: true}, none, 0, 0, 0, 0x80, 0, 0, 0, 0, 0, 0, 0, 0)
	tells(t, api.Header{Code: 1}, none, 0, 0, 0, 0x01, 0, 0, 0, 0, 0, 0, 0, 0)
	tells(t, api.Header{Code: 15}, none, 0, 0, 0, 0x0f, 0, 0, 0, 0, 0, 0, 0, 0)
	tells(t, api.Header{}, [4]int{0x0102, 0x0304, 0x0506, 0x0708}, 0, 0, 0, 0, 1, 2, 3, 4, 5, 6, 7, 8)
	tells(t, api.Header{}, [4]int{65535, 0, 0, 0}, 0, 0, 0, 0, 0xff, 0xff, 0, 0, 0, 0, 0, 0)
	tells(t, api.Header{}, [4]int{0, 65535, 0, 0}, 0, 0, 0, 0, 0, 0, 0xff, 0xff, 0, 0, 0, 0)
	tells(t, api.Header{}, [4]int{0, 0, 65535, 0}, 0, 0, 0, 0, 0, 0, 0, 0, 0xff, 0xff, 0, 0)
	tells(t, api.Header{}, [4]int{0, 0, 0, 65535}, 0, 0, 0, 0, 0, 0, 0, 0, 0, 0, 0xff, 0xff)
	tells(t, api.Header{ID: 65535, Response: true, Opcode: 15, AA: true, TC: true, RD: true, RA: true, Code: 15},
		[4]int{65535, 65535, 65535, 65535}, 0xff, 0xff, 0xff, 0x8f, 0xff, 0xff, 0xff, 0xff, 0xff, 0xff, 0xff, 0xff)
}

// Each number at its ends and beyond.
func TestEncodeRange(t *testing.T) {
	full := api.Header{ID: 65535, Response: true, Opcode: 15, AA: true, TC: true, RD: true, RA: true, Code: 15}
	for _, n := range []int{math.MinInt, math.MinInt32, -65536, -65535, -16, -1, 0, 1, 15, 16, 17, 255, 256, 65535, 65536, 65537, 1 << 20, 1 << 32, 1<<32 + 1, math.MaxInt32, math.MaxInt} {
		for _, h := range []api.Header{{}, full} {
			for _, counts := range [][4]int{{}, {65535, 65535, 65535, 65535}} {
				small, wide := n >= 0 && n <= 15, n >= 0 && n <= 65535
				x := h
				x.ID = n
				takes(t, x, counts, wide)
				x = h
				x.Opcode = n
				takes(t, x, counts, small)
				x = h
				x.Code = n
				takes(t, x, counts, small)
				for i := range counts {
					other := counts
					other[i] = n
					takes(t, h, other, wide)
				}
			}
		}
	}
}

// takes asks whether a header can be written: then it can be read, too.
func takes(t *testing.T, h api.Header, counts [4]int, can bool) {
	t.Helper()
	b, e := header.Encode(h, counts)
	if !can {
		if e != api.ErrArg || len(b) != 0 {
			t.Errorf("Encode(%+v, %v) is % x, %d", h, counts, b, e)
		}
		return
	}
	if e != api.OK || len(b) != 12 {
		t.Errorf("Encode(%+v, %v) is % x, %d", h, counts, b, e)
	}
	h2, counts2, e := header.Decode(b)
	if e != api.OK || h2 != h || counts2 != counts {
		t.Errorf("Decode(% x) is %+v, %v, %d, not %+v, %v", b, h2, counts2, e, h, counts)
	}
}

// fails asks that bytes are no header, for this reason, and that nothing else is told.
func fails(t *testing.T, b []byte, want api.Errno) {
	t.Helper()
	h, counts, e := header.Decode(b)
	if e != want || h != (api.Header{}) || counts != [4]int{} {
		t.Errorf("Decode(% x) is %+v, %v, %d", b, h, counts, e)
	}
}

// All that the two bytes of bits can be.
func TestDecodeBits(t *testing.T) {
	for n := range 1 << 16 {
		b := []byte{0x12, 0x34, byte(n >> 8), byte(n), 0, 1, 0, 2, 0, 3, 0x45, 0x67}
		if n&0x70 != 0 {
			fails(t, b, api.ErrBits)
			continue
		}
		want := api.Header{
			ID:       0x1234,
			Response: n&0x8000 != 0,
			Opcode:   n / 0x800 % 16,
			AA:       n&0x400 != 0,
			TC:       n&0x200 != 0,
			RD:       n&0x100 != 0,
			RA:       n&0x80 != 0,
			Code:     n % 16,
		}
		tells(t, want, [4]int{1, 2, 3, 0x4567}, b...)
	}
}

func TestDecodeLengths(t *testing.T) {
	fails(t, nil, api.ErrShort)
	fails(t, []byte{}, api.ErrShort)
	b := []byte{1, 2, 0x81, 0x83, 3, 4, 5, 6, 7, 8, 9, 10, 0xff, 0x70, 0x70, 0xff, 0, 1, 2, 3}
	bits := []byte{1, 2, 3, 0x70, 5, 6, 7, 8, 9, 10, 11, 12, 0, 0, 0, 0, 0, 0, 0, 0}
	for n := range 12 {
		fails(t, b[:n], api.ErrShort)
		// Too few bytes are named ahead of the bits.
		fails(t, bits[:n], api.ErrShort)
		fails(t, bits[:n:n], api.ErrShort)
	}
	for n := 12; n <= len(b); n++ {
		h, counts, e := header.Decode(b[:n])
		if e != api.OK || h != (api.Header{ID: 0x102, Response: true, RD: true, RA: true, Code: 3}) || counts != [4]int{0x304, 0x506, 0x708, 0x90a} {
			t.Errorf("of %d bytes: %+v, %v, %d", n, h, counts, e)
		}
		fails(t, bits[:n], api.ErrBits)
	}
	for _, bit := range []byte{0x10, 0x20, 0x40} {
		one := make([]byte, 12)
		one[3] = bit
		fails(t, one, api.ErrBits)
		one[3] |= 0x8f
		fails(t, one, api.ErrBits)
	}
}

// P2.3: Encode of Decode is the first twelve bytes.
func TestBack(t *testing.T) {
	b := make([]byte, 15)
	for i := range 12 {
		for n := range 256 {
			for j := range b {
				b[j] = byte(31*j + n)
			}
			b[i] = byte(n)
			b[3] &^= 0x70
			h, counts, e := header.Decode(b)
			if e != api.OK {
				t.Fatalf("Decode(% x): %d", b, e)
			}
			back, e := header.Encode(h, counts)
			if e != api.OK || !bytes.Equal(back, b[:12]) {
				t.Errorf("% x: back % x, %d", b, back, e)
			}
		}
	}
}

// What is handed in stays as it is, the room behind it too; an answer is new memory.
func TestMemory(t *testing.T) {
	room := bytes.Repeat([]byte{0x8f}, 20)
	kept := bytes.Clone(room)
	for n := range len(room) {
		header.Decode(room[:n])
	}
	if !bytes.Equal(room, kept) {
		t.Errorf("Decode changed % x", room)
	}
	a, _ := header.Encode(api.Header{ID: 1}, [4]int{})
	b, _ := header.Encode(api.Header{ID: 1}, [4]int{})
	a = a[:cap(a)]
	for i := range a {
		a[i] = 0xff
	}
	if !bytes.Equal(b, []byte{0, 1, 0, 0, 0, 0, 0, 0, 0, 0, 0, 0}) {
		t.Errorf("two answers share: % x", b)
	}
}
