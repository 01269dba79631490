package digest_test

import (
	"bytes"
	"hash/crc32"
	"math/bits"
	"math/rand/v2"
	"slices"
	"testing"

	"cicerone/digest"
)

// checks asks for the Crc of bytes.
func checks(t *testing.T, b []byte, want uint32) {
	t.Helper()
	if got := digest.Crc(b); got != want {
		t.Errorf("Crc of %d bytes %.20q is %08x, not %08x", len(b), b, got, want)
	}
}

// P5.1: sums that others have told.
func TestCrcKnown(t *testing.T) {
	checks(t, nil, 0)
	checks(t, []byte{}, 0)
	checks(t, []byte("123456789"), 0xe3069283)
	checks(t, []byte("a"), 0xc1d04330)
	checks(t, []byte("abc"), 0x364b3fb7)
	checks(t, make([]byte, 32), 0x8a9136aa)
	checks(t, bytes.Repeat([]byte{0xff}, 32), 0x62a8ab43)
	var rising, falling []byte
	for i := range byte(32) {
		rising, falling = append(rising, i), append(falling, 31-i)
	}
	checks(t, rising, 0x46dd794e)
	checks(t, falling, 0x113fdb5c)
}

// P5.1: each byte alone, each length up to some hundreds, a long one.
func TestCrcLengths(t *testing.T) {
	table := crc32.MakeTable(crc32.Castagnoli)
	for x := range 256 {
		checks(t, []byte{byte(x)}, crc32.Checksum([]byte{byte(x)}, table))
		checks(t, []byte{byte(x), 0}, crc32.Checksum([]byte{byte(x), 0}, table))
	}
	all := drawn(6, 1<<20)
	for size := range 400 {
		checks(t, all[:size], crc32.Checksum(all[:size], table))
	}
	checks(t, all, crc32.Checksum(all, table))
}

// P5.1: noughts ahead and behind are told apart by it.
func TestCrcNoughts(t *testing.T) {
	seen := map[uint32]int{}
	for size := range 2000 {
		c := digest.Crc(make([]byte, size))
		if other, ok := seen[c]; ok {
			t.Errorf("%d noughts and %d have the same Crc %08x", other, size, c)
		}
		seen[c] = size
	}
}

// What is handed in is not changed.
func TestCrcMemory(t *testing.T) {
	room := drawn(7, 300)
	kept := slices.Clone(room)
	digest.Crc(room[100:200])
	if !bytes.Equal(room, kept) {
		t.Error("what was handed in has changed")
	}
}

// turns asks that bytes with a mask laid over some neighbours have another Crc.
func turns(t *testing.T, b []byte, at int, mask []byte) {
	t.Helper()
	c := slices.Clone(b)
	for i, m := range mask {
		c[at+i] ^= m
	}
	if digest.Crc(c) == digest.Crc(b) {
		t.Errorf("%d bytes, turned by %x at %d: the same Crc", len(b), mask, at)
	}
}

// P5.2: one byte turned, in each way at each place.
func TestCrcTurnOne(t *testing.T) {
	for _, size := range []int{1, 2, 3, 4, 5, 60} {
		b := drawn(8, size)
		for at := range size {
			for m := 1; m < 256; m++ {
				turns(t, b, at, []byte{byte(m)})
			}
		}
	}
}

// P5.2: two neighbours turned, in each way.
func TestCrcTurnTwo(t *testing.T) {
	b := drawn(9, 12)
	for _, at := range []int{0, 5, len(b) - 2} {
		for m := 1; m < 1<<16; m++ {
			turns(t, b, at, []byte{byte(m >> 8), byte(m)})
		}
	}
}

// P5.2: three and four neighbours turned: each with one or two bits, and many that are drawn.
func TestCrcTurnMore(t *testing.T) {
	r := rand.New(rand.NewPCG(10, 5))
	for _, count := range []int{3, 4} {
		for _, size := range []int{count, count + 1, 40, 700} {
			b := drawn(11, size)
			for i := range count * 8 {
				for j := range i + 1 {
					mask := make([]byte, count)
					mask[i/8] |= 1 << (i % 8)
					mask[j/8] |= 1 << (j % 8)
					turns(t, b, r.IntN(size-count+1), mask)
				}
			}
			for range 5000 {
				mask := make([]byte, count)
				for i := range mask {
					mask[i] = byte(r.IntN(256))
				}
				mask[r.IntN(count)] |= 1
				turns(t, b, r.IntN(size-count+1), mask)
			}
			turns(t, b, 0, bytes.Repeat([]byte{0xff}, count))
			turns(t, b, size-count, bytes.Repeat([]byte{0xff}, count))
		}
	}
}

// P5.2: what a turned bit does to the Crc hangs on its place alone, so several do what each does, all xored. It is never nothing if none of the 32 bits of four neighbours does what some of the others do together.
func TestCrcTurnAll(t *testing.T) {
	for _, size := range []int{4, 5, 17, 64, 1000} {
		b := drawn(12, size)
		for _, at := range []int{0, size / 3, size - 4} {
			at = min(at, size-4)
			// Of each highest bit, one difference that has it.
			var highest [32]uint32
			for bit := range 32 {
				c := slices.Clone(b)
				c[at+bit/8] ^= 1 << (bit % 8)
				x := digest.Crc(c) ^ digest.Crc(b)
				for x != 0 && highest[bits.Len32(x)-1] != 0 {
					x ^= highest[bits.Len32(x)-1]
				}
				if x == 0 {
					t.Fatalf("%d bytes, four neighbours at %d: bit %d does what others do", size, at, bit)
				}
				highest[bits.Len32(x)-1] = x
			}
		}
	}
}
