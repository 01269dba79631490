package digest_test

import (
	"bytes"
	"crypto/sha256"
	"encoding/hex"
	"math/big"
	"math/rand/v2"
	"slices"
	"strings"
	"testing"

	"cicerone/digest"
)

// drawn is so many bytes that hang on the seed alone.
func drawn(seed uint64, size int) []byte {
	r := rand.New(rand.NewPCG(seed, 5))
	b := make([]byte, size)
	for i := range b {
		b[i] = byte(r.Uint32())
	}
	return b
}

// sums asks for the sum of a text, given as hexadecimal digits.
func sums(t *testing.T, text, want string) {
	t.Helper()
	if got := hex.EncodeToString(digest.Sum256([]byte(text))); got != want {
		t.Errorf("Sum256 of %d bytes %.20q is %s", len(text), text, got)
	}
}

// P5.1: sums that others have told.
func TestSum256Known(t *testing.T) {
	sums(t, "", "e3b0c44298fc1c149afbf4c8996fb92427ae41e4649b934ca495991b7852b855")
	sums(t, "abc", "ba7816bf8f01cfea414140de5dae2223b00361a396177a9cb410ff61f20015ad")
	sums(t, "abcdbcdecdefdefgefghfghighijhijkijkljklmklmnlmnomnopnopq",
		"248d6a61d20638b8e5c026930c3e6039a33ce45964ff2167f6ecedd419db06c1")
	sums(t, "abcdefghbcdefghicdefghijdefghijkefghijklfghijklmghijklmnhijklmnoijklmnopjklmnopqklmnopqrlmnopqrsmnopqrstnopqrstu",
		"cf5b16a778af8380036ce59e7b0492370b249b11e8f07a51afac45037afee9d1")
	sums(t, "The quick brown fox jumps over the lazy dog", "d7a8fbb307d7809469ca9abcb0082e4f8d5651e46d3cdb762d02d0bf37c9e592")
	sums(t, strings.Repeat("a", 1000000), "cdc76e5c9914fb9281a1c7e284d73e67f1809a48a497200e046d39ccc7112cd0")
}

// P5.1: at these lengths a block is just full, or what stands behind the bytes just goes over into a further block.
func TestSum256Edges(t *testing.T) {
	for _, size := range []int{0, 55, 56, 63, 64, 65, 119, 120, 128} {
		for _, b := range [][]byte{make([]byte, size), bytes.Repeat([]byte{0x80}, size), bytes.Repeat([]byte{0xff}, size), drawn(1, size)} {
			want := sha256.Sum256(b)
			if got := digest.Sum256(b); !bytes.Equal(got, want[:]) {
				t.Errorf("%d bytes: Sum256 is %x, not %x", size, got, want)
			}
		}
	}
}

// P5.1: each length up to some blocks, and some long ones; the count of bits takes up to four of its bytes.
func TestSum256Lengths(t *testing.T) {
	all := drawn(2, 1<<21)
	sizes := []int{1 << 13, 1<<13 - 1, 1<<16 + 1, 1<<20 - 8, 1 << 20, 1<<21 - 9, 1 << 21}
	for size := range 400 {
		sizes = append(sizes, size)
	}
	for _, size := range sizes {
		b := all[:size:size]
		want := sha256.Sum256(b)
		if got := digest.Sum256(b); !bytes.Equal(got, want[:]) || len(got) != 32 {
			t.Errorf("%d bytes: Sum256 is %x, not %x", size, got, want)
		}
	}
}

// P5.1: a bit that is turned anywhere gives another sum, all of them right.
func TestSum256Turned(t *testing.T) {
	b := drawn(3, 130)
	for bit := range len(b) * 8 {
		c := slices.Clone(b)
		c[bit/8] ^= 1 << (bit % 8)
		want := sha256.Sum256(c)
		if got := digest.Sum256(c); !bytes.Equal(got, want[:]) {
			t.Errorf("bit %d turned: Sum256 is %x, not %x", bit, got, want)
		}
	}
}

// Nil and empty bytes mean the same, whatever room stands behind them.
func TestSum256Nothing(t *testing.T) {
	want := sha256.Sum256(nil)
	for _, b := range [][]byte{nil, {}, make([]byte, 0, 100), []byte("abc")[:0], []byte("abc")[3:]} {
		if got := digest.Sum256(b); !bytes.Equal(got, want[:]) {
			t.Errorf("Sum256 of nothing, with room for %d bytes, is %x", cap(b), got)
		}
		if got := digest.Crc(b); got != 0 {
			t.Errorf("Crc of nothing, with room for %d bytes, is %08x", cap(b), got)
		}
	}
}

// What is handed in is not changed, and what stands behind it is neither read nor changed; what is answered is new memory.
func TestSum256Memory(t *testing.T) {
	for _, size := range []int{0, 1, 31, 32, 55, 56, 63, 64, 65, 119, 120, 128, 200} {
		room := drawn(4, size+200)
		kept := slices.Clone(room)
		b := room[:size]
		first, crc := digest.Sum256(b), digest.Crc(b)
		if !bytes.Equal(room, kept) {
			t.Errorf("%d bytes: what was handed in has changed", size)
		}
		again := digest.Sum256(b)
		whole := again[:cap(again)]
		for i := range whole {
			whole[i] ^= 0xff
		}
		if want := sha256.Sum256(kept[:size]); !bytes.Equal(first, want[:]) || !bytes.Equal(digest.Sum256(b), want[:]) {
			t.Errorf("%d bytes: two answers share memory", size)
		}
		if !bytes.Equal(room, kept) {
			t.Errorf("%d bytes: an answer shares memory with what was handed in", size)
		}
		for i := size; i < len(room); i++ {
			room[i] ^= 0xff
		}
		if !bytes.Equal(digest.Sum256(b), first) || digest.Crc(b) != crc {
			t.Errorf("%d bytes: a sum hangs on what stands behind the bytes", size)
		}
	}
}

// A second way to SHA-256, by the chapter's words: even its constants are reckoned.

// primes are the first so many.
func primes(count int) []int64 {
	var l []int64
	for n := int64(2); len(l) < count; n++ {
		if !slices.ContainsFunc(l, func(p int64) bool { return n%p == 0 }) {
			l = append(l, n)
		}
	}
	return l
}

// fraction is the first 32 bits of the fractional part of a prime's root, the square root or the cube root.
func fraction(p, root int64) uint32 {
	want := new(big.Int).Lsh(big.NewInt(p), uint(32*root))
	low, high := new(big.Int), new(big.Int).Lsh(big.NewInt(p), 32)
	for low.Cmp(high) < 0 {
		mid := new(big.Int).Add(low, high)
		mid.Add(mid, big.NewInt(1)).Rsh(mid, 1)
		if new(big.Int).Exp(mid, big.NewInt(root), nil).Cmp(want) <= 0 {
			low = mid
		} else {
			high = mid.Sub(mid, big.NewInt(1))
		}
	}
	return uint32(low.Uint64())
}

// plainSum is SHA-256 of bytes that stand with all that follows them in one block.
func plainSum(text string) []byte {
	block := make([]byte, 64)
	copy(block, text+"\x80")
	block[62], block[63] = byte(len(text)*8>>8), byte(len(text)*8)
	right := func(x uint32, n int) uint32 { return x>>n | x<<(32-n) }
	var w []uint32
	for i := 0; i < 64; i += 4 {
		w = append(w, uint32(block[i])<<24|uint32(block[i+1])<<16|uint32(block[i+2])<<8|uint32(block[i+3]))
	}
	for i := 16; i < 64; i++ {
		s0 := right(w[i-15], 7) ^ right(w[i-15], 18) ^ w[i-15]>>3
		s1 := right(w[i-2], 17) ^ right(w[i-2], 19) ^ w[i-2]>>10
		w = append(w, s1+w[i-7]+s0+w[i-16])
	}
	var first, v []uint32
	for _, p := range primes(8) {
		first = append(first, fraction(p, 2))
	}
	v = slices.Clone(first)
	for i, p := range primes(64) {
		t1 := v[7] + (right(v[4], 6) ^ right(v[4], 11) ^ right(v[4], 25)) + (v[4]&v[5] ^ ^v[4]&v[6]) + fraction(p, 3) + w[i]
		t2 := (right(v[0], 2) ^ right(v[0], 13) ^ right(v[0], 22)) + (v[0]&v[1] ^ v[0]&v[2] ^ v[1]&v[2])
		v = []uint32{t1 + t2, v[0], v[1], v[2], v[3] + t1, v[4], v[5], v[6]}
	}
	var sum []byte
	for i := range v {
		x := first[i] + v[i]
		sum = append(sum, byte(x>>24), byte(x>>16), byte(x>>8), byte(x))
	}
	return sum
}

// P5.1: the sum as the chapter tells it.
func TestSum256Chapter(t *testing.T) {
	for size := range 56 {
		text := string(drawn(uint64(size), size))
		if got, want := digest.Sum256([]byte(text)), plainSum(text); !bytes.Equal(got, want) {
			t.Errorf("%d bytes: Sum256 is %x, not %x", size, got, want)
		}
	}
}
