package net_test

import (
	"math"
	"slices"
	"testing"

	"cicerone/api"
	"cicerone/net"
)

// The chapter's example: Dial, Dial, Drop(1): connection 2.
func TestExample(t *testing.T) {
	n := net.New()
	dials(t, n, 7, 1)
	dials(t, n, 8, 2)
	drops(t, n, 1)
	has(t, n, [2]int{2, 8})
}

// P15.1, P15.2: a new net has no connection.
func TestNew(t *testing.T) {
	n := net.New()
	if n == nil {
		t.Fatal("New is nil")
	}
	has(t, n)
	for conn := range 5 {
		lacks(t, n, conn)
	}
	dials(t, n, 0, 1)
	has(t, n, [2]int{1, 0})
}

// P15.1: numbers go up from 1, to several addresses and to the same one.
func TestDialNumbers(t *testing.T) {
	n := net.New()
	var want [][2]int
	for i, addr := range []int{9, 9, 9, 0, 9, greatest, 1, 0, 8, 7, 6, 9} {
		dials(t, n, addr, i+1)
		want = append(want, [2]int{i + 1, addr})
		has(t, n, want...)
	}
}

// P15.1: addresses at and beyond the ends of what they may be.
func TestDialAddresses(t *testing.T) {
	n := net.New()
	good := []int{0, 1, 255, 65535, 65536, 1<<31 - 1, 1 << 31, 1<<31 + 1, greatest - 1, greatest}
	var want [][2]int
	for i, addr := range good {
		dials(t, n, addr, i+1)
		want = append(want, [2]int{i + 1, addr})
	}
	has(t, n, want...)
	for _, addr := range []int{-1, -2, -9, greatest + 1, greatest + 2, 1 << 33, 1<<33 + 5, 1 << 40, -1 << 31, -1 << 32, -1<<32 + 7, -greatest, math.MaxInt, math.MaxInt - 1, math.MinInt, math.MinInt + 1} {
		if conn, e := n.Dial(addr); conn != 0 || e != api.ErrArg {
			t.Errorf("Dial(%d) is %d, %d", addr, conn, e)
		}
		has(t, n, want...)
	}
	// Nothing has changed: no number is used up.
	dials(t, n, 3, len(good)+1)
}

// P15.1: a number that was dropped is never given again, not the last one either.
func TestNumbersOnce(t *testing.T) {
	n := net.New()
	dials(t, n, 5, 1)
	drops(t, n, 1)
	dials(t, n, 5, 2)
	dials(t, n, 6, 3)
	drops(t, n, 3)
	drops(t, n, 2)
	has(t, n)
	for i := range 50 {
		dials(t, n, 5, 4+i)
		drops(t, n, 4+i)
		lacks(t, n, 4+i)
	}
	dials(t, n, 6, 54)
	has(t, n, [2]int{54, 6})
	for conn := range 54 {
		lacks(t, n, conn)
	}
}

// P15.1: what is written stands behind what was written, and Take takes it once.
func TestWriteTake(t *testing.T) {
	n := net.New()
	dials(t, n, 5, 1)
	takes(t, n, 1, "")
	writes(t, n, 1, "ab")
	takes(t, n, 1, "ab")
	takes(t, n, 1, "")
	takes(t, n, 1, "")
	writes(t, n, 1, "c")
	writes(t, n, 1, "de")
	writes(t, n, 1, "f")
	takes(t, n, 1, "cdef")
	takes(t, n, 1, "")
	writes(t, n, 1, "longer than all that came ahead")
	takes(t, n, 1, "longer than all that came ahead")
	writes(t, n, 1, "g")
	takes(t, n, 1, "g")
	takes(t, n, 1, "")
	has(t, n, [2]int{1, 5})
}

// P15.1: writes of no bytes, alone and among others.
func TestWriteNothing(t *testing.T) {
	n := net.New()
	dials(t, n, 5, 1)
	for _, none := range [][]byte{nil, {}, make([]byte, 0, 9), []byte("room")[:0]} {
		if e := n.Write(1, none); e != api.OK {
			t.Errorf("Write(1, %#v) is %d", none, e)
		}
		takes(t, n, 1, "")
		writes(t, n, 1, "a")
		if e := n.Write(1, none); e != api.OK {
			t.Errorf("Write(1, %#v) behind a byte is %d", none, e)
		}
		writes(t, n, 1, "b")
		takes(t, n, 1, "ab")
	}
}

// P15.1: all bytes, few and many.
func TestWriteBytes(t *testing.T) {
	n := net.New()
	dials(t, n, 5, 1)
	for c := range 256 {
		writes(t, n, 1, string([]byte{byte(c)}))
		writes(t, n, 1, string([]byte{byte(c), 0, byte(c)}))
		takes(t, n, 1, string([]byte{byte(c), byte(c), 0, byte(c)}))
	}
	all := ""
	for _, size := range []int{1, 65537, 0, 3, 1 << 20, 2} {
		writes(t, n, 1, of(size))
		all += of(size)
	}
	takes(t, n, 1, all)
	takes(t, n, 1, "")
}

// P15.1: connections have bytes of their own, those to the same address, too.
func TestOwnBytes(t *testing.T) {
	n := net.New()
	for i, addr := range []int{5, 6, 5} {
		dials(t, n, addr, i+1)
	}
	writes(t, n, 1, "a")
	writes(t, n, 2, "b")
	writes(t, n, 3, "c")
	writes(t, n, 1, "d")
	takes(t, n, 1, "ad")
	takes(t, n, 1, "")
	writes(t, n, 3, "e")
	writes(t, n, 1, "f")
	takes(t, n, 2, "b")
	takes(t, n, 3, "ce")
	takes(t, n, 1, "f")
	for conn := 1; conn <= 3; conn++ {
		takes(t, n, conn, "")
	}
}

// P15.1: a dropped connection is there no more, whatever it had; the others stay as they were.
func TestDrop(t *testing.T) {
	n := net.New()
	for i, addr := range []int{5, 5, 6, 7} {
		dials(t, n, addr, i+1)
		writes(t, n, i+1, of(i))
	}
	drops(t, n, 2)
	lacks(t, n, 2)
	has(t, n, [2]int{1, 5}, [2]int{3, 6}, [2]int{4, 7})
	drops(t, n, 4)
	lacks(t, n, 4)
	lacks(t, n, 2)
	dials(t, n, 5, 5)
	has(t, n, [2]int{1, 5}, [2]int{3, 6}, [2]int{5, 5})
	takes(t, n, 1, of(0))
	takes(t, n, 3, of(2))
	takes(t, n, 5, "")
	for _, conn := range []int{5, 1, 3} {
		drops(t, n, conn)
		lacks(t, n, conn)
	}
	has(t, n)
}

// P15.1, P15.2: connections that never were; calls of them change nothing.
func TestNever(t *testing.T) {
	n := net.New()
	dials(t, n, 5, 1)
	dials(t, n, 0, 2)
	writes(t, n, 1, "ab")
	writes(t, n, 2, "c")
	for _, conn := range append(never, 3, 4, 5, 1000) {
		lacks(t, n, conn)
		has(t, n, [2]int{1, 5}, [2]int{2, 0})
	}
	takes(t, n, 1, "ab")
	takes(t, n, 2, "c")
	dials(t, n, 9, 3)
	takes(t, n, 3, "")
}

// P15.2: a connection to the address 0 is there, one that is not has 0 and false.
func TestAddrZero(t *testing.T) {
	n := net.New()
	dials(t, n, 0, 1)
	if addr, ok := n.Addr(1); addr != 0 || !ok {
		t.Errorf("Addr(1) is %d, %t", addr, ok)
	}
	drops(t, n, 1)
	if addr, ok := n.Addr(1); addr != 0 || ok {
		t.Errorf("Addr(1) behind Drop is %d, %t", addr, ok)
	}
}

// P15.2: Conns rises behind many dials and drops.
func TestConnsRising(t *testing.T) {
	n := net.New()
	var want [][2]int
	for i := range 600 {
		dials(t, n, i%7, i+1)
		want = append(want, [2]int{i + 1, i % 7})
		if i%3 == 1 {
			at := i * 31 % len(want)
			drops(t, n, want[at][0])
			want = slices.Delete(want, at, at+1)
		}
		if i%50 == 0 {
			has(t, n, want...)
		}
	}
	has(t, n, want...)
	for len(want) > 0 {
		at := len(want) * 17 % 41 % len(want)
		drops(t, n, want[at][0])
		want = slices.Delete(want, at, at+1)
		if len(want)%40 < 2 {
			has(t, n, want...)
		}
	}
	has(t, n)
}

// P15.2: what only looks takes nothing.
func TestLooks(t *testing.T) {
	n := net.New()
	dials(t, n, 5, 1)
	writes(t, n, 1, "ab")
	for range 3 {
		has(t, n, [2]int{1, 5})
	}
	takes(t, n, 1, "ab")
	has(t, n, [2]int{1, 5})
}

// Objects: a nil net, and one that no call made.
func TestNoNet(t *testing.T) {
	made := net.New()
	dials(t, made, 5, 1)
	writes(t, made, 1, "ab")
	*made = net.Net{}
	for _, n := range []*net.Net{nil, {}, new(net.Net), made} {
		for _, addr := range []int{0, 5, greatest, -1, greatest + 1, math.MinInt, math.MaxInt} {
			if conn, e := n.Dial(addr); conn != 0 || e != api.ErrNil {
				t.Errorf("Dial(%d) is %d, %d", addr, conn, e)
			}
		}
		for _, conn := range append(never, 1, 2) {
			for _, b := range [][]byte{nil, {}, []byte("a")} {
				if e := n.Write(conn, b); e != api.ErrNil {
					t.Errorf("Write(%d, %q) is %d", conn, b, e)
				}
			}
			if b, e := n.Take(conn); len(b) != 0 || e != api.ErrNil {
				t.Errorf("Take(%d) is %q, %d", conn, b, e)
			}
			if e := n.Drop(conn); e != api.ErrNil {
				t.Errorf("Drop(%d) is %d", conn, e)
			}
			if addr, ok := n.Addr(conn); addr != 0 || ok {
				t.Errorf("Addr(%d) is %d, %t", conn, addr, ok)
			}
		}
		if l := n.Conns(); len(l) != 0 {
			t.Errorf("Conns is %v", l)
		}
	}
}

// From arguments alone: nets know nothing of one another.
func TestTwoNets(t *testing.T) {
	a, b := net.New(), net.New()
	dials(t, a, 5, 1)
	dials(t, a, 6, 2)
	has(t, b)
	lacks(t, b, 1)
	dials(t, b, 7, 1)
	writes(t, a, 1, "a")
	writes(t, b, 1, "b")
	drops(t, a, 2)
	takes(t, b, 1, "b")
	takes(t, a, 1, "a")
	has(t, a, [2]int{1, 5})
	has(t, b, [2]int{1, 7})
	drops(t, b, 1)
	takes(t, a, 1, "")
	dials(t, b, 7, 2)
	dials(t, a, 7, 3)
}
