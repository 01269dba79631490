package net_test

import (
	"math"
	"slices"
	"testing"

	"cicerone/api"
	"cicerone/net"
)

// greatest is the greatest address.
const greatest = 4294967295

// never are numbers that no connection has.
var never = []int{0, -1, -2, math.MinInt, math.MaxInt, 1 << 32, 1<<32 + 1, -1 << 32}

// dials asks for a new connection of a number.
func dials(t *testing.T, n *net.Net, addr, want int) {
	t.Helper()
	if conn, e := n.Dial(addr); conn != want || e != api.OK {
		t.Errorf("Dial(%d) is %d, %d, not %d", addr, conn, e, want)
	}
}

// writes asks that bytes can be written.
func writes(t *testing.T, n *net.Net, conn int, text string) {
	t.Helper()
	if e := n.Write(conn, []byte(text)); e != api.OK {
		t.Errorf("Write(%d, %.20q) is %d", conn, text, e)
	}
}

// takes asks for what Take answers.
func takes(t *testing.T, n *net.Net, conn int, want string) {
	t.Helper()
	if b, e := n.Take(conn); string(b) != want || e != api.OK {
		t.Errorf("Take(%d) is %d bytes %.40q, %d, not %d bytes %.40q", conn, len(b), b, e, len(want), want)
	}
}

// drops asks that a connection can be dropped.
func drops(t *testing.T, n *net.Net, conn int) {
	t.Helper()
	if e := n.Drop(conn); e != api.OK {
		t.Errorf("Drop(%d) is %d", conn, e)
	}
}

// has asks for all connections, those with these numbers and addresses.
func has(t *testing.T, n *net.Net, want ...[2]int) {
	t.Helper()
	var conns []int
	for _, w := range want {
		conns = append(conns, w[0])
		if addr, ok := n.Addr(w[0]); addr != w[1] || !ok {
			t.Errorf("Addr(%d) is %d, %t, not %d", w[0], addr, ok, w[1])
		}
	}
	if got := n.Conns(); !slices.Equal(got, conns) {
		t.Errorf("Conns is %v, not %v", got, conns)
	}
}

// lacks asks that each call says that a connection is not there.
func lacks(t *testing.T, n *net.Net, conn int) {
	t.Helper()
	for _, b := range [][]byte{nil, {}, []byte("a"), make([]byte, 3, 9)} {
		if e := n.Write(conn, b); e != api.ErrConn {
			t.Errorf("Write(%d, %q) is %d", conn, b, e)
		}
	}
	if b, e := n.Take(conn); len(b) != 0 || e != api.ErrConn {
		t.Errorf("Take(%d) is %q, %d", conn, b, e)
	}
	if e := n.Drop(conn); e != api.ErrConn {
		t.Errorf("Drop(%d) is %d", conn, e)
	}
	if addr, ok := n.Addr(conn); addr != 0 || ok {
		t.Errorf("Addr(%d) is %d, %t", conn, addr, ok)
	}
}

// of is a text of so many bytes, none of which is like its neighbours.
func of(size int) string {
	b := make([]byte, size)
	for i := range b {
		b[i] = byte(i*7 + i/256 + size)
	}
	return string(b)
}

// spoil changes each byte of a list, and of the room behind it.
func spoil(b []byte) {
	b = b[:cap(b)]
	for i := range b {
		b[i] ^= 0x55
	}
}

// whole is a list with the room behind it.
func whole(b []byte) string { return string(b[:cap(b)]) }
