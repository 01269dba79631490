package rrset_test

import (
	"math/rand/v2"
	"slices"
	"strings"
	"testing"

	"cicerone/rrset"
)

// P9.1: data in order, each once.
func TestOrder(t *testing.T) {
	for _, c := range []struct{ in, want []string }{
		{nil, nil},
		{[]string{}, nil},
		{[]string{"a"}, []string{"a"}},
		{[]string{"b", "a"}, []string{"a", "b"}},
		{[]string{"b", "a", "b"}, []string{"a", "b"}},
		{[]string{"a", "a", "a"}, []string{"a"}},
		{[]string{"", "a", ""}, []string{"", "a"}},
		{[]string{""}, []string{""}},
		{[]string{"ab", "a", "abc"}, []string{"a", "ab", "abc"}},
		{[]string{"b", "ab", "a"}, []string{"a", "ab", "b"}},
		{[]string{"\xff", "\x80", "\x7f", "\x00", "\x01\xff", "\x01\x00", "\x01"}, []string{"\x00", "\x01", "\x01\x00", "\x01\xff", "\x7f", "\x80", "\xff"}},
		{[]string{"a", "A"}, []string{"A", "a"}},
		{[]string{strings.Repeat("x", 70000) + "b", strings.Repeat("x", 70000) + "a"}, []string{strings.Repeat("x", 70000) + "a", strings.Repeat("x", 70000) + "b"}},
	} {
		is(t, rrset.Order(datas(c.in...)), datas(c.want...))
	}
	is(t, rrset.Order([][]byte{nil, {}, nil}), [][]byte{{}})
	is(t, rrset.Order([][]byte{{1}, nil}), [][]byte{{}, {1}})
}

// P9.1: drawn data, of few bytes, so that they are often the same or begin one another.
func TestOrderDrawn(t *testing.T) {
	r := rand.New(rand.NewPCG(9, 1))
	for range 3000 {
		var l [][]byte
		for range r.IntN(20) {
			b := make([]byte, r.IntN(4))
			for i := range b {
				b[i] = []byte{0, 1, 0x7f, 0x80, 0xff}[r.IntN(5)]
			}
			l = append(l, b)
		}
		is(t, rrset.Order(l), ordered(l))
		is(t, rrset.Order(rrset.Order(l)), ordered(l))
	}
}

// Memory: what is handed in stays as it is, and an answer shares nothing.
func TestOrderMemory(t *testing.T) {
	in := append(datas("b", "a", "", "b", "c"), datas("z", "y")...)[:5]
	was := whole(in)
	first, second := rrset.Order(in), rrset.Order(in)
	if whole(in) != was {
		t.Errorf("what was handed in is %s, and was %s", whole(in), was)
	}
	apart(t, slices.Concat(in[:cap(in)], first, second)...)
	in[0], first[0] = nil, nil
	_, _ = append(first, []byte("more")), append(in, []byte("more"))
	is(t, second, datas("", "a", "b", "c"))
}

// Ends: a long list.
func TestOrderLong(t *testing.T) {
	l := make([][]byte, 300000)
	for i := range l {
		l[i] = []byte{byte(i % 7)}
	}
	is(t, rrset.Order(l), datas("\x00", "\x01", "\x02", "\x03", "\x04", "\x05", "\x06"))
}
