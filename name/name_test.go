package name_test

import (
	"math"
	"strings"
	"testing"

	"cicerone/api"
	"cicerone/name"
)

// join is bytes as on the wire: each label with its length ahead, the byte 0 behind.
func join(labels ...string) string {
	n := ""
	for _, l := range labels {
		n += string([]byte{byte(len(l))}) + l
	}
	return n + "\x00"
}

// times is a label of one byte, so many times over.
func times(size int) string { return strings.Repeat("x", size) }

// ones is the name of so many labels of one byte each.
func ones(labels int) string { return strings.Repeat("\x01a", labels) + "\x00" }

// longest are names of MaxName bytes.
func longest() []string {
	full := times(api.MaxLabel)
	return []string{
		ones(127),
		join(full, full, full, times(61)),
		join(times(61), full, full, full),
		join(times(61), full, "a", times(61), full),
	}
}

// tooLong are names but for their one byte too much.
func tooLong() []string {
	full := times(api.MaxLabel)
	return []string{
		"\x02aa" + ones(126),
		join(full, full, full, times(62)),
		join(times(62), full, full, full),
	}
}

// wrong are bytes that are no name.
func wrong() []string {
	l := []string{
		"",                             // nothing, not even the root's byte
		"a",                            // a length beyond the limit, and no label
		"\x01",                         // no label behind the length
		"\x01a",                        // no byte 0 behind
		"\x02a\x00",                    // the byte 0 lies within the label
		"\x03www\x07Example",           // no byte 0 behind
		"\x00\x00",                     // a byte behind the end
		"\x00a",                        // the same
		"\x01a\x00\x00",                // the same
		"\x01a\x00\x01b\x00",           // a name behind the end
		"\x01a\xc0\x00",                // a pointer
		"\xc0\x00",                     // the same
		"\x01a\x40" + times(64),        // a label's length beyond the limit, no byte 0
		join(times(64)),                // a label of one byte more than can be
		join("a", times(64)),           // the same behind another one
		join(times(64), "a"),           // the same ahead of another one
		join(times(200)),               // a greater one
		"\xff" + times(255) + "\x00",   // the greatest length
		strings.Repeat("\x00", 256),    // many of the root
		strings.Repeat("\x01a", 1<<16), // no end
		ones(1 << 16),                  // far too long
		"www.example.",                 // a text
		".",                            // the root's text
	}
	return append(l, tooLong()...)
}

// right are names, no two of them the same.
func right() []string {
	return append([]string{
		"\x00",
		join("a"),
		join("B"),
		join("www", "Example"),
		join("example"),
		join("a.b"),
		join("a", "b"),
		join("\x00"),
		join("\xff", "\x00\x01a"),
		join(times(63)),
		join(times(62)),
		join(times(63), "a"),
		join("x\x07example"),
		ones(126),
	}, longest()...)
}

func TestCan(t *testing.T) {
	for _, n := range right() {
		if !name.Can(n) {
			t.Errorf("%q is a name", n)
		}
	}
	for _, n := range wrong() {
		if name.Can(n) {
			t.Errorf("%q is no name", n)
		}
	}
}

// Each length of a label from 0 to 255, the label itself being as long.
func TestCanLengths(t *testing.T) {
	for size := range 256 {
		if got, want := name.Can(join(times(size))), size >= 1 && size <= 63; got != want {
			t.Errorf("a label of %d bytes: %v", size, got)
		}
	}
}

// Each length of a whole name around the limit.
func TestCanWhole(t *testing.T) {
	for size := 1; size <= 63; size++ {
		n := join(times(63), times(63), times(63), times(size))
		if got, want := name.Can(n), len(n) <= 255; got != want {
			t.Errorf("a name of %d bytes: %v", len(n), got)
		}
	}
}

func TestLimits(t *testing.T) {
	for _, n := range longest() {
		if len(n) != 255 {
			t.Errorf("%q has %d bytes", n, len(n))
		}
	}
	for _, n := range tooLong() {
		if len(n) != 256 {
			t.Errorf("%q has %d bytes", n, len(n))
		}
	}
}

// Of a text that is no name, in each argument, there is nothing.
func TestNoName(t *testing.T) {
	for _, n := range wrong() {
		if name.Text(n) != "" || name.Lower(n) != "" || name.Count(n) != 0 {
			t.Errorf("%q: Text %q, Lower %q, Count %d", n, name.Text(n), name.Lower(n), name.Count(n))
		}
		if up, ok := name.Parent(n); up != "" || ok {
			t.Errorf("%q: Parent %q, %v", n, up, ok)
		}
		for _, labels := range []int{-1, 0, 1, 2, 1000} {
			if got := name.Tail(n, labels); got != "" {
				t.Errorf("%q: Tail %d %q", n, labels, got)
			}
		}
		for _, other := range append(right(), n, "", "\x01") {
			if name.Same(n, other) || name.Same(other, n) {
				t.Errorf("%q, %q: Same", n, other)
			}
			if name.Compare(n, other) != 0 || name.Compare(other, n) != 0 {
				t.Errorf("%q, %q: Compare", n, other)
			}
			if name.Within(n, other) || name.Within(other, n) {
				t.Errorf("%q, %q: Within", n, other)
			}
		}
	}
}

// small is a byte's small letter.
func small(b byte) byte {
	if i := strings.IndexByte("ABCDEFGHIJKLMNOPQRSTUVWXYZ", b); i >= 0 {
		return "abcdefghijklmnopqrstuvwxyz"[i]
	}
	return b
}

// great is a text with great letters alone.
func great(n string) string {
	b := []byte(n)
	for i := range b {
		if strings.IndexByte("abcdefghijklmnopqrstuvwxyz", b[i]) >= 0 {
			b[i] -= 32
		}
	}
	return string(b)
}

func TestLower(t *testing.T) {
	for b := range 256 {
		n, want := join("a", string([]byte{byte(b)}), "Z"), join("a", string([]byte{small(byte(b))}), "z")
		if got := name.Lower(n); got != want {
			t.Errorf("Lower(%q) is %q", n, got)
		}
	}
	for n, want := range map[string]string{
		"\x00":                                "\x00",
		join("WWW", "Example"):                join("www", "example"),
		join("\xc3\x84"):                      join("\xc3\x84"),
		join("\xe2\x84\xaa", "K"):             join("\xe2\x84\xaa", "k"),
		join(strings.Repeat("Q", 63)):         join(strings.Repeat("q", 63)),
		strings.Repeat("\x01A", 127) + "\x00": ones(127),
	} {
		if got := name.Lower(n); got != want {
			t.Errorf("Lower(%q) is %q", n, got)
		}
	}
}

func TestSame(t *testing.T) {
	for a := range 256 {
		for b := range 256 {
			x, y := join("x", string([]byte{byte(a)})), join("X", string([]byte{byte(b)}))
			want := small(byte(a)) == small(byte(b))
			if name.Same(x, y) != want {
				t.Errorf("Same(%q, %q) is not %v", x, y, want)
			}
			if (name.Compare(x, y) == 0) != want {
				t.Errorf("Compare(%q, %q): %d", x, y, name.Compare(x, y))
			}
		}
	}
	l := right()
	for i, a := range l {
		for j, b := range l {
			if name.Same(a, b) != (i == j) || name.Same(great(a), b) != (i == j) || name.Same(a, great(b)) != (i == j) {
				t.Errorf("Same(%q, %q): %v", a, b, name.Same(a, b))
			}
		}
	}
}

// rising are names in order.
func rising() []string {
	return []string{
		"\x00",
		join("\x00"),
		join("\x00", "\x00"),
		join("\xff", "\x00"),
		join("\x00\x00"),
		join("*"),
		join("-"),
		join("0"),
		join("_"),
		join("`"),
		join("a"),
		join("\x00", "A"),
		join("\xff", "a"),
		join("a\x00"),
		join("z", "a\x00"),
		join("a.b"),
		join("A.B.C"),
		join("aa"),
		join("Ab"),
		join("b"),
		join("a", "B"),
		join("z", "a", "b"),
		join("b", "b"),
		join("Example"),
		join("a", "example"),
		join("yljkjljk", "a", "example"),
		join("Z", "a", "example"),
		join("zABC", "a", "EXAMPLE"),
		join("z", "example"),
		join("\x01", "z", "example"),
		join("*", "z", "example"),
		join("\xc8", "z", "example"),
		join("examples"),
		join("a", "examples"),
		join(times(62)),
		join(times(63)),
		join("y"),
		join("[", "y"),
		join("_", "y"),
		join("Z", "y"),
		join("{", "y"),
		join("\x7f"),
		join("\x80"),
		join("\xff"),
		join("\xff\xff"),
	}
}

func TestCompare(t *testing.T) {
	l := rising()
	for i, a := range l {
		for j, b := range l {
			want := 0
			if i < j {
				want = -1
			} else if i > j {
				want = 1
			}
			for _, x := range []string{a, name.Lower(a)} {
				if got := name.Compare(x, b); got != want {
					t.Errorf("Compare(%q, %q) is %d", x, b, got)
				}
			}
		}
	}
	if got := name.Compare(join("www", "Example"), join("example")); got != 1 {
		t.Errorf("www.Example. and example.: %d", got)
	}
	if name.Compare(ones(127), ones(126)) != 1 || name.Compare(ones(126), ones(127)) != -1 || name.Compare(ones(127), ones(127)) != 0 {
		t.Error("many labels")
	}
}

func TestCount(t *testing.T) {
	for n, want := range map[string]int{
		"\x00":                   0,
		join("a"):                1,
		join(times(63)):          1,
		join("www", "Example"):   2,
		join("a.b", "c"):         2,
		join("\x00\x01", "\x00"): 2,
		ones(127):                127,
	} {
		if got := name.Count(n); got != want {
			t.Errorf("Count(%q) is %d", n, got)
		}
	}
}

func TestParent(t *testing.T) {
	if up, ok := name.Parent("\x00"); up != "" || ok {
		t.Errorf("the root's: %q, %v", up, ok)
	}
	for n, want := range map[string]string{
		join("a"):                        "\x00",
		join("www", "Example"):           join("Example"),
		join("www", "Example", "Com"):    join("Example", "Com"),
		join("a\x01b", "\x01c", "\x00"):  join("\x01c", "\x00"),
		join(times(63), times(63), "aB"): join(times(63), "aB"),
		ones(127):                        ones(126),
	} {
		if up, ok := name.Parent(n); up != want || !ok {
			t.Errorf("Parent(%q) is %q, %v", n, up, ok)
		}
	}
}

func TestTail(t *testing.T) {
	n := join("www", "Example", "A")
	for labels, want := range map[int]string{
		math.MinInt: "\x00",
		-1:          "\x00",
		0:           "\x00",
		1:           join("A"),
		2:           join("Example", "A"),
		3:           n,
		4:           n,
		math.MaxInt: n,
	} {
		if got := name.Tail(n, labels); got != want {
			t.Errorf("Tail(%d) is %q", labels, got)
		}
	}
	for _, labels := range []int{math.MinInt, -1, 0, 1, math.MaxInt} {
		if got := name.Tail("\x00", labels); got != "\x00" {
			t.Errorf("the root's Tail(%d) is %q", labels, got)
		}
	}
	for labels := range 128 {
		if got := name.Tail(ones(127), labels); got != ones(labels) {
			t.Errorf("of 127 labels Tail(%d) is %q", labels, got)
		}
	}
}

func TestWithin(t *testing.T) {
	for _, c := range []struct {
		n, zone string
		want    bool
	}{
		{"\x00", "\x00", true},
		{join("a"), "\x00", true},
		{ones(127), "\x00", true},
		{"\x00", join("a"), false},
		{join("example"), join("example"), true},
		{join("Example"), join("eXAMPLE"), true},
		{join("www", "Example"), join("EXAMPLE"), true},
		{join("a", "www", "Example"), join("wWw", "example"), true},
		{join("example"), join("www", "Example"), false},
		{join("ftp", "Example"), join("www", "Example"), false},
		{join("xexample"), join("example"), false},
		{join("x\x07example"), join("example"), false},
		{join("x.example"), join("example"), false},
		{join("example", "x"), join("example"), false},
		{join("example", "a"), join("example", "b"), false},
		{join("www", "example"), join("www"), false},
		{ones(127), ones(126), true},
		{ones(126), ones(127), false},
	} {
		if got := name.Within(c.n, c.zone); got != c.want {
			t.Errorf("Within(%q, %q) is %v", c.n, c.zone, got)
		}
	}
}
