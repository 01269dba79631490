package name_test

import (
	"math/rand/v2"
	"strings"
	"testing"

	"cicerone/api"
	"cicerone/name"
)

// letters are few, so that names are often the same, or begin one another.
const letters = "aAbB.\x00\x01\xff"

// drawn are names of a fixed row of draws, and the root.
func drawn(many int) []string {
	r := rand.New(rand.NewPCG(1, 2))
	l := []string{"\x00"}
	for range many {
		var labels []string
		for range 1 + r.IntN(3) {
			label := make([]byte, 1+r.IntN(3))
			for i := range label {
				label[i] = letters[r.IntN(len(letters))]
			}
			labels = append(labels, string(label))
		}
		l = append(l, join(labels...))
	}
	return l
}

// P1.4: Parse of Text is the name.
func TestTextParse(t *testing.T) {
	l := append(right(), drawn(2000)...)
	for b := range 256 {
		l = append(l, join("a", string([]byte{byte(b), byte(b)})))
	}
	for _, n := range l {
		if !name.Can(n) {
			t.Fatalf("%q is a name", n)
		}
		parses(t, name.Text(n), n)
	}
}

// P1.4: Text of Parse is Text of it again, whatever the text; and what Parse tells is a name.
func TestParseText(t *testing.T) {
	const parts = "aA0-_*.\\012 "
	r := rand.New(rand.NewPCG(3, 4))
	l := []string{".", "a.", "\\097.", "\\046\\.", "\\0461.", strings.Repeat("\\065.", 127), strings.Repeat("a.", 128)}
	for range 20000 {
		var s strings.Builder
		for range r.IntN(12) {
			if r.IntN(6) == 0 {
				s.WriteString(written(r.IntN(256)))
			}
			s.WriteByte(parts[r.IntN(len(parts))])
		}
		l = append(l, s.String()+".")
	}
	found := 0
	for _, s := range l {
		n, e := name.Parse(s)
		if e != api.OK {
			if n != "" {
				t.Errorf("Parse(%q) is %q, %d", s, n, e)
			}
			continue
		}
		found++
		if !name.Can(n) {
			t.Errorf("Parse(%q) is %q, which is no name", s, n)
		}
		again, e := name.Parse(name.Text(n))
		if e != api.OK || name.Text(again) != name.Text(n) {
			t.Errorf("Parse(%q) is %q, its text %q", s, n, name.Text(n))
		}
	}
	if found < 100 {
		t.Errorf("only %d texts have a name", found)
	}
}

// P1.5: Compare is an order, 0 just of what is Same.
func TestOrder(t *testing.T) {
	l := append(drawn(80), rising()...)
	for _, a := range l {
		for _, b := range l {
			ab := name.Compare(a, b)
			if ab < -1 || ab > 1 || ab != -name.Compare(b, a) {
				t.Errorf("%q, %q: %d, %d", a, b, ab, name.Compare(b, a))
			}
			if (ab == 0) != name.Same(a, b) {
				t.Errorf("%q, %q: %d, Same %v", a, b, ab, name.Same(a, b))
			}
			for _, c := range l {
				if ab <= 0 && name.Compare(b, c) <= 0 && name.Compare(a, c) > 0 {
					t.Errorf("%q, %q, %q: no order", a, b, c)
				}
			}
		}
	}
}

// P1.5: a name stands ahead of all that lie within it.
func TestZoneAhead(t *testing.T) {
	l := append(drawn(300), rising()...)
	for _, zone := range l {
		for _, n := range l {
			if name.Within(n, zone) && !name.Same(n, zone) && name.Compare(zone, n) != -1 {
				t.Errorf("%q lies within %q, which is not ahead", n, zone)
			}
		}
	}
}

// above is a name and all above it, but no more than a name can have.
func above(n string) []string {
	l := []string{n}
	for up, ok := name.Parent(n); ok && len(l) <= api.MaxName; up, ok = name.Parent(up) {
		l = append(l, up)
	}
	return l
}

// P1.3, P1.6: what lies within a zone lies within all above it, and within nothing else.
func TestZonesAbove(t *testing.T) {
	l := append(drawn(300), longest()...)
	for _, n := range l {
		zones := map[string]bool{}
		for _, up := range above(n) {
			zones[name.Lower(up)] = true
		}
		for _, zone := range l {
			if got, want := name.Within(n, zone), zones[name.Lower(zone)]; got != want {
				t.Errorf("Within(%q, %q) is %v", n, zone, got)
			}
			if !name.Within(n, zone) {
				continue
			}
			for _, up := range above(zone) {
				if !name.Within(n, up) || !name.Within(name.Lower(n), great(up)) {
					t.Errorf("%q lies within %q, but not %q", n, zone, up)
				}
			}
		}
	}
}

// P1.3: Count, Parent and Tail fit together.
func TestParents(t *testing.T) {
	for _, n := range append(drawn(500), longest()...) {
		up, ok := n, true
		for labels := name.Count(n); labels >= 0; labels-- {
			if !ok || !name.Can(up) || name.Count(up) != labels || name.Tail(n, labels) != up || !strings.HasSuffix(n, up) {
				t.Fatalf("%q: with %d labels %q, %v", n, labels, up, ok)
			}
			up, ok = name.Parent(up)
		}
		if ok {
			t.Errorf("%q: the root has the parent %q", n, up)
		}
	}
}

// Bytes of every make: no call panics, and what is no name is nothing everywhere.
func TestAnyBytes(t *testing.T) {
	r := rand.New(rand.NewPCG(5, 6))
	for range 20000 {
		b := make([]byte, r.IntN(9))
		for i := range b {
			b[i] = "\x00\x01\x02\x03\x3f\x40aA\xff"[r.IntN(9)]
		}
		n := string(b)
		at := 0
		for at < len(n) && n[at] > 0 && n[at] < 64 {
			at += 1 + int(n[at])
		}
		can := at == len(n)-1 && n[at] == 0
		if name.Can(n) != can || (name.Text(n) != "") != can || (name.Lower(n) != "") != can || (name.Tail(n, 1) != "") != can {
			t.Errorf("%q: Can %v", n, name.Can(n))
		}
		if name.Same(n, n) != can || name.Within(n, "\x00") != can || (name.Compare(n, join("zz")) != 0) != can {
			t.Errorf("%q: Same %v", n, name.Same(n, n))
		}
	}
}
