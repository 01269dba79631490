package look_test

import (
	"slices"
	"strings"
	"testing"
	"unsafe"

	"cicerone/api"
	"cicerone/entry"
	"cicerone/look"
	"cicerone/store"
)

// turn changes a text's bytes, which nobody but a test does. Texts of one byte are the language's own, and can't be changed.
func turn(s string) {
	if len(s) < 2 {
		return
	}
	b := unsafe.Slice(unsafe.StringData(s), len(s))
	for i := range b {
		b[i] ^= 0x15
	}
}

// spoil changes all of a set, the room behind its lists included.
func spoil(s api.Set) {
	turn(s.Name)
	turn(s.Zone)
	for _, data := range s.Datas {
		for i := range data[:cap(data)] {
			data[:cap(data)][i] ^= 0x15
		}
	}
	clear(s.Datas[:cap(s.Datas)])
}

// held is a store that has something of all kinds.
func held(t *testing.T) *store.Store {
	t.Helper()
	return stored(t, cname("a.", "b."), cname("b.", "c.", "d."), text("c.", "x"), nothing("n."), cname("m.", "n."), cname("l.", "e."), none("o.", textType), ns("a.", "a.", "b.a."), host("a.", "1234", "5678"))
}

// same asks that a store's sets are as they were.
func same(t *testing.T, s *store.Store, was []api.Set) {
	t.Helper()
	if got := s.Sets(); !slices.EqualFunc(got, was, entry.Same) {
		t.Errorf("the store has become %v", got)
	}
}

// Memory: what Find answers shares nothing with the store, another answer, another set of itself, or the question.
func TestFindMemory(t *testing.T) {
	s := held(t)
	was := s.Sets()
	for _, n := range []string{"a.", "b.", "c.", "l.", "m.", "n.", "o.", "z."} {
		q := asked(n, textType)
		want := look.Find(held(t), q, 0)
		q.Name = strings.Clone(q.Name)
		got, other := look.Find(s, q, 0), look.Find(s, q, 0)
		turn(q.Name)
		if !sameFound(got, want) {
			t.Errorf("with the question what was found has become %s, not %s", told(got), told(want))
		}
		for i, x := range got.Chain {
			if rest := (api.Found{Kind: got.Kind, Chain: got.Chain[i:], Last: got.Last, Need: got.Need}); !sameFound(rest, api.Found{Kind: want.Kind, Chain: want.Chain[i:], Last: want.Last, Need: want.Need}) {
				t.Errorf("with a part of what was found another one has become %s", told(rest))
			}
			spoil(x)
		}
		if !entry.Same(got.Last, want.Last) || got.Need != want.Need {
			t.Errorf("with the chain the rest has become %s", told(got))
		}
		spoil(got.Last)
		turn(got.Need.Name)
		clear(got.Chain[:cap(got.Chain)])
		if !sameFound(other, want) {
			t.Errorf("with an answer another one has become %s", told(other))
		}
		same(t, s, was)
	}
}

// Memory: likewise of Near and Addrs.
func TestNearMemory(t *testing.T) {
	s := held(t)
	was := s.Sets()
	n := strings.Clone(named("a."))
	p, _ := look.Near(s, n, 0)
	other, _ := look.Near(s, n, 0)
	turn(n)
	if p.Zone != named("a.") {
		t.Errorf("with the name the zone has become %q", p.Zone)
	}
	turn(p.Zone)
	for i, server := range p.Names {
		turn(server)
		if i == 0 && p.Names[1] != named("b.a.") {
			t.Errorf("with one server another one has become %q", p.Names[1])
		}
	}
	clear(p.Names[:cap(p.Names)])
	if other.Zone != named("a.") || !slices.Equal(other.Names, names([]string{"a.", "b.a."})) {
		t.Errorf("with an answer another one has become %q", other)
	}
	l := look.Addrs(s, named("a."), 0)
	clear(l[:cap(l)])
	leads(t, s, named("a."), 0, 825373492, 892745528)
	same(t, s, was)
}

// Nothing that look is asked changes a store.
func TestNothingChanges(t *testing.T) {
	s := held(t)
	was, bytes := s.Sets(), s.Bytes()
	for _, x := range was {
		for _, now := range []int{0, far - 1, far, far * far} {
			look.Find(s, api.Question{Name: x.Name, Type: max(1, x.Type), Class: x.Class}, now)
			look.Near(s, x.Name, now)
			look.Addrs(s, x.Name, now)
		}
	}
	same(t, s, was)
	if s.Bytes() != bytes || s.Memory() {
		t.Errorf("the store has %d bytes, and had %d", s.Bytes(), bytes)
	}
}
