package zone_test

import (
	"slices"
	"strings"
	"testing"
	"unsafe"

	"cicerone/api"
	"cicerone/wire"
	"cicerone/zone"
)

// roomy is records with room behind their list and data, of which each record has its own.
func roomy(l []api.RR) []api.RR {
	out := make([]api.RR, 0, len(l)+3)
	for _, r := range l {
		r.Data = append(make([]byte, 0, len(r.Data)+5), r.Data...)
		r.Name = strings.Clone(r.Name)
		out = append(out, r)
	}
	return out
}

// roomyTree is a tree of lists with room behind their ends.
func roomyTree() api.Tree {
	x := tree()
	for i, z := range x.Zones {
		x.Zones[i].RRs = roomy(z.RRs)
		x.Zones[i].Origin = strings.Clone(z.Origin)
	}
	x.Zones = slices.Grow(x.Zones, 3)
	x.Servers = slices.Grow(x.Servers, 3)
	return x
}

// turn changes a text's bytes, which nobody but a test does.
func turn(s string) {
	b := unsafe.Slice(unsafe.StringData(s), len(s))
	for i := range b {
		b[i] ^= 0x15
	}
}

// spoil changes all of a list of records, and the room behind it.
func spoil(l []api.RR) {
	for i, r := range l {
		turn(r.Name)
		for j := range r.Data[:cap(r.Data)] {
			r.Data[:cap(r.Data)][j] ^= 0x15
		}
		l[i].TTL++
	}
	clear(l[len(l):cap(l)])
	_ = append(l, api.RR{Name: "over the end"})
}

// sameTree asks that a tree is as it was.
func sameTree(t *testing.T, x, was api.Tree) {
	t.Helper()
	for i, z := range was.Zones {
		if x.Zones[i].Origin != z.Origin || !sameRecords(x.Zones[i].RRs, z.RRs) {
			t.Errorf("zone %d has become %v", i, x.Zones[i])
		}
	}
	for i, s := range was.Servers {
		if x.Servers[i].Addr != s.Addr || !slices.Equal(x.Servers[i].Zones, s.Zones) {
			t.Errorf("server %d has become %v", i, x.Servers[i])
		}
	}
	for _, z := range x.Zones {
		for _, r := range z.RRs[len(z.RRs):cap(z.RRs)] {
			if r.Name != "" || r.Data != nil {
				t.Errorf("behind a zone's records stands %v", r)
			}
		}
	}
	if len(x.Zones) != len(was.Zones) || len(x.Servers) != len(was.Servers) {
		t.Errorf("the tree has become %v", x)
	}
}

// Memory: an answer that is changed changes neither the tree, nor a query, nor another answer, nor another list of itself.
func TestServeMemory(t *testing.T) {
	queries := []api.Message{
		asked("www.sub.com.", 1), asked("one.com.", 1), asked("lost.com.", 1), asked("www.com.", 1), asked("www.com.", 15), asked("com.", 2), asked("not.com.", 1),
	}
	for _, m := range queries {
		x := roomyTree()
		m.Questions = append(make([]api.Question, 0, 4), m.Questions...)
		want, _ := zone.Serve(tree(), atCom, m)
		a, _ := zone.Serve(x, atCom, m)
		b, ok := zone.Serve(x, atCom, m)
		if !ok || !wire.Same(a, want) {
			t.Fatalf("Serve(%v) is %v", m, a)
		}
		for i, l := range [][]api.RR{a.Answers, a.Authority, a.Additional} {
			// List by list: the ones that are not yet changed are as they were.
			rest := [][]api.RR{want.Answers, want.Authority, want.Additional}
			for j, other := range [][]api.RR{a.Answers, a.Authority, a.Additional} {
				if j >= i && !sameRecords(other, rest[j]) {
					t.Errorf("with another list list %d has become %v", j, other)
				}
			}
			spoil(l)
		}
		turn(a.Questions[0].Name)
		clear(a.Questions[:cap(a.Questions)])
		if !wire.Same(b, want) || m.Questions[0] != want.Questions[0] {
			t.Errorf("with an answer to %v another one has become %v", m, b)
		}
		sameTree(t, x, tree())
		for i := range x.Zones {
			spoil(x.Zones[i].RRs)
		}
		if !wire.Same(b, want) {
			t.Errorf("with the tree an answer to %v has become %v", m, b)
		}
	}
}

// Memory: a query's name is not the answer's.
func TestServeName(t *testing.T) {
	m := asked("www.com.", 1)
	m.Questions[0].Name = strings.Clone(m.Questions[0].Name)
	a, _ := zone.Serve(tree(), atCom, m)
	turn(m.Questions[0].Name)
	m.Questions[0].Type = 99
	if a.Questions[0] != question("www.com.", 1) {
		t.Errorf("with a query its answer has become %v", a)
	}
}

// Memory: in a circle the same record stands several times, each time anew.
func TestCircleMemory(t *testing.T) {
	x := lone(roomy([]api.RR{cname("self.", "self.")})...)
	a, ok := zone.Serve(x, 0, asked("self.", 1))
	if !ok || len(a.Answers) != api.MaxChain {
		t.Fatalf("Serve is %v, %t", a, ok)
	}
	for i := range a.Answers {
		spoil(a.Answers[i : i+1 : i+1])
		for _, r := range a.Answers[i+1:] {
			if !sameRecords([]api.RR{r}, []api.RR{cname("self.", "self.")}) {
				t.Fatalf("with record %d another one has become %v", i, r)
			}
		}
	}
	if !sameRecords(x.Zones[0].RRs[2:], []api.RR{cname("self.", "self.")}) {
		t.Errorf("the tree has become %v", x)
	}
}

// Memory: what Truth and Hints answer shares nothing with the tree, or with another answer.
func TestTruthMemory(t *testing.T) {
	x := roomyTree()
	for _, q := range []api.Question{question("one.com.", 1), question("www.com.", 1), question("in.net.", 15), question("down.com.", 1)} {
		want, _ := zone.Truth(tree(), q)
		a, _ := zone.Truth(x, q)
		b, ok := zone.Truth(x, q)
		if !ok || !sameRecords(a.Answers, want.Answers) {
			t.Fatalf("Truth(%v) is %v", q, a)
		}
		spoil(a.Answers)
		if !sameRecords(b.Answers, want.Answers) {
			t.Errorf("with an answer another one has become %v", b)
		}
		sameTree(t, x, tree())
	}
	want := zone.Hints(tree())
	a, b := zone.Hints(x), zone.Hints(x)
	spoil(a)
	sameTree(t, x, tree())
	for i := range x.Zones {
		spoil(x.Zones[i].RRs)
	}
	if len(want) != 2 || !sameRecords(b, want) {
		t.Errorf("with the tree Hints has become %v", b)
	}
}

// Memory: no call changes the tree, or the room behind its lists.
func TestTreeMemory(t *testing.T) {
	x := roomyTree()
	zone.Can(x)
	zone.Hints(x)
	for _, owner := range []string{".", "com.", "one.com.", "www.sub.com.", "not.", "to."} {
		for _, kind := range []int{1, 2, 5, 6, 99} {
			zone.Truth(x, question(owner, kind))
			for addr := range 8 {
				zone.Serve(x, addr, asked(owner, kind))
			}
		}
	}
	sameTree(t, x, tree())
}
