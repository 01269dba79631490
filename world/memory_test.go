package world_test

import (
	"fmt"
	"slices"
	"strings"
	"testing"
	"unsafe"

	"cicerone/api"
	"cicerone/world"
)

// turn changes a text's bytes, which nobody but a test does. Texts of one byte are the language's own, and can't be changed.
func turn(s string) {
	if len(s) < 2 {
		return
	}
	b := unsafe.Slice(unsafe.StringData(s), len(s))
	for i := range b {
		b[i] ^= 0x15
	}
}

// spoil changes each byte of a list, and of the room behind it.
func spoil(b []byte) {
	b = b[:cap(b)]
	for i := range b {
		b[i] ^= 0x15
	}
}

// spoilRecords changes all of a list of records, and the room behind it.
func spoilRecords(l []api.RR) {
	for _, r := range l {
		turn(r.Name)
		spoil(r.Data)
	}
	clear(l[:cap(l)])
}

// roomy is the tree with room behind each of its lists, all of it its own.
func roomy() api.Tree {
	x := tree()
	x.Zones, x.Servers = slices.Grow(x.Zones, 3), slices.Grow(x.Servers, 3)
	for i := range x.Zones {
		z := &x.Zones[i]
		z.Origin, z.RRs = strings.Clone(z.Origin), slices.Grow(z.RRs, 3)
		for j := range z.RRs {
			z.RRs[j].Name, z.RRs[j].Data = strings.Clone(z.RRs[j].Name), append(z.RRs[j].Data, "room"...)[:len(z.RRs[j].Data)]
		}
	}
	for i := range x.Servers {
		x.Servers[i].Zones = slices.Grow(x.Servers[i].Zones, 3)
	}
	return x
}

// rooms is all of a tree, the room behind its lists included.
func rooms(x api.Tree) string {
	s := fmt.Sprint(x.Zones[:cap(x.Zones)], x.Servers[:cap(x.Servers)])
	for _, z := range x.Zones {
		s += fmt.Sprint(z.RRs[:cap(z.RRs)])
		for _, r := range z.RRs {
			s += fmt.Sprintf("%q", r.Data[:cap(r.Data)])
		}
	}
	for _, server := range x.Servers {
		s += fmt.Sprint(server.Zones[:cap(server.Zones)])
	}
	return s
}

// asked is steps that ask for much of the tree.
func asked() []api.Step {
	return []api.Step{
		open(1), come(1, framed(query(1, of("out.com.", textType)), query(2, of("www.sub.com.", textType)), query(3, of("lost.com.", 1)))), step(api.StepSettle, 9),
		crash, start, open(2), come(1, posted(query(1, of("long.net.", textType)), query(2, of("x.net.", 1)))), step(api.StepSettle, 9),
	}
}

// Memory: the tree is neither changed nor kept, its hints neither.
func TestTreeMemory(t *testing.T) {
	x := roomy()
	was := rooms(x)
	w, e := world.New(x, room, most)
	if e != api.OK {
		t.Fatal(e)
	}
	v := made(t, tree())
	for i, s := range asked() {
		if i == 3 {
			if now := rooms(x); now != was {
				t.Errorf("the tree has become %s, not %s", now, was)
			}
			for _, z := range x.Zones {
				turn(z.Origin)
				spoilRecords(z.RRs)
			}
			for _, server := range x.Servers {
				clear(server.Zones[:cap(server.Zones)])
			}
			clear(x.Zones[:cap(x.Zones)])
			clear(x.Servers[:cap(x.Servers)])
		}
		does(t, v, s)
		does(t, w, s)
		if a, b := all(w), all(v); a != b {
			t.Fatalf("with the tree the world has become %s, not %s", a, b)
		}
	}
}

// Memory: what a step has is neither changed nor kept, the room behind its lists included.
func TestStepMemory(t *testing.T) {
	v, w := made(t, tree()), made(t, tree())
	l := append([]api.Step{draws(1, 65537, 2, 3)}, asked()...)
	l = append(l, come(1, framed(query(7, of("a.com.", textType)))[:5]), draws(4, 5), push(1, answered(0, of("x.", 1))), api.Step{Kind: api.StepCrash, Tails: []api.Tail{{Name: "s00000001", Keep: 3}}}, start)
	for _, s := range l {
		e := v.Do(s)
		handed := api.Step{Kind: s.Kind, N: s.N, Bytes: append(slices.Clone(s.Bytes), "room"...)[:len(s.Bytes)], Draws: append(slices.Clone(s.Draws), 7, 8)[:len(s.Draws)]}
		for _, tail := range append(s.Tails, api.Tail{Name: "room"}) {
			tail.Name = strings.Clone(tail.Name)
			handed.Tails = append(handed.Tails, tail)
		}
		handed.Tails = handed.Tails[:len(s.Tails)]
		tell := func() string {
			return fmt.Sprintf("%q %v %v", handed.Bytes[:cap(handed.Bytes)], handed.Draws[:cap(handed.Draws)], handed.Tails[:cap(handed.Tails)])
		}
		was := tell()
		if got := w.Do(handed); got != e || tell() != was {
			t.Fatalf("Do is %d, not %d, and the step has become %s, not %s", got, e, tell(), was)
		}
		spoil(handed.Bytes)
		clear(handed.Draws[:cap(handed.Draws)])
		for _, tail := range handed.Tails {
			turn(tail.Name)
		}
		if a, b := all(w), all(v); a != b {
			t.Fatalf("with a step the world has become %s, not %s", a, b)
		}
	}
}

// Memory: what a world tells is its own alone: nothing that is told later changes with it.
func TestToldMemory(t *testing.T) {
	w := made(t, tree())
	does(t, w, asked()...)
	was := all(w)
	for range 2 {
		journal, accepts, conns, out := w.Journal(), w.Accepts(), w.Conns(), w.Out(1)
		if len(journal) < 8 || len(accepts) < 8 || len(conns) < 2 {
			t.Fatalf("%d lines, %d accepts, %d connections", len(journal), len(accepts), len(conns))
		}
		for i, e := range journal {
			rest := fmt.Sprint(journal[i+1:])
			for _, q := range e.Message.Questions {
				turn(q.Name)
			}
			clear(e.Message.Questions[:cap(e.Message.Questions)])
			spoilRecords(e.Message.Answers)
			spoilRecords(e.Message.Authority)
			if now := fmt.Sprint(journal[i+1:]); now != rest {
				t.Errorf("with line %d the others have become %s, not %s", i, now, rest)
			}
		}
		for i, a := range accepts {
			rest := fmt.Sprint(accepts[i+1:])
			turn(a.Zone)
			turn(a.Set.Name)
			turn(a.Set.Zone)
			for _, data := range a.Set.Datas {
				spoil(data)
			}
			clear(a.Set.Datas[:cap(a.Set.Datas)])
			if now := fmt.Sprint(accepts[i+1:]); now != rest {
				t.Errorf("with accept %d the others have become %s, not %s", i, now, rest)
			}
		}
		clear(journal[:cap(journal)])
		clear(accepts[:cap(accepts)])
		clear(conns[:cap(conns)])
		spoil(out)
		if now := all(w); now != was {
			t.Errorf("with what it tells the world has become %s, not %s", now, was)
		}
	}
}

// Store and Disk are the things themselves.
func TestThemselves(t *testing.T) {
	w := made(t, single(1))
	x, d := w.Store(), w.Disk()
	q := of(numbered(0), textType)
	s := api.Set{Name: q.Name, Type: q.Type, Class: 1, Rank: api.RankAnswer, Expires: 50, Datas: [][]byte{[]byte("put")}}
	if e := x.Put(s, 0); e != api.OK || !has(w, s) {
		t.Error(e, w.Store().Sets())
	}
	does(t, w, open(1), come(1, framed(query(1, q))))
	if l := replies(t, w, 1); len(l) != 1 || string(l[0].Answers[0].Data) != "put" {
		t.Errorf("the replies are %v", l)
	}
	if w.Store() != x || w.Disk() != d {
		t.Error("there are several stores, or disks")
	}
	if n := d.Used(); n <= 48 || d.Remove("s00000001") != api.OK {
		t.Errorf("the disk has %d bytes", n)
	}
	does(t, w, crash, start)
	if w.Store() == x || w.Disk() != d || len(w.Store().Sets()) != 0 {
		t.Errorf("behind a crash the store has %v", w.Store().Sets())
	}
}
