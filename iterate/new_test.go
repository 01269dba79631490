package iterate_test

import (
	"math"
	"slices"
	"testing"

	"cicerone/api"
	"cicerone/iterate"
	"cicerone/rate"
)

// P20.1: questions that can be worked on: any name, type and letters.
func TestNew(t *testing.T) {
	for _, n := range []string{".", "a.", "Www.eXample.", "\\000.\\255."} {
		for _, kind := range []int{1, 2, 5, 6, 41, 255, textType, 65534, 65535} {
			w := begun(t, asked(n, kind), nil)
			w.lost(api.ErrArg)
			w.fails()
			w.is(asked(n, kind))
		}
	}
}

// P20.1: what can't be worked on.
func TestNewWrong(t *testing.T) {
	var l []api.Question
	for _, n := range noNames {
		l = append(l, api.Question{Name: n, Type: 1, Class: 1})
	}
	for _, kind := range []int{0, -1, 65536, 65537, 1<<32 + 1, math.MinInt, math.MaxInt} {
		l = append(l, asked("a.", kind))
	}
	for _, class := range []int{0, 2, 3, 255, -1, 65535, 65537, 1<<32 + 1, math.MinInt, math.MaxInt} {
		l = append(l, api.Question{Name: named("a."), Type: 1, Class: class})
	}
	for _, q := range append(l, api.Question{}) {
		for _, hints := range [][]api.RR{nil, hinted(1, 2)} {
			if k, e := iterate.New(q, hints); k != nil || e != api.ErrArg {
				t.Errorf("New(%v) is %v, %d", q, k, e)
			}
		}
	}
}

// hintsAre asks which addresses the hints come to, in which order: each draw tells one of them.
func hintsAre(t *testing.T, hints []api.RR, want ...int) {
	t.Helper()
	for draw := range 2*len(want) + 2 {
		w := begun(t, asked("a.", 1), hints)
		if len(want) == 0 {
			w.fails()
			continue
		}
		w.draws(draw, want[draw%len(want)], ".", asked("a.", 1))
	}
}

// P20.1: the addresses of the hints of TypeA, in order; one that stands there twice counts twice.
func TestHints(t *testing.T) {
	hintsAre(t, nil)
	hintsAre(t, []api.RR{})
	hintsAre(t, make([]api.RR, 3))
	hintsAre(t, hinted(5), 5)
	hintsAre(t, hinted(9, 1, 200, 0, 7), 9, 1, 200, 0, 7)
	hintsAre(t, hinted(5, 5), 5, 5)
	hintsAre(t, hinted(7, 5, 7, 7), 7, 5, 7, 7)
	hintsAre(t, []api.RR{record(".", 1, "\x01\x02\x03\x04"), record(".", 1, "\xff\xff\xff\xff"), record(".", 1, "\x80\x00\x00\x00")}, 16909060, 4294967295, 2147483648)
}

// P20.1: hints of other types, or without four bytes, are none; all else of a hint plays no part.
func TestHintsOthers(t *testing.T) {
	others := []api.RR{
		record("a.", 1, ""), record("a.", 1, "1"), record("a.", 1, "123"), record("a.", 1, "12345"), record("a.", 1, "12345678"),
		record("a.", textType, "1234"), record("a.", api.TypeAAAA, "0123456789abcdef"), record("a.", api.TypeNS, "\x02ab\x00"), record("a.", 0, "1234"), record("a.", 65537, "1234"), record("a.", -1, "1234"),
		{Name: named("a."), Type: 1, Class: 1},
	}
	hintsAre(t, others)
	hintsAre(t, slices.Concat(others[:4], hinted(5), others[4:], hinted(6)), 5, 6)
	hintsAre(t, []api.RR{classed(3, host("a.", 1)), classed(-1, host("a.", 2)), lasting(0, host("a.", 3)), lasting(-5, host("a.", 4)), {Type: 1, Data: []byte{0, 0, 0, 5}}, {Name: "no name", Type: 1, Data: []byte{0, 0, 0, 6}}}, 1, 2, 3, 4, 5, 6)
}

// A task that no call made has nothing, and nothing is done for it.
func TestNoTask(t *testing.T) {
	for _, k := range []*iterate.Task{nil, {}} {
		s, r := stored(t, 1<<40, data("a.", "x")), rate.New()
		for range 2 {
			if w := k.Next(s, r, 0, 0); !sameWant(w, api.Want{}) {
				t.Errorf("Next is %v", w)
			}
			if l := k.Hear(s, answer(text("a.", "y")), 0); len(l) != 0 {
				t.Errorf("Hear is %v", l)
			}
			if e := k.Lost(); e != api.ErrNil {
				t.Errorf("Lost is %d", e)
			}
			if q := k.Question(); k.Work() != 0 || q != (api.Question{}) {
				t.Errorf("Work is %d, Question %v", k.Work(), q)
			}
			k.Next(nil, nil, 0, 0)
			k.Hear(nil, api.Message{}, 0)
		}
		if len(s.Sets()) != 1 {
			t.Errorf("the store has %v", s.Sets())
		}
	}
}
