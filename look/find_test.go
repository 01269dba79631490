package look_test

import (
	"fmt"
	"math"
	"testing"

	"cicerone/api"
)

// P19.1: what the store has of the question's type: data, none, and that there is no such name, which counts for all types.
func TestFindLast(t *testing.T) {
	s := stored(t, text("a.", "x"), none("b.", textType), nothing("c."), host("a.", "1234"), none("a.", api.TypeMX))
	for _, now := range times {
		finds(t, s, asked("a.", textType), now, ends(api.FoundData, text("a.", "x")))
		finds(t, s, asked("a.", api.TypeA), now, ends(api.FoundData, host("a.", "1234")))
		finds(t, s, asked("a.", api.TypeMX), now, ends(api.FoundNone, none("a.", api.TypeMX)))
		finds(t, s, asked("a.", api.TypeAAAA), now, needs(asked("a.", api.TypeAAAA)))
		finds(t, s, asked("b.", textType), now, ends(api.FoundNone, none("b.", textType)))
		finds(t, s, asked("b.", textType+1), now, needs(asked("b.", textType+1)))
		for _, kind := range []int{1, textType, api.TypeCNAME, 65535} {
			finds(t, s, asked("c.", kind), now, ends(api.FoundNothing, nothing("c.")))
		}
		finds(t, s, asked("x.c.", textType), now, needs(asked("x.c.", textType)))
		finds(t, s, asked(".", textType), now, needs(asked(".", textType)))
	}
}

// P19.1: a name that is none, and types that are none, whatever the store has; the type is looked at also where the name is one.
func TestFindWrong(t *testing.T) {
	full := stored(t, text("a.", "x"), nothing("b."), cname("c.", "a."), text(".", "x"))
	for _, s := range append(unmade(), full, stored(t)) {
		for _, n := range noNames {
			for _, kind := range []int{1, 65535, 0} {
				finds(t, s, api.Question{Name: n, Type: kind, Class: 1}, 0, loop)
			}
		}
		for _, n := range []string{"a.", "b.", "c.", ".", "d."} {
			for _, kind := range []int{0, -1, 65536, 65537, textType + 65536, math.MinInt, math.MaxInt, 1<<32 + 1} {
				finds(t, s, asked(n, kind), 0, loop)
			}
		}
	}
}

// P19.1: the least type and the greatest one can be asked.
func TestFindTypes(t *testing.T) {
	s := stored(t, set("a.", 65535, "x"), host("a.", "1234"), none("b.", 65535), none("b.", 1))
	for _, kind := range []int{1, 65535, 2, 255, 65534} {
		finds(t, s, asked("c.", kind), 0, needs(asked("c.", kind)))
	}
	finds(t, s, asked("a.", 65535), 0, ends(api.FoundData, set("a.", 65535, "x")))
	finds(t, s, asked("a.", 1), 0, ends(api.FoundData, host("a.", "1234")))
	finds(t, s, asked("b.", 65535), 0, ends(api.FoundNone, none("b.", 65535)))
	finds(t, s, asked("b.", 1), 0, ends(api.FoundNone, none("b.", 1)))
}

// P19.1: any class can be asked, and is needed as it was; sets of other classes, aliases too, play no part.
func TestFindClasses(t *testing.T) {
	s := stored(t, text("a.", "x"), classed(3, text("a.", "y")), classed(3, cname("b.", "c.")), cname("b.", "d."), classed(3, nothing("e.")), classed(0, text("a.", "z")), classed(65535, none("a.", textType)))
	in := func(class int, n string) api.Question {
		return api.Question{Name: named(n), Type: textType, Class: class}
	}
	finds(t, s, in(1, "a."), 0, ends(api.FoundData, text("a.", "x")))
	finds(t, s, in(3, "a."), 0, ends(api.FoundData, classed(3, text("a.", "y"))))
	finds(t, s, in(0, "a."), 0, ends(api.FoundData, classed(0, text("a.", "z"))))
	finds(t, s, in(65535, "a."), 0, ends(api.FoundNone, classed(65535, none("a.", textType))))
	finds(t, s, in(3, "b."), 0, needs(in(3, "c."), classed(3, cname("b.", "c."))))
	finds(t, s, in(1, "b."), 0, needs(in(1, "d."), cname("b.", "d.")))
	finds(t, s, in(3, "e."), 0, ends(api.FoundNothing, classed(3, nothing("e."))))
	finds(t, s, in(1, "e."), 0, needs(in(1, "e.")))
	for _, class := range []int{2, 4, 254, -1, 65536, 65537, 1 << 32, math.MinInt, math.MaxInt} {
		for _, n := range []string{"a.", "b.", "e.", "."} {
			finds(t, s, in(class, n), 0, needs(in(class, n)))
		}
	}
}

// P19.1: names are the same whatever their letters; what is needed has those that led there.
func TestFindLetters(t *testing.T) {
	s := stored(t, text("Www.Example.", "x"), cname("eXa.example.", "wwW.exAmple."), cname("far.Example.", "Not.exAmple."), nothing("LOST."))
	finds(t, s, asked("wWW.eXAMPLE.", textType), 0, ends(api.FoundData, text("Www.Example.", "x")))
	finds(t, s, asked("EXA.EXAMPLE.", textType), 0, ends(api.FoundData, text("Www.Example.", "x"), cname("eXa.example.", "wwW.exAmple.")))
	finds(t, s, asked("FAR.example.", textType), 0, needs(asked("Not.exAmple.", textType), cname("far.Example.", "Not.exAmple.")))
	finds(t, s, asked("OtheR.", textType), 0, needs(asked("OtheR.", textType)))
	finds(t, s, asked("lost.", textType), 0, ends(api.FoundNothing, nothing("LOST.")))
}

// P19.1: sets of lesser ranks are no answers, whatever their kind.
func TestFindRanks(t *testing.T) {
	for _, rank := range []int{api.RankGlue, api.RankRefer} {
		for _, x := range []api.Set{text("a.", "x"), none("a.", textType), nothing("a.")} {
			finds(t, stored(t, ranked(rank, x)), asked("a.", textType), 0, needs(asked("a.", textType)))
			// An alias is followed, since that set is passed by.
			s := stored(t, cname("a.", "b."), ranked(rank, x))
			finds(t, s, asked("a.", textType), 0, needs(asked("b.", textType), cname("a.", "b.")))
			// At the end of a chain it is none either.
			s = stored(t, cname("b.", "a."), ranked(rank, x))
			finds(t, s, asked("b.", textType), 0, needs(asked("a.", textType), cname("b.", "a.")))
		}
		// Nor does an alias of such a rank lead on.
		s := stored(t, ranked(rank, cname("a.", "b.")), text("b.", "x"))
		finds(t, s, asked("a.", textType), 0, needs(asked("a.", textType)))
		finds(t, s, asked("a.", api.TypeCNAME), 0, needs(asked("a.", api.TypeCNAME)))
	}
}

// P19.1: a set of the type hides what would count for it if it were not there, be its rank as it may.
func TestFindHidden(t *testing.T) {
	s := stored(t, ranked(api.RankGlue, text("a.", "x")), nothing("a."))
	finds(t, s, asked("a.", textType), 0, needs(asked("a.", textType)))
	finds(t, s, asked("a.", textType+1), 0, ends(api.FoundNothing, nothing("a.")))
	s = stored(t, ranked(api.RankGlue, cname("a.", "b.")), nothing("a."))
	finds(t, s, asked("a.", api.TypeCNAME), 0, needs(asked("a.", api.TypeCNAME)))
	finds(t, s, asked("a.", textType), 0, ends(api.FoundNothing, nothing("a.")))
}

// P19.1: a set of the type comes ahead of an alias.
func TestFindBoth(t *testing.T) {
	for kind, x := range map[int]api.Set{api.FoundData: text("a.", "x"), api.FoundNone: none("a.", textType), api.FoundNothing: nothing("a.")} {
		s := stored(t, cname("a.", "b."), text("b.", "y"), x)
		finds(t, s, asked("a.", textType), 0, ends(kind, x))
		finds(t, s, asked("b.", textType), 0, ends(api.FoundData, text("b.", "y")))
	}
}

// P19.1: where TypeCNAME is asked, an alias is the answer, and is not followed.
func TestFindCNAME(t *testing.T) {
	s := stored(t, cname("a.", "b."), cname("b.", "c."), none("d.", api.TypeCNAME), nothing("e."), cname("f.", "f."), text("c.", "x"))
	finds(t, s, asked("a.", api.TypeCNAME), 0, ends(api.FoundData, cname("a.", "b.")))
	finds(t, s, asked("b.", api.TypeCNAME), 0, ends(api.FoundData, cname("b.", "c.")))
	finds(t, s, asked("f.", api.TypeCNAME), 0, ends(api.FoundData, cname("f.", "f.")))
	finds(t, s, asked("c.", api.TypeCNAME), 0, needs(asked("c.", api.TypeCNAME)))
	finds(t, s, asked("d.", api.TypeCNAME), 0, ends(api.FoundNone, none("d.", api.TypeCNAME)))
	finds(t, s, asked("e.", api.TypeCNAME), 0, ends(api.FoundNothing, nothing("e.")))
}

// P19.1: that there is no alias leads nowhere, and answers no other type.
func TestFindNoAlias(t *testing.T) {
	s := stored(t, none("a.", api.TypeCNAME), cname("b.", "a."))
	finds(t, s, asked("a.", textType), 0, needs(asked("a.", textType)))
	finds(t, s, asked("b.", textType), 0, needs(asked("a.", textType), cname("b.", "a.")))
}

// link is the name of a number in a chain, aliases those that lead from 1 to the one behind the last.
func link(i int) string { return fmt.Sprintf("l%d.", i) }

func aliases(many int) []api.Set {
	var l []api.Set
	for i := range many {
		l = append(l, cname(link(i+1), link(i+2)))
	}
	return l
}

// P19.1: chains of all lengths up to MaxChain lead to whatever is there, longer ones to nothing.
func TestFindChains(t *testing.T) {
	for many := range api.MaxChain + 4 {
		chain, end := aliases(many), link(many+1)
		wants := []api.Found{
			ends(api.FoundData, text(end, "x"), chain...),
			ends(api.FoundNone, none(end, textType), chain...),
			ends(api.FoundNothing, nothing(end), chain...),
			needs(asked(end, textType), chain...),
		}
		for _, want := range wants {
			s := stored(t, chain...)
			if want.Kind != api.FoundNeed {
				s = stored(t, append(chain[:many:many], want.Last)...)
			}
			if many > api.MaxChain {
				want = loop
			}
			finds(t, s, asked("l1.", textType), 0, want)
		}
	}
}

// P19.1: a chain of MaxChain sets behind which one more alias stands; from its second name on it is short enough.
func TestFindLongChain(t *testing.T) {
	chain := aliases(api.MaxChain + 1)
	s := stored(t, append(chain, text(link(api.MaxChain+2), "x"))...)
	finds(t, s, asked("l1.", textType), 0, loop)
	finds(t, s, asked("l2.", textType), 0, ends(api.FoundData, text(link(api.MaxChain+2), "x"), chain[1:]...))
	finds(t, s, asked("l1.", api.TypeCNAME), 0, ends(api.FoundData, chain[0]))
}

// P19.1: aliases in a circle, of all lengths around MaxChain, and behind others.
func TestFindCircles(t *testing.T) {
	for many := 1; many < api.MaxChain+3; many++ {
		l := aliases(many)
		l[many-1] = cname(link(many), "L1.")
		s := stored(t, append(l, cname("in.", "l1."))...)
		for i := range many {
			finds(t, s, asked(link(i+1), textType), 0, loop)
		}
		finds(t, s, asked("in.", textType), 0, loop)
	}
}

// P19.1: of an alias with several data the first one leads on, as they stand in the set.
func TestFindFirst(t *testing.T) {
	s := stored(t, cname("a.", "z.", "b.", "c."), cname("b.", "c.", "z."), text("c.", "x"))
	finds(t, s, asked("a.", textType), 0, needs(asked("z.", textType), cname("a.", "z.", "b.", "c.")))
	finds(t, s, asked("b.", textType), 0, ends(api.FoundData, text("c.", "x"), cname("b.", "c.", "z.")))
}

// P19.1: an alias to the root.
func TestFindRoot(t *testing.T) {
	s := stored(t, cname("a.", "."), text(".", "x"), cname("b.", "b.b."))
	finds(t, s, asked("a.", textType), 0, ends(api.FoundData, text(".", "x"), cname("a.", ".")))
	finds(t, s, asked("a.", 1), 0, needs(asked(".", 1), cname("a.", ".")))
	finds(t, s, asked("b.", 1), 0, needs(asked("b.b.", 1), cname("b.", "b.b.")))
}

// P19.1: what is not fresh any more counts no more; an alias neither.
func TestFindFresh(t *testing.T) {
	s := stored(t, until(10, cname("a.", "b.")), until(20, text("b.", "x")), until(5, none("c.", textType)), until(7, nothing("d.")))
	early := ends(api.FoundData, until(20, text("b.", "x")), until(10, cname("a.", "b.")))
	for now, want := range map[int]api.Found{
		0: early, 9: early, -1: early, math.MinInt: early,
		10: needs(asked("a.", textType)), 20: needs(asked("a.", textType)), math.MaxInt: needs(asked("a.", textType)),
	} {
		finds(t, s, asked("a.", textType), now, want)
	}
	finds(t, s, asked("b.", textType), 19, ends(api.FoundData, until(20, text("b.", "x"))))
	finds(t, s, asked("b.", textType), 20, needs(asked("b.", textType)))
	finds(t, s, asked("c.", textType), 4, ends(api.FoundNone, until(5, none("c.", textType))))
	finds(t, s, asked("c.", textType), 5, needs(asked("c.", textType)))
	finds(t, s, asked("d.", textType), 6, ends(api.FoundNothing, until(7, nothing("d."))))
	finds(t, s, asked("d.", textType), 7, needs(asked("d.", textType)))
	// The end of a chain alone.
	s = stored(t, until(20, cname("a.", "b.")), until(10, text("b.", "x")))
	finds(t, s, asked("a.", textType), 10, needs(asked("b.", textType), until(20, cname("a.", "b."))))
	// Where the type's own set is not fresh any more, that of the name counts.
	s = stored(t, until(10, text("a.", "x")), nothing("a."))
	finds(t, s, asked("a.", textType), 9, ends(api.FoundData, until(10, text("a.", "x"))))
	finds(t, s, asked("a.", textType), 10, ends(api.FoundNothing, nothing("a.")))
}

// P19.1: a store that no call made is as an empty one.
func TestFindUnmade(t *testing.T) {
	for _, s := range append(unmade(), stored(t)) {
		for _, kind := range []int{1, 5, textType, 65535} {
			for _, now := range []int{0, 5, -1, math.MaxInt, math.MinInt} {
				finds(t, s, asked("Www.a.", kind), now, needs(asked("Www.a.", kind)))
			}
		}
		finds(t, s, api.Question{Name: "\x00", Type: 1, Class: -7}, 0, needs(api.Question{Name: "\x00", Type: 1, Class: -7}))
	}
}
