/-
  A step that comes in by value.
-/
import Derived.Test.YtcnnifogppabdaaPlD
namespace Go.Proofs.Ytcnnifogppabdaa
open Go.ChangeShapes Go.WideShapes Go.ChangeAt Go.RowKit Go.Deep
set_option linter.unusedVariables false
set_option maxRecDepth 100000

section
variable {H : Type} {enc : TypeId × Value → H} {w : World} {base b0 : Nat} {sp : Nat → Bool} {held : Bool} {v : Value} {d : DataW H} {p : List MemPlace} {r0 : Reach}
theorem open_step (hv : Value.okWide Try.prog w r0 b0 33 v) (h : DataW.Trod enc Try.prog w base sp held 33 v d p) :
    ∃ x : St, v = .agg #[.int .i64 x.op, .int .i64 x.k, .string x.nm, .string x.to, .slice x.ba x.bn x.bc, .slice x.ta x.tn x.tc] := by
  obtain ⟨cs, rfl, hsz⟩ := okWide_struct Try.underlying33 hv
  obtain ⟨l⟩ := cs
  obtain ⟨x0, x1, x2, x3, x4, x5, rfl⟩ := of_six l (hsz.trans stCells)
  obtain ⟨fuel, hf⟩ := h
  obtain ⟨xs, n', _, hD, _, hl3, hg⟩ := DataW.trod_struct Try.underlying33 hf
  obtain ⟨y0, y1, y2, y3, y4, y5, rfl⟩ := of_six xs hl3
  have g0 : DataW.trod enc Try.prog w base sp held n' 3 [x0] = some y0 := by simpa [Value.cells, intCells] using hg 0 _ rfl
  have g1 : DataW.trod enc Try.prog w base sp held n' 3 [x1] = some y1 := by simpa [Value.cells, intCells] using hg 1 _ rfl
  have g2 : DataW.trod enc Try.prog w base sp held n' 9 [x2] = some y2 := by simpa [Value.cells, strCells, intCells] using hg 2 _ rfl
  have g3 : DataW.trod enc Try.prog w base sp held n' 9 [x3] = some y3 := by simpa [Value.cells, strCells, intCells] using hg 3 _ rfl
  have g4 : DataW.trod enc Try.prog w base sp held n' 30 [x4] = some y4 := by simpa [Value.cells, strCells, intCells, slCells] using hg 4 _ rfl
  have g5 : DataW.trod enc Try.prog w base sp held n' 31 [x5] = some y5 := by simpa [Value.cells, strCells, intCells, slCells, tlsCells] using hg 5 _ rfl
  obtain ⟨i0, e0, _, _⟩ := DataW.trod_int Try.underlying3 g0
  obtain ⟨i1, e1, _, _⟩ := DataW.trod_int Try.underlying3 g1
  obtain ⟨s2, e2, _, _⟩ := DataW.trod_string Try.underlying9 g2
  obtain ⟨s3, e3, _, _⟩ := DataW.trod_string Try.underlying9 g3
  have e4 : ∃ a n c, x4 = .slice a n c := by
    obtain ⟨d4, p4⟩ := y4
    rcases open_slice Try.underlying30 g4 with ⟨hcs, _⟩ | ⟨ad, l, c, m, k, D, Pl, hcs, _⟩
    · simp at hcs; exact ⟨none, 0, 0, hcs⟩
    · simp at hcs; exact ⟨_, _, _, hcs⟩
  have e5 : ∃ a n c, x5 = .slice a n c := by
    obtain ⟨d5, p5⟩ := y5
    rcases open_slice Try.underlying31 g5 with ⟨hcs, _⟩ | ⟨ad, l, c, m, k, D, Pl, hcs, _⟩
    · simp at hcs; exact ⟨none, 0, 0, hcs⟩
    · simp at hcs; exact ⟨_, _, _, hcs⟩
  obtain ⟨a4, n4, c4, rfl⟩ := e4
  obtain ⟨a5, n5, c5, rfl⟩ := e5
  simp only [List.cons.injEq, and_true] at e0 e1 e2 e3
  subst e0 e1 e2 e3
  exact ⟨⟨i0, i1, s2, s3, a4, n4, c4, a5, n5, c5⟩, rfl⟩
end
end Go.Proofs.Ytcnnifogppabdaa
