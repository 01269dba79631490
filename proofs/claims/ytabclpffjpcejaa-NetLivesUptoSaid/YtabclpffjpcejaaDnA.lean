/-
  A call of a net that comes in by value.
-/
import Derived.Test.YtabclpffjpcejaaOp
import Derived.Deep.Fields
import Derived.Deep.Slices
namespace Go.Proofs.Ytabclpffjpcejaa
open Go.ChangeShapes Go.WideShapes Go.ChangeAt Go.RowKit Go.Deep
set_option linter.unusedVariables false
set_option maxRecDepth 100000

theorem dnCells : Try.prog.cellsOf 31 = 3 := by kernel_rfl
theorem dnInt : Try.prog.cellsOf 3 = 1 := by kernel_rfl
theorem of_three {α : Type} (l : List α) (h : l.length = 3) : ∃ a0 a1 a2, l = [a0, a1, a2] := by
  match l, h with
  | [a0, a1, a2], _ => exact ⟨a0, a1, a2, rfl⟩
/-- A call's cells. -/
structure Dn where
  op : Int
  n : Int
  a : Option Addr
  m : Nat
  c : Nat
section
variable {H : Type} {enc : TypeId × Value → H} {w : World} {base b0 : Nat} {sp : Nat → Bool} {held : Bool} {v : Value} {d : DataW H} {p : List MemPlace} {r0 : Reach}
theorem open_dn (hv : Value.okWide Try.prog w r0 b0 31 v) (h : DataW.Trod enc Try.prog w base sp held 31 v d p) :
    ∃ x : Dn, v = .agg #[.int .i64 x.op, .int .i64 x.n, .slice x.a x.m x.c] ∧ (-9223372036854775808 ≤ x.n ∧ x.n ≤ 9223372036854775807) := by
  obtain ⟨cs, rfl, hsz⟩ := okWide_struct Try.underlying31 hv
  obtain ⟨l⟩ := cs
  obtain ⟨x0, x1, x2, rfl⟩ := of_three l (hsz.trans dnCells)
  obtain ⟨fuel, hf⟩ := h
  obtain ⟨xs, n', _, hD, _, hl3, hg⟩ := DataW.trod_struct Try.underlying31 hf
  obtain ⟨y0, y1, y2, rfl⟩ := of_three xs hl3
  have g0 : DataW.trod enc Try.prog w base sp held n' 3 [x0] = some y0 := by simpa [Value.cells, dnInt] using hg 0 _ rfl
  have g1 : DataW.trod enc Try.prog w base sp held n' 3 [x1] = some y1 := by simpa [Value.cells, dnInt] using hg 1 _ rfl
  have g2 : DataW.trod enc Try.prog w base sp held n' 29 [x2] = some y2 := by simpa [Value.cells, dnInt, slCells] using hg 2 _ rfl
  obtain ⟨i0, e0, _, f0⟩ := DataW.trod_int Try.underlying3 g0
  obtain ⟨i1, e1, _, f1⟩ := DataW.trod_int Try.underlying3 g1
  have e2 : ∃ a n c, x2 = .slice a n c := by
    obtain ⟨d4, p4⟩ := y2
    rcases open_slice Try.underlying29 g2 with ⟨hcs, _⟩ | ⟨ad, l, c, m, k, D, Pl, hcs, _⟩
    · simp at hcs; exact ⟨none, 0, 0, hcs⟩
    · simp at hcs; exact ⟨_, _, _, hcs⟩
  obtain ⟨a2, n2, c2, rfl⟩ := e2
  simp only [List.cons.injEq, and_true] at e0 e1
  subst e0 e1
  simp only [Lit.wf, Bool.and_eq_true, decide_eq_true_eq] at f0 f1
  exact ⟨⟨i0, i1, a2, n2, c2⟩, rfl, f1⟩
end
end Go.Proofs.Ytabclpffjpcejaa
