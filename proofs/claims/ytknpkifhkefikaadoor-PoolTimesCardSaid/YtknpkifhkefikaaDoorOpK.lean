/-
  A question that comes in by value.
-/
import Derived.Test.YtknpkifhkefikaaDoorHy
namespace Go.Proofs.YtknpkifhkefikaaDoor
open Go.ChangeShapes Go.WideShapes Go.ChangeAt Go.RowKit Go.Deep
set_option linter.unusedVariables false
set_option maxRecDepth 100000

theorem intCells : Tryd.prog.cellsOf 3 = 1 := by kernel_rfl
theorem strCells : Tryd.prog.cellsOf 9 = 1 := by kernel_rfl
theorem quCells : Tryd.prog.cellsOf 44 = 3 := by kernel_rfl
theorem of_three {α : Type} (l : List α) (h : l.length = 3) : ∃ a b c, l = [a, b, c] := by
  match l, h with
  | [a, b, c], _ => exact ⟨a, b, c, rfl⟩

section
variable {H : Type} {enc : TypeId × Value → H} {w : World} {held : Bool} {d : DataW H} {p : List MemPlace}
theorem open_qu {r0 : Reach} {b0 : Nat} {v : Value} (hv : Value.okWide Tryd.prog w r0 b0 44 v) (h : DataW.Trod enc Tryd.prog w 0 (fun _ => true) held 44 v d p) :
    ∃ (n : Bs) (t c : Int), v = .agg #[.string (bs n), .int .i64 t, .int .i64 c] ∧ (Within 44 d → n.length ≤ reachBytes) := by
  obtain ⟨cs, rfl, hsz⟩ := okWide_struct Tryd.underlying44 hv
  obtain ⟨l⟩ := cs
  obtain ⟨fuel, hf⟩ := h
  obtain ⟨x0, x1, x2, rfl⟩ := of_three l (hsz.trans quCells)
  obtain ⟨xs, n', _, hD, _, hl3, hh⟩ := DataW.trod_struct Tryd.underlying44 hf
  obtain ⟨z0, z1, z2, rfl⟩ := of_three xs hl3
  have k0 : DataW.trod enc Tryd.prog w 0 (fun _ => true) held n' 9 [x0] = some z0 := by simpa [Value.cells, strCells] using hh 0 _ rfl
  have k1 : DataW.trod enc Tryd.prog w 0 (fun _ => true) held n' 3 [x1] = some z1 := by simpa [Value.cells, intCells, strCells] using hh 1 _ rfl
  have k2 : DataW.trod enc Tryd.prog w 0 (fun _ => true) held n' 3 [x2] = some z2 := by simpa [Value.cells, intCells] using hh 2 _ rfl
  obtain ⟨v0, e0, f0, _⟩ := DataW.trod_string Tryd.underlying9 k0
  obtain ⟨v1, e1, _, _⟩ := DataW.trod_int Tryd.underlying3 k1
  obtain ⟨v2, e2, _, _⟩ := DataW.trod_int Tryd.underlying3 k2
  simp only [List.cons.injEq, and_true] at e0 e1 e2
  subst e0 e1 e2
  simp only [Prod.mk.injEq] at hD
  refine ⟨v0.data.toList, v1, v2, by rw [← bs_list v0], fun hw => ?_⟩
  rw [hD.1, f0] at hw
  have := (hw.part (i := 0) Tryd.underlying44 rfl rfl).str
  simpa using this
end
end Go.Proofs.YtknpkifhkefikaaDoor
