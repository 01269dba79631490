/-
  A header and its counts, as they come in by value: their shapes; the table of masks, as the row lists it.
-/
import Derived.Test.YtigpkcpdccgnfaaDoorHdI
import Derived.Test.YtigpkcpdccgnfaaDoorCards
import Derived.Test.YtigpkcpdccgnfaaDoorTie
import Derived.ProofKit
import Derived.OpenShut
import Derived.Deep.Fields
import Derived.Deep.DeepHandedRow
import Derived.Lib.LaidTab
import Derived.Laws.IdiomArrays
namespace Go.Proofs.YtigpkcpdccgnfaaDoor
open Go.ChangeShapes Go.WideShapes Go.ChangeAt Go.RowKit Go.Deep

theorem own : ownKnob Tryd.prog.godebug = none := by kernel_rfl
theorem laidOut : laidOutB Tryd.prog = true := by kernel_rfl
theorem hdCells : Tryd.prog.cellsOf 23 = 8 := by kernel_rfl
theorem ctCells : Tryd.prog.cellsOf 24 = 4 := by kernel_rfl
theorem intCells : Tryd.prog.cellsOf 3 = 1 := by kernel_rfl
theorem mkCells : Tryd.prog.cellsOf 39 = 5 := by kernel_rfl
theorem gMask : Tryd.prog.globalNamed "cicerone/header.masks" = some 0 := by kernel_rfl
theorem gMaskType : (Tryd.prog.globals[0]?).map (·.type) = some 39 := by kernel_rfl

theorem boolCells : Tryd.prog.cellsOf 4 = 1 := by kernel_rfl
theorem of_eight {α : Type} (l : List α) (h : l.length = 8) : ∃ a b c d e f g i, l = [a, b, c, d, e, f, g, i] := by
  match l, h with
  | [a, b, c, d, e, f, g, i], _ => exact ⟨a, b, c, d, e, f, g, i, rfl⟩
theorem of_four {α : Type} (l : List α) (h : l.length = 4) : ∃ a b c d, l = [a, b, c, d] := by
  match l, h with
  | [a, b, c, d], _ => exact ⟨a, b, c, d, rfl⟩

section
variable {H : Type} {enc : TypeId × Value → H} {w : World} {base b0 : Nat} {sp : Nat → Bool} {held : Bool} {v : Value} {d : DataW H} {p : List MemPlace} {r0 : Reach}
set_option maxHeartbeats 1000000 in
theorem open_hd (hv : Value.okWide Tryd.prog w r0 b0 23 v) (h : DataW.Trod enc Tryd.prog w base sp held 23 v d p) :
    ∃ (i : Int) (r : Bool) (o : Int) (aa tc rd ra : Bool) (c : Int), v = hdV i r o aa tc rd ra c := by
  obtain ⟨cs, rfl, hsz⟩ := okWide_struct Tryd.underlying23 hv
  obtain ⟨l⟩ := cs
  obtain ⟨a, b, c, d, e, f, g, i, rfl⟩ := of_eight l (hsz.trans hdCells)
  obtain ⟨fuel, hf⟩ := h
  obtain ⟨xs, n, _, _, _, hlen, hg⟩ := DataW.trod_struct Tryd.underlying23 hf
  obtain ⟨y0, y1, y2, y3, y4, y5, y6, y7, rfl⟩ := of_eight xs hlen
  have g0 : DataW.trod enc Tryd.prog w base sp held n 3 [a] = some y0 := by simpa [Value.cells, intCells] using hg 0 _ rfl
  have g1 : DataW.trod enc Tryd.prog w base sp held n 4 [b] = some y1 := by simpa [Value.cells, boolCells] using hg 1 _ rfl
  have g2 : DataW.trod enc Tryd.prog w base sp held n 3 [c] = some y2 := by simpa [Value.cells, intCells] using hg 2 _ rfl
  have g3 : DataW.trod enc Tryd.prog w base sp held n 4 [d] = some y3 := by simpa [Value.cells, boolCells] using hg 3 _ rfl
  have g4 : DataW.trod enc Tryd.prog w base sp held n 4 [e] = some y4 := by simpa [Value.cells, boolCells] using hg 4 _ rfl
  have g5 : DataW.trod enc Tryd.prog w base sp held n 4 [f] = some y5 := by simpa [Value.cells, boolCells] using hg 5 _ rfl
  have g6 : DataW.trod enc Tryd.prog w base sp held n 4 [g] = some y6 := by simpa [Value.cells, boolCells] using hg 6 _ rfl
  have g7 : DataW.trod enc Tryd.prog w base sp held n 3 [i] = some y7 := by simpa [Value.cells, intCells] using hg 7 _ rfl
  obtain ⟨x0, e0, _, _⟩ := DataW.trod_int Tryd.underlying3 g0
  obtain ⟨x1, e1, _⟩ := DataW.trod_bool Tryd.underlying4 g1
  obtain ⟨x2, e2, _, _⟩ := DataW.trod_int Tryd.underlying3 g2
  obtain ⟨x3, e3, _⟩ := DataW.trod_bool Tryd.underlying4 g3
  obtain ⟨x4, e4, _⟩ := DataW.trod_bool Tryd.underlying4 g4
  obtain ⟨x5, e5, _⟩ := DataW.trod_bool Tryd.underlying4 g5
  obtain ⟨x6, e6, _⟩ := DataW.trod_bool Tryd.underlying4 g6
  obtain ⟨x7, e7, _, _⟩ := DataW.trod_int Tryd.underlying3 g7
  simp at e0 e1 e2 e3 e4 e5 e6 e7
  subst e0 e1 e2 e3 e4 e5 e6 e7
  exact ⟨x0, x1, x2, x3, x4, x5, x6, x7, rfl⟩

set_option maxHeartbeats 1000000 in
theorem open_ct (hv : Value.okWide Tryd.prog w r0 b0 24 v) (h : DataW.Trod enc Tryd.prog w base sp held 24 v d p) :
    ∃ n0 n1 n2 n3 : Int, v = ctV n0 n1 n2 n3 := by
  obtain ⟨cs, rfl, hsz, _⟩ : ∃ cs, v = .agg cs ∧ cs.size = Tryd.prog.cellsOf 24 ∧ Row.okWide Tryd.prog w r0 b0 24 cs := by
    simpa [Value.okWide, Tryd.underlying24] using hv
  obtain ⟨l⟩ := cs
  obtain ⟨c0, c1, c2, c3, rfl⟩ := of_four l (hsz.trans ctCells)
  obtain ⟨fuel, hf⟩ := h
  obtain ⟨y0, y1, y2, y3, m, _, hy0, hy1, hy2, hy3⟩ := trod_array4 Tryd.underlying24 intCells hf
  obtain ⟨x0, e0, _, _⟩ := DataW.trod_int Tryd.underlying3 hy0
  obtain ⟨x1, e1, _, _⟩ := DataW.trod_int Tryd.underlying3 hy1
  obtain ⟨x2, e2, _, _⟩ := DataW.trod_int Tryd.underlying3 hy2
  obtain ⟨x3, e3, _, _⟩ := DataW.trod_int Tryd.underlying3 hy3
  simp at e0 e1 e2 e3
  subst e0 e1 e2 e3
  exact ⟨x0, x1, x2, x3, rfl⟩
end

theorem masks_of {W : World} (h : Lib.TabIs Tryd.prog W "cicerone/header.masks" .i64 [32768, 1024, 512, 256, 128]) : Masks W := by
  have c0 : W.cell? ⟨0, 0, none⟩ = some (.int .i64 32768) := h.cell gMask 0 (by decide)
  exact ⟨c0, h.cell gMask 1 (by decide), h.cell gMask 2 (by decide), h.cell gMask 3 (by decide), h.cell gMask 4 (by decide), World.block_lt_of_cell? W _ c0⟩

end Go.Proofs.YtigpkcpdccgnfaaDoor
