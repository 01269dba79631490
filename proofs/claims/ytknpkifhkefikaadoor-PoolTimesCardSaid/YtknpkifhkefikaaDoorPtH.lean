/-
  The landed pool: what is open without what is late, of one.
-/
import Derived.Test.YtknpkifhkefikaaDoorPtG
namespace Go.Proofs.YtknpkifhkefikaaDoor
open Go.RowKit
set_option linter.unusedVariables false
set_option maxRecDepth 100000
attribute [local go_sem ↓] exec_loadOq

theorem del1_none (vb cap gn s d : Nat) (v0 v1 v2 v3 v4 v5 v6 v7 v8 v9 v10 : Value) (w : World) (hs : s ≤ 1000000) (hd : d ≤ 30) (h10 : ¬ 10 ≤ d) (hn : w.cell? ⟨gn, 0, none⟩ = some (.int .i64 ((s : Int) + d))) (hr : w.rangeAt vb 0 [v0, v1, v2, v3, v4, v5, v6, v7, v8, v9, v10, .int .i64 s]) :
    Calls Tryd.prog 65 #[.slice (some ⟨vb, 0, none⟩) 1 cap, .func (.func 63) #[] #[.pointer (some ⟨gn, 0, none⟩)]] w fun e w' => e = .returned (.slice (some ⟨vb, 0, none⟩) 1 cap) ∧ Below w.heap.size w w' := by
  have C := idx1_any vb cap gn s d v0 v1 v2 v3 v4 v5 v6 v7 v8 v9 v10 w hs hd hn hr
  rw [if_neg h10] at C
  have C := Lib.hid C
  clear hn hr h10
  go_enter Tryd.func65, Tryd.ntmps65
  go_wp2_with fail
  refine C.out.mono ?_
  rintro e w1 ⟨rfl, b1⟩
  have HB := Lib.hid b1
  clear b1
  go_wp2_with fail
  go_ret
  exact ⟨rfl, HB.out⟩
end Go.Proofs.YtknpkifhkefikaaDoor
