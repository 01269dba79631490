/-
  The landed pool: Tick's closure.
-/
import Derived.Test.YtknpkifhkefikaaDoorPb
import Derived.Test.YtknpkifhkefikaaDoorPoE
namespace Go.Proofs.YtknpkifhkefikaaDoor
open Go.RowKit
set_option linter.unusedVariables false
set_option maxRecDepth 100000
attribute [local go_sem ↓] exec_loadOq

theorem tickC_any (v0 v1 v2 v3 v4 v5 v6 v7 v8 v9 v10 : Value) (s d gn : Nat) (w : World) (hs : s ≤ 1000000) (hd : d ≤ 30) (hn : w.cell? ⟨gn, 0, none⟩ = some (.int .i64 ((s : Int) + d))) : Calls Tryd.prog 63 #[.agg #[v0, v1, v2, v3, v4, v5, v6, v7, v8, v9, v10, .int .i64 s], .pointer (some ⟨gn, 0, none⟩)] w fun e w' => e = .returned (.bool (decide (10 ≤ d))) ∧ Below w.heap.size w w' := by
  obtain ⟨W1, hW1⟩ : ∃ W1, W1 = w.alloc (.cells #[v0, v1, v2, v3, v4, v5, v6, v7, v8, v9, v10, .int .i64 s] 124) := ⟨_, rfl⟩
  have b1 : Below w.heap.size w W1 := by rw [hW1]; exact Below.alloc (Below.refl _ _) (Nat.le_refl _) _
  have hn1 : W1.cell? ⟨gn, 0, none⟩ = some (.int .i64 ((s : Int) + d)) := b1.cell (p := ⟨gn, 0, none⟩) (World.block_lt_of_cell? w _ hn) |>.trans hn
  have hI : (Tryd.prog.info? 124).map (·.size) = some (#[v0, v1, v2, v3, v4, v5, v6, v7, v8, v9, v10, .int .i64 s] : Array Value).size := by kernel_rfl
  have F1 : loadOq (.pointer (some ⟨w.heap.size, 0, none⟩)) W1 = .ok (.value (.agg #[v0, v1, v2, v3, v4, v5, v6, v7, v8, v9, v10, .int .i64 s])) W1 := loadOq_row (by rw [hW1]; exact row_new _ rfl) hI
  have C := Lib.hid (late_any v0 v1 v2 v3 v4 v5 v6 v7 v8 v9 v10 s d W1 hs hd)
  have HB := Lib.hid b1
  have HW1 := Lib.hid hW1
  clear b1 hn hI hW1
  go_enter Tryd.func63, Tryd.ntmps63
  go_upto_region 1 with fail
  rw [← HW1.out]
  go_wp2_with fail
  refine C.out.mono ?_
  rintro e w2 ⟨rfl, b2⟩
  have HB2 := Lib.hid (Below.trans HB.out (b2.mono HB.out.size))
  clear b2
  go_wp2_with fail
  go_ret
  exact ⟨rfl, HB2.out⟩
end Go.Proofs.YtknpkifhkefikaaDoor
