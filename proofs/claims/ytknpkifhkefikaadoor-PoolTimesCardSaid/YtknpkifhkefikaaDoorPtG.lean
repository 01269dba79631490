/-
  The landed pool: the first that is late, of one.
-/
import Derived.Test.YtknpkifhkefikaaDoorPtF
import Derived.Deep.MidRow
namespace Go.Proofs.YtknpkifhkefikaaDoor
open Go.RowKit
set_option linter.unusedVariables false
set_option maxRecDepth 100000
attribute [local go_sem ↓] exec_loadOq

theorem loadOq_mid {w1 : World} {g o : Nat} {l : List Value} (h : w1.rangeAt g o l) (hC : (Tryd.prog.info? 124).map (·.size) = some l.length) : loadOq (.pointer (some ⟨g, o, none⟩)) w1 = .ok (.value (.agg l.toArray)) w1 := by
  unfold loadOq
  rw [run_loadAt_mid w1 g o 124 l _ h Tryd.underlying124 rfl hC]
  rfl
theorem idx1_any (vb cap gn s d : Nat) (v0 v1 v2 v3 v4 v5 v6 v7 v8 v9 v10 : Value) (w : World) (hs : s ≤ 1000000) (hd : d ≤ 30) (hn : w.cell? ⟨gn, 0, none⟩ = some (.int .i64 ((s : Int) + d))) (hr : w.rangeAt vb 0 [v0, v1, v2, v3, v4, v5, v6, v7, v8, v9, v10, .int .i64 s]) :
    Calls Tryd.prog 105 #[.slice (some ⟨vb, 0, none⟩) 1 cap, .func (.func 63) #[] #[.pointer (some ⟨gn, 0, none⟩)]] w fun e w' => e = .returned (.int .i64 (if 10 ≤ d then 0 else -1)) ∧ Below w.heap.size w w' := by
  have hI : (Tryd.prog.info? 124).map (·.size) = some [v0, v1, v2, v3, v4, v5, v6, v7, v8, v9, v10, Value.int .i64 s].length := by kernel_rfl
  have F1 := loadOq_mid hr hI
  have C := Lib.hid (tickC_any v0 v1 v2 v3 v4 v5 v6 v7 v8 v9 v10 s d gn w hs hd hn)
  clear hI hr hn
  by_cases h : 10 ≤ d
  · rw [if_pos h]
    rw [decide_eq_true h] at C
    clear h
    go_enter Tryd.func105, Tryd.ntmps105
    go_wp2_with fail
    go_loopw [8] (fun v8 wr => v8 = .int .i64 0 ∧ wr = w) (fun _ _ => 0)
    case atStart => exact ⟨rfl, rfl⟩
    case round =>
      obtain ⟨rfl, rfl⟩ := hrel
      go_wp2_with fail
      refine C.out.mono ?_
      rintro e w1 ⟨rfl, b1⟩
      have HB := Lib.hid b1
      clear b1
      go_wp2_with fail
      go_ret
      exact ⟨rfl, HB.out⟩
  · rw [if_neg h]
    rw [decide_eq_false h] at C
    clear h
    go_enter Tryd.func105, Tryd.ntmps105
    go_wp2_with fail
    go_loopw [8] (fun v8 wr => (v8 = .int .i64 0 ∧ wr = w) ∨ (v8 = .int .i64 1 ∧ Hid (Below w.heap.size w wr))) (fun v8 _ => 1 - (intOf v8).toNat)
    case atStart => exact .inl ⟨rfl, rfl⟩
    case round =>
      rcases hrel with ⟨rfl, rfl⟩ | ⟨rfl, HB⟩
      · go_wp2_with fail
        refine C.out.mono ?_
        rintro e w1 ⟨rfl, b1⟩
        have HB := Lib.hid b1
        clear b1
        go_wp2_with fail
        go_roundw
        case rel => exact .inr ⟨by go_num, HB⟩
        case measure => simp [intOf]
      · go_wp2_with fail
        go_ret
        exact ⟨rfl, HB.out⟩
end Go.Proofs.YtknpkifhkefikaaDoor
