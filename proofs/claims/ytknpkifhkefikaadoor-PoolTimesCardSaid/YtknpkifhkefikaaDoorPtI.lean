/-
  The landed pool: what is open without what is late, of one that is late.
-/
import Derived.Test.YtknpkifhkefikaaDoorPtH
import Derived.Lib.SliceRun
namespace Go.Proofs.YtknpkifhkefikaaDoor
open Go.RowKit
set_option linter.unusedVariables false
set_option maxRecDepth 100000
attribute [local go_sem ↓] exec_loadOq

theorem run_clear_one {P : Program} (w : World) (t e ty : TypeId) (z : Value) (ht : P.underlying t = some (.slice e)) (hv : ∀ w, (zeroValue e).run P w = .ok z w) (Z : List Value) (hz : (Builtin.zeroCells z.cells 1).toList = Z) (h1 : ∀ v ∈ Z, v.oneCell' = true) (b o c : Nat)
    (hc : ∀ j, j < Z.length → (w.cell? ⟨b, o + j, none⟩).isSome = true) (hf : ∀ j, j < Z.length → w.frozen? ⟨b, o + j, none⟩ = false) :
    (Builtin.clear_ #[t] ty #[.slice (some ⟨b, o, none⟩) 1 c]).run P w = .ok (.tuple #[]) (w.setCells b o Z) := by
  have hst := run_storeCells_cells (P := P) b o Z 0 w (by simpa using hc) (by simpa using hf) h1
  simp only [Nat.add_zero] at hst
  simp [Builtin.clear_, run_underlying ht, hv, hz, hst]
theorem zero_oq (w : World) : (zeroValue 124).run Tryd.prog w = .ok (.agg oqZ) w := by kernel_rfl
theorem cells_oq : (Builtin.zeroCells (Value.agg oqZ).cells 1).toList = oqZ.toList := by kernel_rfl
theorem one_oq : ∀ v ∈ oqZ.toList, v.oneCell' = true := List.all_eq_true.1 (by kernel_rfl : oqZ.toList.all (·.oneCell') = true)
theorem del1_late (vb cap gn s d : Nat) (v0 v1 v2 v3 v4 v5 v6 v7 v8 v9 v10 : Value) (w : World) (hs : s ≤ 1000000) (hd : d ≤ 30) (h10 : 10 ≤ d) (hcap : 1 ≤ cap) (hcm : cap ≤ 9223372036854775807) (hn : w.cell? ⟨gn, 0, none⟩ = some (.int .i64 ((s : Int) + d))) (hr : w.rangeAt vb 0 [v0, v1, v2, v3, v4, v5, v6, v7, v8, v9, v10, .int .i64 s])
    (hf : ∀ W, Below w.heap.size w W → ∀ j, j < 12 → W.frozen? ⟨vb, 0 + j, none⟩ = false) :
    Calls Tryd.prog 65 #[.slice (some ⟨vb, 0, none⟩) 1 cap, .func (.func 63) #[] #[.pointer (some ⟨gn, 0, none⟩)]] w fun e w' => e = .returned (.slice (some ⟨vb, 0, none⟩) 0 cap) ∧ ∃ W, Below w.heap.size w W ∧ w' = W.setCells vb 0 oqZ.toList := by
  have C := idx1_any vb cap gn s d v0 v1 v2 v3 v4 v5 v6 v7 v8 v9 v10 w hs hd hn hr
  rw [if_pos h10] at C
  have C := Lib.hid C
  have HR := Lib.hid hr
  have HF := Lib.hid hf
  clear hn hr h10 hf
  go_enter Tryd.func65, Tryd.ntmps65
  go_wp2_with fail
  refine C.out.mono ?_
  rintro e w1 ⟨rfl, b1⟩
  have HB := Lib.hid b1
  clear b1
  go_wp2_with fail
  go_loopw [5, 6] (fun v5 v6 wr => v5 = .int .i64 0 ∧ v6 = .int .i64 1 ∧ wr = w1) (fun _ _ _ => 0)
  case atStart => exact ⟨rfl, rfl, rfl⟩
  case round =>
    obtain ⟨rfl, rfl, rfl⟩ := hrel
    have hcells : ∀ j, j < oqZ.toList.length → (wr.cell? ⟨vb, 0 + j, none⟩).isSome = true := fun j hj => by
      have hj' : j < 12 := hj
      have h1 := HR.out j _ (List.getElem?_eq_getElem (l := [v0, v1, v2, v3, v4, v5, v6, v7, v8, v9, v10, Value.int .i64 s]) hj')
      have h2 := HB.out.cell (p := ⟨vb, 0 + j, none⟩) (World.block_lt_of_cell? w _ h1)
      rw [h2, h1]
      rfl
    have CL : ∀ ty, (Builtin.clear_ #[117] ty #[.slice (some ⟨vb, 0, none⟩) 1 cap]).run Tryd.prog wr = .ok (.tuple #[]) (wr.setCells vb 0 oqZ.toList) := fun ty => run_clear_one wr 117 124 ty (.agg oqZ) Tryd.underlying117 zero_oq _ cells_oq one_oq vb 0 cap hcells (fun j hj => HF.out _ HB.out j hj)
    clear hcells
    go_wp2_with fail
    go_ret
    exact ⟨rfl, _, HB.out, rfl⟩
end Go.Proofs.YtknpkifhkefikaaDoor
