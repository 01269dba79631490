/-
  The walk of StreamNobody.
-/
import Derived.Test.YtgeedbehkfdebaaGreatTmD
namespace Go.Proofs.YtgeedbehkfdebaaGreat
open Go.RowKit
set_option linter.unusedVariables false
set_option maxRecDepth 100000

/-- nil, or a stream without a kind. -/
def NobS (w : World) (v : Value) : Prop := v = .pointer none ∨ ∃ g, v = .pointer (some ⟨g, 0, none⟩) ∧ w.cell? ⟨g, 0, none⟩ = some .nilIface
theorem NobS.made {w : World} {v : Value} (h : NobS w v) : Calls Tryz.prog 25 #[v] w fun e w' => e = .returned (.bool false) ∧ w' = w := by
  rcases h with rfl | ⟨g, rfl, c1⟩
  · go_enter Tryz.func25, Tryz.ntmps25
    go_wp2_with fail
    go_ret
    exact ⟨rfl, rfl⟩
  · go_enter Tryz.func25, Tryz.ntmps25
    go_wp2_with fail
    go_ret
    exact ⟨rfl, rfl⟩
theorem FeedS_nob {w : World} {v : Value} (h : NobS w v) (x : Value) : Calls Tryz.prog 10 #[v, x] w fun e w' => e = .returned (.slice none 0 0) ∧ w' = w := by
  have C := Lib.hid h.made
  clear h
  go_enter Tryz.func10, Tryz.ntmps10
  go_wp2_with fail
  refine C.out.mono ?_
  rintro e w1 ⟨rfl, rfl⟩
  go_wp2_with fail
  go_ret
  exact ⟨rfl, rfl⟩
theorem ReplyS_nob {w : World} {v : Value} (h : NobS w v) (x : Value) : Calls Tryz.prog 12 #[v, x] w fun e w' => e = .returned (.tuple #[.slice none 0 0, .int .i64 2]) ∧ w' = w := by
  have C := Lib.hid h.made
  clear h
  go_enter Tryz.func12, Tryz.ntmps12
  go_wp2_with fail
  refine C.out.mono ?_
  rintro e w1 ⟨rfl, rfl⟩
  go_wp2_with fail
  go_returns
  exact ⟨rfl, rfl⟩
theorem RefuseS_nob {w : World} {v : Value} (h : NobS w v) : Calls Tryz.prog 15 #[v] w fun e w' => e = .returned (.slice none 0 0) ∧ w' = w := by
  have C := Lib.hid h.made
  clear h
  go_enter Tryz.func15, Tryz.ntmps15
  go_wp2_with fail
  refine C.out.mono ?_
  rintro e w1 ⟨rfl, rfl⟩
  go_wp2_with fail
  go_ret
  exact ⟨rfl, rfl⟩
theorem EndedS_nob {w : World} {v : Value} (h : NobS w v) : Calls Tryz.prog 17 #[v] w fun e w' => e = .returned (.bool false) ∧ w' = w := by
  have C := Lib.hid h.made
  clear h
  go_enter Tryz.func17, Tryz.ntmps17
  go_wp2_with fail
  refine C.out.mono ?_
  rintro e w1 ⟨rfl, rfl⟩
  go_wp2_with fail
  go_ret
  exact ⟨rfl, rfl⟩

set_option maxHeartbeats 2000000 in
set_option maxRecDepth 100000 in
theorem StreamNobody_any (A : Option Addr) (n c : Nat) (w : World) : Calls Tryz.prog 5 #[.slice A n c] w fun e w' => e = .returned (.bool true) ∧ Below w.heap.size w w' := by
  have RP := Lib.hid (fun p W h x => ReplyS_nob (w := W) (v := p) h x)
  have FD := Lib.hid (fun p W h x => FeedS_nob (w := W) (v := p) h x)
  have RF := Lib.hid (fun p W h => RefuseS_nob (w := W) (v := p) h)
  have ED := Lib.hid (fun p W h => EndedS_nob (w := W) (v := p) h)
  have SE := Lib.hid (fun W => StreamEnds_any 0 A n c W)
  obtain ⟨W, hW⟩ : ∃ W, W = (w.alloc (.cells #[.nilIface, .bool false] 48)).alloc (.cells #[.pointer none, .pointer (some ⟨w.heap.size, 0, none⟩)] 23) := ⟨_, rfl⟩
  have bW : Below w.heap.size w W := by rw [hW]; exact Below.alloc (Below.alloc (Below.refl _ _) (Nat.le_refl _) _) (by simp) _
  have r1 : W.heap[w.heap.size]? = some (.cells #[.nilIface, .bool false] 48 (0, 0)) := by rw [hW]; exact row_old _ (row_new _ rfl)
  have r2 : W.heap[w.heap.size + 1]? = some (.cells #[.pointer none, .pointer (some ⟨w.heap.size, 0, none⟩)] 23 (0, 0)) := by rw [hW]; exact row_new _ (by simp)
  have c0 : W.cell? ⟨w.heap.size + 1, 0, none⟩ = some (.pointer none) := (cell_of_row _ _ 0 _ _ _ r2).trans rfl
  have c1 : W.cell? ⟨w.heap.size + 1, 1, none⟩ = some (.pointer (some ⟨w.heap.size, 0, none⟩)) := (cell_of_row _ _ 1 _ _ _ r2).trans rfl
  have N0 : Hid (NobS W (.pointer none)) := Lib.hid (.inl rfl)
  have N1 : Hid (NobS W (.pointer (some ⟨w.heap.size, 0, none⟩))) := Lib.hid (.inr ⟨_, rfl, (cell_of_row _ _ 0 _ _ _ r1).trans rfl⟩)
  have HW := Lib.hid hW
  have BW := Lib.hid bW
  clear r1 r2 bW hW
  go_enter Tryz.func5, Tryz.ntmps5
  go_wp2_with fail
  rw [← HW.out]
  refine wp_loop_rounds 3 ?_
  rw [rounds_succ]
  go_wp2_with fail
  refine (RP.out _ _ N0.out _).mono ?_
  rintro e w1 ⟨rfl, hw⟩
  rw [hw]
  clear hw
  go_wp2_with fail
  refine (FD.out _ _ N0.out _).mono ?_
  rintro e w1 ⟨rfl, hw⟩
  rw [hw]
  clear hw
  go_wp2_with fail
  refine (RF.out _ _ N0.out).mono ?_
  rintro e w1 ⟨rfl, hw⟩
  rw [hw]
  clear hw
  go_wp2_with fail
  refine (ED.out _ _ N0.out).mono ?_
  rintro e w1 ⟨rfl, hw⟩
  rw [hw]
  clear hw
  go_wp2_with fail
  rw [rounds_succ]
  go_wp2_with fail
  refine (RP.out _ _ N1.out _).mono ?_
  rintro e w1 ⟨rfl, hw⟩
  rw [hw]
  clear hw
  go_wp2_with fail
  refine (FD.out _ _ N1.out _).mono ?_
  rintro e w1 ⟨rfl, hw⟩
  rw [hw]
  clear hw
  go_wp2_with fail
  refine (RF.out _ _ N1.out).mono ?_
  rintro e w1 ⟨rfl, hw⟩
  rw [hw]
  clear hw
  go_wp2_with fail
  refine (ED.out _ _ N1.out).mono ?_
  rintro e w1 ⟨rfl, hw⟩
  rw [hw]
  clear hw
  go_wp2_with fail
  rw [rounds_succ]
  clear RP FD RF ED N0 N1 c0 c1 HW
  go_wp2_with fail
  refine (SE.out _).mono ?_
  rintro e w1 ⟨rfl, k1⟩
  have HF := Lib.hid (BW.out.trans (k1.mono BW.out.size))
  clear k1
  go_wp2_with fail
  go_ret
  exact ⟨rfl, HF.out⟩
end Go.Proofs.YtgeedbehkfdebaaGreat
