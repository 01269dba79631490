/-
  The walk of SeglogNobody.
-/
import Derived.Test.YtcggehjfkldonaaGreatDoorSnA
namespace Go.Proofs.YtcggehjfkldonaaGreatDoor
open Go.RowKit
set_option linter.unusedVariables false
set_option maxRecDepth 100000

theorem NobL.drewN {w : World} {v : Value} (h : NobL w v) (n : Nat) : NobL (w.drewN n) v := by
  rcases h with h | ⟨g, h1, h2⟩
  · exact .inl h
  · exact .inr ⟨g, h1, h2⟩

set_option maxHeartbeats 2000000 in
set_option maxRecDepth 100000 in
theorem SeglogNobody_any (A : Option Addr) (b : Bs) (c : Nat) (w : World) : Calls Tryz.prog 3 #[.slice A b.length c] w fun e w' => e = .returned (.bool true) ∧ Below w.heap.size w w' := by
  generalize b.length = n
  have AP := Lib.hid (fun p W h x => AppendL_nob (w := W) (v := p) h x)
  have SY := Lib.hid (fun p W h => SyncL_nob (w := W) (v := p) h)
  have RP := Lib.hid (fun p W h x => ReplaceL_nob (w := W) (v := p) h x)
  have SG := Lib.hid (fun p W h => SegmentsL_nob (w := W) (v := p) h)
  have BY := Lib.hid (fun p W h => BytesL_nob (w := W) (v := p) h)
  have OP := Lib.hid (fun p W h => OpenL_nob (w := W) (v := p) h)
  obtain ⟨W, hW⟩ : ∃ W, W = (w.alloc (.cells #[.pointer none, .slice none 0 0, .bool false] 27)).alloc (.cells #[.pointer none, .pointer (some ⟨w.heap.size, 0, none⟩)] 23) := ⟨_, rfl⟩
  have bW : Below w.heap.size w W := by rw [hW]; exact Below.alloc (Below.alloc (Below.refl _ _) (Nat.le_refl _) _) (by simp) _
  have r1 : W.heap[w.heap.size]? = some (.cells #[.pointer none, .slice none 0 0, .bool false] 27 (0, 0)) := by rw [hW]; exact row_old _ (row_new _ rfl)
  have r2 : W.heap[w.heap.size + 1]? = some (.cells #[.pointer none, .pointer (some ⟨w.heap.size, 0, none⟩)] 23 (0, 0)) := by rw [hW]; exact row_new _ (by simp)
  have c0 : W.cell? ⟨w.heap.size + 1, 0, none⟩ = some (.pointer none) := (cell_of_row _ _ 0 _ _ _ r2).trans rfl
  have c1 : W.cell? ⟨w.heap.size + 1, 1, none⟩ = some (.pointer (some ⟨w.heap.size, 0, none⟩)) := (cell_of_row _ _ 1 _ _ _ r2).trans rfl
  have N0 : Hid (NobL W (.pointer none)) := Lib.hid (.inl rfl)
  have N1 : Hid (NobL W (.pointer (some ⟨w.heap.size, 0, none⟩))) := Lib.hid (.inr ⟨_, rfl, (cell_of_row _ _ 0 _ _ _ r1).trans rfl⟩)
  have HW := Lib.hid hW
  have BW := Lib.hid bW
  clear r1 r2 bW hW
  go_enter Tryz.func3, Tryz.ntmps3
  go_wp2_with fail
  rw [← HW.out]
  refine wp_loop_rounds 3 ?_
  rw [rounds_succ]
  go_wp2_with fail
  refine (AP.out _ _ N0.out _).mono ?_
  rintro e w1 ⟨rfl, hw⟩
  rw [hw]
  clear hw
  go_wp2_with fail
  refine (SY.out _ _ N0.out).mono ?_
  rintro e w1 ⟨rfl, hw⟩
  rw [hw]
  clear hw
  go_wp2_with fail
  refine (RP.out _ _ N0.out _).mono ?_
  rintro e w1 ⟨rfl, hw⟩
  rw [hw]
  clear hw
  go_wp2_with fail
  refine (SG.out _ _ N0.out).mono ?_
  rintro e w1 ⟨rfl, hw⟩
  rw [hw]
  clear hw
  go_wp2_with fail
  refine (BY.out _ _ N0.out).mono ?_
  rintro e w1 ⟨rfl, hw⟩
  rw [hw]
  clear hw
  go_wp2_with fail
  rw [rounds_succ]
  go_wp2_with fail
  refine (AP.out _ _ N1.out _).mono ?_
  rintro e w1 ⟨rfl, hw⟩
  rw [hw]
  clear hw
  go_wp2_with fail
  refine (SY.out _ _ N1.out).mono ?_
  rintro e w1 ⟨rfl, hw⟩
  rw [hw]
  clear hw
  go_wp2_with fail
  refine (RP.out _ _ N1.out _).mono ?_
  rintro e w1 ⟨rfl, hw⟩
  rw [hw]
  clear hw
  go_wp2_with fail
  refine (SG.out _ _ N1.out).mono ?_
  rintro e w1 ⟨rfl, hw⟩
  rw [hw]
  clear hw
  go_wp2_with fail
  refine (BY.out _ _ N1.out).mono ?_
  rintro e w1 ⟨rfl, hw⟩
  rw [hw]
  clear hw
  go_wp2_with fail
  rw [rounds_succ]
  clear AP SY RP SG BY N0 N1 c0 c1 HW
  obtain ⟨V, hV⟩ : ∃ V, V = (W.alloc (.cells #[.map none, .int .i64 0, .int .i64 0, .int .i64 0, .int .i64 0] 38)).alloc (.cells #[.pointer none, .pointer (some ⟨W.heap.size, 0, none⟩)] 24) := ⟨_, rfl⟩
  have bV : Below W.heap.size W V := by rw [hV]; exact Below.alloc (Below.alloc (Below.refl _ _) (Nat.le_refl _) _) (by simp) _
  have r1 : V.heap[W.heap.size]? = some (.cells #[.map none, .int .i64 0, .int .i64 0, .int .i64 0, .int .i64 0] 38 (0, 0)) := by rw [hV]; exact row_old _ (row_new _ rfl)
  have r2 : V.heap[W.heap.size + 1]? = some (.cells #[.pointer none, .pointer (some ⟨W.heap.size, 0, none⟩)] 24 (0, 0)) := by rw [hV]; exact row_new _ (by simp)
  have c0 : V.cell? ⟨W.heap.size + 1, 0, none⟩ = some (.pointer none) := (cell_of_row _ _ 0 _ _ _ r2).trans rfl
  have c1 : V.cell? ⟨W.heap.size + 1, 1, none⟩ = some (.pointer (some ⟨W.heap.size, 0, none⟩)) := (cell_of_row _ _ 1 _ _ _ r2).trans rfl
  have N0 : Hid (NobD V (.pointer none)) := Lib.hid (.inl rfl)
  have N1 : Hid (NobD V (.pointer (some ⟨W.heap.size, 0, none⟩))) := Lib.hid (.inr ⟨_, rfl, (cell_of_row _ _ 0 _ _ _ r1).trans rfl⟩)
  have HV := Lib.hid hV
  have HF := Lib.hid (Below.trans BW.out (bV.mono BW.out.size))
  clear r1 r2 bV hV BW
  go_wp2_with fail
  rw [← HV.out]
  refine wp_loop_rounds 3 ?_
  rw [rounds_succ]
  go_wp2_with fail
  refine (OP.out _ _ N0.out).mono ?_
  rintro e w1 ⟨rfl, hw⟩
  rw [hw]
  clear hw
  go_wp2_with fail
  rw [rounds_succ]
  go_wp2_with fail
  refine (OP.out _ _ N1.out).mono ?_
  rintro e w1 ⟨rfl, hw⟩
  rw [hw]
  clear hw
  go_wp2_with fail
  rw [rounds_succ]
  go_wp2_with fail
  go_ret
  exact ⟨rfl, HF.out⟩
end Go.Proofs.YtcggehjfkldonaaGreatDoor
