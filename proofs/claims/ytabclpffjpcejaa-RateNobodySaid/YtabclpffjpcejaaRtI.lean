/-
  A table that no call made; the walk of RateNobody.
-/
import Derived.Test.YtabclpffjpcejaaRtH
namespace Go.Proofs.Ytabclpffjpcejaa
open Go.RowKit Go.Maps
set_option linter.unusedVariables false
set_option maxRecDepth 100000

/-- A pointer to a table that no call made. -/
def NobT (w : World) (p : Value) : Prop := p = .pointer none ∨ ∃ g, p = .pointer (some ⟨g, 0, none⟩) ∧ w.heap[g]? = some (.cells #[.map none] 77 (0, 0))
theorem NobT.on {w w1 : World} {p : Value} (h : NobT w p) (hB : Below w.heap.size w w1) : NobT w1 p := by
  rcases h with h | ⟨g, h, hr⟩
  · exact .inl h
  · exact .inr ⟨g, h, (hB.block _ (Array.getElem?_eq_some_iff.1 hr).1).trans hr⟩
set_option maxHeartbeats 400000 in
theorem madeT_nob (p : Value) (w : World) (h : NobT w p) : Calls Try.prog 43 #[p] w fun e w' => e = .returned (.bool false) ∧ w' = w := by
  rcases h with rfl | ⟨g, rfl, hr⟩
  · go_enter Try.func43, Try.ntmps43
    go_wp2_with fail
    go_ret
    exact ⟨rfl, rfl⟩
  · have c0 := (cell_of_row _ g 0 _ _ _ hr).trans rfl
    have hm := run_neq_map_nil (P := Try.prog) w 75 3 66 none Try.underlying75
    clear hr
    go_enter Try.func43, Try.ntmps43
    go_wp2_with fail
    go_ret
    exact ⟨rfl, rfl⟩
set_option maxHeartbeats 400000 in
theorem Answered_nob (p x0 x1 : Value) (w : World) (h : NobT w p) : Calls Try.prog 30 #[p, x0, x1] w fun e w' => e = .returned (.int .i64 2) ∧ w' = w := by
  have M := Lib.hid (madeT_nob p w h)
  clear h
  go_enter Try.func30, Try.ntmps30
  go_wp2_with fail
  refine M.out.mono ?_
  rintro e w1 ⟨rfl, rfl⟩
  go_wp2_with fail
  go_ret
  exact ⟨rfl, rfl⟩
set_option maxHeartbeats 400000 in
theorem Failed_nob (p x0 : Value) (w : World) (h : NobT w p) : Calls Try.prog 28 #[p, x0] w fun e w' => e = .returned (.int .i64 2) ∧ w' = w := by
  have M := Lib.hid (madeT_nob p w h)
  clear h
  go_enter Try.func28, Try.ntmps28
  go_wp2_with fail
  refine M.out.mono ?_
  rintro e w1 ⟨rfl, rfl⟩
  go_wp2_with fail
  go_ret
  exact ⟨rfl, rfl⟩
set_option maxHeartbeats 400000 in
theorem Of_nob (p x0 : Value) (w : World) (h : NobT w p) : Calls Try.prog 32 #[p, x0] w fun e w' => e = .returned (.complex .f64 0 0) ∧ w' = w := by
  have M := Lib.hid (madeT_nob p w h)
  clear h
  go_enter Try.func32, Try.ntmps32
  go_wp2_with fail
  refine M.out.mono ?_
  rintro e w1 ⟨rfl, rfl⟩
  go_wp2_with fail
  go_ret
  exact ⟨rfl, rfl⟩
set_option maxHeartbeats 400000 in
theorem Best_nob (p : Value) (A : Option Addr) (n c : Nat) (d : Int) (w : World) (h : NobT w p) : Calls Try.prog 34 #[p, .slice A n c, .int .i64 d] w fun e w' => e = .returned (.tuple #[.int .i64 0, .bool false]) ∧ w' = w := by
  have M := Lib.hid (madeT_nob p w h)
  clear h
  go_enter Try.func34, Try.ntmps34
  go_wp2_with fail
  refine M.out.mono ?_
  rintro e w1 ⟨rfl, rfl⟩
  go_wp2_with fail
  go_ret2
  exact ⟨rfl, rfl⟩
set_option maxHeartbeats 1000000 in
set_option maxRecDepth 100000 in
theorem RateNobody_any (x0 x1 : Int) (w : World) : Calls Try.prog 11 #[.agg #[.int .i64 x0, .int .i64 x1]] w fun e w' => e = .returned (.bool true) ∧ Below w.heap.size w w' := by
  obtain ⟨W0, hW0⟩ : ∃ W0, W0 = w.alloc (.cells #[.int .i64 x0, .int .i64 x1] 63) := ⟨_, rfl⟩
  obtain ⟨W1, hW1⟩ : ∃ W1, W1 = W0.alloc (.cells #[.map none] 77) := ⟨_, rfl⟩
  obtain ⟨W, hW⟩ : ∃ W, W = W1.alloc (.cells #[.pointer none, .pointer (some ⟨w.heap.size + 1, 0, none⟩)] 56) := ⟨_, rfl⟩
  have z0 : W0.heap.size = w.heap.size + 1 := by rw [hW0]; simp
  have z1 : W1.heap.size = w.heap.size + 2 := by rw [hW1]; simp [z0]
  have z2 : W.heap.size = w.heap.size + 3 := by rw [hW]; simp [z1]
  have r0 : W.heap[w.heap.size]? = some (.cells #[.int .i64 x0, .int .i64 x1] 63 (0, 0)) := by rw [hW, hW1, hW0]; exact row_old _ (row_old _ (row_new _ rfl))
  have r1 : W.heap[w.heap.size + 1]? = some (.cells #[.map none] 77 (0, 0)) := by rw [hW, hW1]; exact row_old _ (row_new _ z0.symm)
  have r2 : W.heap[w.heap.size + 2]? = some (.cells #[.pointer none, .pointer (some ⟨w.heap.size + 1, 0, none⟩)] 56 (0, 0)) := by rw [hW]; exact row_new _ z1.symm
  have bW : Below w.heap.size w W := by rw [hW, hW1, hW0]; exact Below.alloc (Below.alloc (Below.alloc (Below.refl _ _) (Nat.le_refl _) _) (by simp) _) (by simp; omega) _
  have hWW : W = ((w.alloc (.cells #[.int .i64 x0, .int .i64 x1] 63)).alloc (.cells #[.map none] 77)).alloc (.cells #[.pointer none, .pointer (some ⟨w.heap.size + 1, 0, none⟩)] 56) := by rw [hW, hW1, hW0]
  have NB : ∀ V, Below W.heap.size W V → ∀ p, (p = .pointer none ∨ p = .pointer (some ⟨w.heap.size + 1, 0, none⟩)) → NobT V p := by
    intro V hB p hp
    rcases hp with rfl | rfl
    · exact .inl rfl
    · exact .inr ⟨_, rfl, (hB.block _ (by omega)).trans r1⟩
  have HNB := Lib.hid NB
  have HC : Hid (∀ V, Below W.heap.size W V → V.cell? ⟨w.heap.size, 0, none⟩ = some (.int .i64 x0) ∧ V.cell? ⟨w.heap.size, 1, none⟩ = some (.int .i64 x1) ∧ V.cell? ⟨w.heap.size + 2, 0, none⟩ = some (.pointer none) ∧ V.cell? ⟨w.heap.size + 2, 1, none⟩ = some (.pointer (some ⟨w.heap.size + 1, 0, none⟩))) := Lib.hid (by
    intro V hB
    have q0 := (hB.block _ (show w.heap.size < W.heap.size by omega)).trans r0
    have q2 := (hB.block _ (show w.heap.size + 2 < W.heap.size by omega)).trans r2
    exact ⟨(cell_of_row _ _ 0 _ _ _ q0).trans rfl, (cell_of_row _ _ 1 _ _ _ q0).trans rfl, (cell_of_row _ _ 0 _ _ _ q2).trans rfl, (cell_of_row _ _ 1 _ _ _ q2).trans rfl⟩)
  have AB := Lib.hid (fun p V h => Answered_nob p (.int .i64 x0) (.int .i64 x1) V h)
  have FB := Lib.hid (fun p V h => Failed_nob p (.int .i64 x0) V h)
  have OB := Lib.hid (fun p V h => Of_nob p (.int .i64 x0) V h)
  have BB := Lib.hid (fun p A n c V h => Best_nob p A n c 0 V h)
  have HW := Lib.hid hWW
  have BW := Lib.hid bW
  obtain ⟨c0, c1, c2, c3⟩ := HC.out W (Below.refl _ _)
  have hcp : (binOp .neq 66 (.complex .f64 0 0) (.complex .f64 0 0)) = (binOp .neq 66 (.complex .f64 0 0) (.complex .f64 0 0)) := rfl
  have e1 : (FloatKind.f64.format.order 0 0 == some .eq) = true := by kernel_rfl
  clear r0 r1 r2 z0 z1 z2 hW hW1 hW0 NB hWW bW hcp
  go_enter Try.func11, Try.ntmps11
  go_wp2_with fail
  rw [← HW.out]
  refine wp_loop_rounds 3 ?_
  rw [rounds_succ]
  go_wp2_with fail
  obtain ⟨V1, hV1⟩ : ∃ V1, V1 = W.alloc (.cells #[.int .i64 x0] 3) := ⟨_, rfl⟩
  rw [← hV1]
  have bV1 : Below W.heap.size W V1 := by rw [hV1]; exact Below.alloc (Below.refl _ _) (Nat.le_refl _) _
  clear hV1
  obtain ⟨d0, d1, d2, d3⟩ := HC.out V1 bV1
  refine (BB.out _ _ _ _ V1 (HNB.out V1 bV1 _ (.inl rfl))).mono ?_
  rintro e w1 ⟨rfl, hw⟩
  rw [hw]
  clear hw
  go_wp2_with fail
  refine (AB.out _ V1 (HNB.out V1 bV1 _ (.inl rfl))).mono ?_
  rintro e w1 ⟨rfl, hw⟩
  rw [hw]
  clear hw
  go_wp2_with fail
  refine (FB.out _ V1 (HNB.out V1 bV1 _ (.inl rfl))).mono ?_
  rintro e w1 ⟨rfl, hw⟩
  rw [hw]
  clear hw
  go_wp2_with fail
  refine (OB.out _ V1 (HNB.out V1 bV1 _ (.inl rfl))).mono ?_
  rintro e w1 ⟨rfl, hw⟩
  rw [hw]
  clear hw
  go_wp2_with fail
  rw [rounds_succ]
  clear d2 c0 c1 c2 c3
  go_wp2_with fail
  obtain ⟨V2, hV2⟩ : ∃ V2, V2 = V1.alloc (.cells #[.int .i64 x0] 3) := ⟨_, rfl⟩
  rw [← hV2]
  have bV2 : Below W.heap.size W V2 := by rw [hV2]; exact Below.alloc bV1 bV1.size _
  clear hV2
  obtain ⟨f0, f1, f2, f3⟩ := HC.out V2 bV2
  refine (BB.out _ _ _ _ V2 (HNB.out V2 bV2 _ (.inr rfl))).mono ?_
  rintro e w1 ⟨rfl, hw⟩
  rw [hw]
  clear hw
  go_wp2_with fail
  refine (AB.out _ V2 (HNB.out V2 bV2 _ (.inr rfl))).mono ?_
  rintro e w1 ⟨rfl, hw⟩
  rw [hw]
  clear hw
  go_wp2_with fail
  refine (FB.out _ V2 (HNB.out V2 bV2 _ (.inr rfl))).mono ?_
  rintro e w1 ⟨rfl, hw⟩
  rw [hw]
  clear hw
  go_wp2_with fail
  refine (OB.out _ V2 (HNB.out V2 bV2 _ (.inr rfl))).mono ?_
  rintro e w1 ⟨rfl, hw⟩
  rw [hw]
  clear hw
  go_wp2_with fail
  rw [rounds_succ]
  clear d0 d1 d3 f0 f1 f2 f3 AB FB OB BB
  have N12 : Nts (V2.alloc (.cells #[.int .i64 1, .int .i64 2] 3)) (some ⟨V2.heap.size, 0, none⟩) [1, 2] := fun _ => ⟨_, _, rfl, fun j hj => by
    match j, hj with
    | 0, _ => exact (cell_of_row _ _ 0 _ _ _ (row_new _ rfl)).trans rfl
    | 1, _ => exact (cell_of_row _ _ 1 _ _ _ (row_new _ rfl)).trans rfl⟩
  have RD := Lib.hid (RateDraws_any _ _ [1, 2] 2 2 3 rfl N12 (fun a ha => by simp at ha; rcases ha with rfl | rfl <;> exact ⟨by omega, by omega⟩) (by omega) (by omega) ⟨by omega, by omega⟩)
  have BF := Lib.hid (Below.trans BW.out (bV2.mono BW.out.size))
  have hs2 := BF.out.size
  clear N12 bV1 bV2 HC HNB HW BW
  go_wp2_with fail
  refine RD.out.mono ?_
  rintro e w1 ⟨rfl, b1⟩
  have HF := Lib.hid (Below.trans BF.out ((Below.trans (Below.alloc (Below.refl _ _) (Nat.le_refl _) _) (b1.mono (by simp))).mono hs2))
  clear b1 RD
  go_wp2_with fail
  go_ret
  exact ⟨rfl, HF.out⟩
end Go.Proofs.Ytabclpffjpcejaa
