/-
  The document's own small functions of layer 2 by contracts: short, bit, Can.
-/
import Derived.Test.YtigpkcpdccgnfaaDoorHdA
namespace Go.Proofs.YtigpkcpdccgnfaaDoor
open Go.RowKit

set_option maxHeartbeats 400000 in
theorem short_any (n : Int) (w : World) :
    Calls Tryd.prog 19 #[.int .i64 n] w fun e w' => e = .returned (.bool (decide (0 ≤ n) && decide (n ≤ 65535))) ∧ w = w' := by
  by_cases h : 0 ≤ n
  · go_enter Tryd.func19, Tryd.ntmps19
    go_wp2
    go_ret
    exact ⟨by simp [h], rfl⟩
  · go_enter Tryd.func19, Tryd.ntmps19
    go_wp2
    go_ret
    exact ⟨by simp [h]; omega, rfl⟩

theorem short_yes (n : Int) (w : World) (h : 0 ≤ n ∧ n ≤ 65535) : Calls Tryd.prog 19 #[.int .i64 n] w fun e w' => e = .returned (.bool true) ∧ w = w' :=
  (short_any n w).mono fun _ _ ⟨he, hw⟩ => ⟨by rw [he]; simp [h.1, h.2], hw⟩
theorem short_no (n : Int) (w : World) (h : ¬ (0 ≤ n ∧ n ≤ 65535)) : Calls Tryd.prog 19 #[.int .i64 n] w fun e w' => e = .returned (.bool false) ∧ w = w' :=
  (short_any n w).mono fun _ _ ⟨he, hw⟩ => ⟨by rw [he]; simp; omega, hw⟩

set_option maxHeartbeats 400000 in
theorem bit_any (b : Bool) (k : Nat) (w : World) (h1 : k ≤ 15) :
    Calls Tryd.prog 17 #[.bool b, .int .i64 k] w fun e w' => e = .returned (.int .i64 (bi b * ((2 ^ k : Nat) : Int))) ∧ w = w' := by
  have hw : wrap64 (((2 ^ k : Nat) : Int)) = ((2 ^ k : Nat) : Int) := by
    have hp : (2 ^ k : Nat) ≤ 2 ^ 15 := Nat.pow_le_pow_right (by decide) h1
    generalize 2 ^ k = m at hp
    exact IntWalk.wrap64_in _ ⟨by omega, by omega⟩
  cases b
  · go_enter Tryd.func17, Tryd.ntmps17
    go_wp2
    go_ret
    exact ⟨by simp [bi], rfl⟩
  · go_enter Tryd.func17, Tryd.ntmps17
    go_wp2
    go_ret
    exact ⟨by simp at hw; simp [bi, hw], rfl⟩

set_option maxHeartbeats 800000 in
theorem Can_any (i o c n0 n1 n2 n3 : Int) (r aa tc rd ra : Bool) (w : World) :
    Calls Tryd.prog 14 #[hdV i r o aa tc rd ra c, ctV n0 n1 n2 n3] w fun e w' => e = .returned (.bool (canH i o c n0 n1 n2 n3)) ∧ Below w.heap.size w w' := by
  have i0 : ∀ w : World, (Instr.index 24 (ctV n0 n1 n2 n3) (.int .i64 0)).run Tryd.prog w = .ok (.int .i64 n0) w := fun _ => by kernel_rfl
  have i1 : ∀ w : World, (Instr.index 24 (ctV n0 n1 n2 n3) (.int .i64 1)).run Tryd.prog w = .ok (.int .i64 n1) w := fun _ => by kernel_rfl
  have i2 : ∀ w : World, (Instr.index 24 (ctV n0 n1 n2 n3) (.int .i64 2)).run Tryd.prog w = .ok (.int .i64 n2) w := fun _ => by kernel_rfl
  have i3 : ∀ w : World, (Instr.index 24 (ctV n0 n1 n2 n3) (.int .i64 3)).run Tryd.prog w = .ok (.int .i64 n3) w := fun _ => by kernel_rfl
  go_enter Tryd.func14, Tryd.ntmps14
  go_wp2
  go_loop [8] (fun v => ∃ k : Nat, k ≤ 4 ∧ v = .int .i64 k ∧ (0 < k → 0 ≤ n0 ∧ n0 ≤ 65535) ∧ (1 < k → 0 ≤ n1 ∧ n1 ≤ 65535) ∧ (2 < k → 0 ≤ n2 ∧ n2 ≤ 65535) ∧ (3 < k → 0 ≤ n3 ∧ n3 ≤ 65535)) (fun v => 4 - (intOf v).toNat)
  case atStart => exact ⟨0, by omega, rfl, by omega, by omega, by omega, by omega⟩
  case round =>
    obtain ⟨k, hk, rfl, a0, a1, a2, a3⟩ := hrel
    have hk5 : k = 0 ∨ k = 1 ∨ k = 2 ∨ k = 3 ∨ k = 4 := by omega
    rcases hk5 with rfl | rfl | rfl | rfl | rfl
    · by_cases hf : 0 ≤ n0 ∧ n0 ≤ 65535
      · go_wp2_with (go_at_call 19; refine (short_yes _ _ hf).mono ?_; rintro e w' ⟨rfl, rfl⟩)
        exact ⟨⟨1, by omega, rfl, by omega, by omega, by omega, by omega⟩, by simp [intOf]⟩
      · go_wp2_with (go_at_call 19; refine (short_no _ _ hf).mono ?_; rintro e w' ⟨rfl, rfl⟩)
        go_ret
        exact ⟨ret_bool (canH_false (by omega)).symm, by go_grown⟩
    · by_cases hf : 0 ≤ n1 ∧ n1 ≤ 65535
      · go_wp2_with (go_at_call 19; refine (short_yes _ _ hf).mono ?_; rintro e w' ⟨rfl, rfl⟩)
        exact ⟨⟨2, by omega, rfl, by omega, by omega, by omega, by omega⟩, by simp [intOf]⟩
      · go_wp2_with (go_at_call 19; refine (short_no _ _ hf).mono ?_; rintro e w' ⟨rfl, rfl⟩)
        go_ret
        exact ⟨ret_bool (canH_false (by omega)).symm, by go_grown⟩
    · by_cases hf : 0 ≤ n2 ∧ n2 ≤ 65535
      · go_wp2_with (go_at_call 19; refine (short_yes _ _ hf).mono ?_; rintro e w' ⟨rfl, rfl⟩)
        exact ⟨⟨3, by omega, rfl, by omega, by omega, by omega, by omega⟩, by simp [intOf]⟩
      · go_wp2_with (go_at_call 19; refine (short_no _ _ hf).mono ?_; rintro e w' ⟨rfl, rfl⟩)
        go_ret
        exact ⟨ret_bool (canH_false (by omega)).symm, by go_grown⟩
    · by_cases hf : 0 ≤ n3 ∧ n3 ≤ 65535
      · go_wp2_with (go_at_call 19; refine (short_yes _ _ hf).mono ?_; rintro e w' ⟨rfl, rfl⟩)
        exact ⟨⟨4, by omega, rfl, by omega, by omega, by omega, by omega⟩, by simp [intOf]⟩
      · go_wp2_with (go_at_call 19; refine (short_no _ _ hf).mono ?_; rintro e w' ⟨rfl, rfl⟩)
        go_ret
        exact ⟨ret_bool (canH_false (by omega)).symm, by go_grown⟩
    · by_cases hf : 0 ≤ i ∧ i ≤ 65535
      · go_wp2_with (go_at_call 19; refine (short_yes _ _ hf).mono ?_; rintro e w' ⟨rfl, rfl⟩)
        all_goals first
          | (go_ret; exact ⟨ret_bool (canH_false (by omega)).symm, by go_grown⟩)
          | (go_ret; exact ⟨ret_bool (canH_iff (by omega)), by go_grown⟩)
      · go_wp2_with (go_at_call 19; refine (short_no _ _ hf).mono ?_; rintro e w' ⟨rfl, rfl⟩)
        go_ret
        exact ⟨ret_bool (canH_false (by omega)).symm, by go_grown⟩

end Go.Proofs.YtigpkcpdccgnfaaDoor
