/-
  name.plain; the document's plain, digit.
-/
import Derived.Test.YtigpkcpdccgnfaaNmT
import Derived.Test.YtigpkcpdccgnfaaNmW
namespace Go.Proofs.Ytigpkcpdccgnfaa
open Go.RowKit
set_option linter.unusedVariables false

theorem plain_yes {b : Nat} (h : (97 ≤ b ∧ b ≤ 122) ∨ (65 ≤ b ∧ b ≤ 90) ∨ (48 ≤ b ∧ b ≤ 57) ∨ b = 45 ∨ b = 95 ∨ b = 42) : plainN b = true := decide_eq_true h
theorem plain_no {b : Nat} (h : ¬ ((97 ≤ b ∧ b ≤ 122) ∨ (65 ≤ b ∧ b ≤ 90) ∨ (48 ≤ b ∧ b ≤ 57) ∨ b = 45 ∨ b = 95 ∨ b = 42)) : plainN b = false := decide_eq_false h
theorem dig_yes {b : Nat} (h : 48 ≤ b ∧ b ≤ 57) : digN b = true := decide_eq_true h
theorem dig_no {b : Nat} (h : ¬ (48 ≤ b ∧ b ≤ 57)) : digN b = false := decide_eq_false h
theorem cases13 (b : Nat) : b < 42 ∨ b = 42 ∨ (43 ≤ b ∧ b ≤ 44) ∨ b = 45 ∨ (46 ≤ b ∧ b ≤ 47) ∨ (48 ≤ b ∧ b ≤ 57) ∨ (58 ≤ b ∧ b ≤ 64) ∨ (65 ≤ b ∧ b ≤ 90) ∨ (91 ≤ b ∧ b ≤ 94) ∨ b = 95 ∨ b = 96 ∨ (97 ≤ b ∧ b ≤ 122) ∨ 123 ≤ b := by omega

set_option maxHeartbeats 4000000 in
theorem plain_any (b : Nat) (hb : b < 256) (w : World) : Calls Try.prog 45 #[.int .u8 b] w fun e w' => e = .returned (.bool (plainN b)) ∧ w = w' := by
  rcases cases13 b with h | h | h | h | h | h | h | h | h | h | h | h | h
  all_goals
    try
      have e1 : ((b : Int) == 45) = false := beq_eq_false_iff_ne.2 (by omega)
      have e2 : ((b : Int) == 95) = false := beq_eq_false_iff_ne.2 (by omega)
      have e3 : ((b : Int) == 42) = false := beq_eq_false_iff_ne.2 (by omega)
    first
      | (have HP := Lib.hid (plain_yes (b := b) (by omega)))
      | (have HP := Lib.hid (plain_no (b := b) (by omega)))
    try subst h
    go_enter Try.func45, Try.ntmps45
    go_wp2_with fail
    go_ret
    exact ⟨by rw [HP.out]; first | rfl | (simp; omega), rfl⟩

set_option maxHeartbeats 4000000 in
theorem rplain_any (b : Nat) (hb : b < 256) (w : World) : Calls Try.prog 33 #[.int .u8 b] w fun e w' => e = .returned (.bool (plainN b)) ∧ w = w' := by
  rcases cases13 b with h | h | h | h | h | h | h | h | h | h | h | h | h
  all_goals
    try
      have e1 : ((b : Int) == 45) = false := beq_eq_false_iff_ne.2 (by omega)
      have e2 : ((b : Int) == 95) = false := beq_eq_false_iff_ne.2 (by omega)
      have e3 : ((b : Int) == 42) = false := beq_eq_false_iff_ne.2 (by omega)
    first
      | (have HP := Lib.hid (plain_yes (b := b) (by omega)))
      | (have HP := Lib.hid (plain_no (b := b) (by omega)))
    try subst h
    go_enter Try.func33, Try.ntmps33
    go_wp2_with fail
    go_ret
    exact ⟨by rw [HP.out]; first | rfl | (simp; omega), rfl⟩

theorem rdigit_any (b : Nat) (hb : b < 256) (w : World) : Calls Try.prog 34 #[.int .u8 b] w fun e w' => e = .returned (.bool (digN b)) ∧ w = w' := by
  have h : b < 48 ∨ (48 ≤ b ∧ b ≤ 57) ∨ 58 ≤ b := by omega
  rcases h with h | h | h
  all_goals
    first
      | (have HP := Lib.hid (dig_yes (b := b) (by omega)))
      | (have HP := Lib.hid (dig_no (b := b) (by omega)))
    go_enter Try.func34, Try.ntmps34
    go_wp2_with fail
    go_ret
    exact ⟨by rw [HP.out]; first | rfl | (simp; omega), rfl⟩
end Go.Proofs.Ytigpkcpdccgnfaa
