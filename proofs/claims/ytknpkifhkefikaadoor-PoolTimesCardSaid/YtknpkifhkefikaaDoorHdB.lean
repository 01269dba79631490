/-
  Plain arithmetic for the header: a bit's place in a number, the flags' word, two bytes of a number.
-/
import Derived.WalkKit
import Derived.WalkLawsBesides
namespace Go.Proofs.YtknpkifhkefikaaDoor
open Go.RowKit

def bi (b : Bool) : Int := if b then 1 else 0
theorem bi_true : bi true = 1 := rfl
theorem bi_false : bi false = 0 := rfl
theorem bi_bd (b : Bool) : 0 ≤ bi b ∧ bi b ≤ 1 := by cases b <;> simp [bi]

theorem wraps_i64 (n : Int) (h₀ : 0 ≤ n) (h₁ : n < 2 ^ 63) : IntKind.i64.wrap n = n := by rw [IntKind.wrap_i64]; omega
theorem or_join (i : Nat) (hi : 2 ^ i < (9223372036854775808 : Int)) (x y : Int) (h0 : 0 ≤ x) (h1 : x < 9223372036854775808) (hx : x % 2 ^ i = 0) (hy0 : 0 ≤ y) (hy : y < 2 ^ i) : bits .or .i64 x y = x + y :=
  bits_join .i64 63 (by decide) wraps_i64 i x y h0 hx (by omega) hy0 hy (by omega)
theorem or256 (x y : Int) (hx : 0 ≤ x ∧ x ≤ 255) (hy : 0 ≤ y ∧ y ≤ 255) : bits .or .i64 (x * 256) y = x * 256 + y :=
  or_join 8 (by decide) _ _ (by omega) (by omega) (by omega) (by omega) (by omega)
theorem or2048 (x y : Int) (hx : 0 ≤ x ∧ x ≤ 15) (hy : 0 ≤ y ∧ y ≤ 15) : bits .or .i64 (x * 2048) y = x * 2048 + y :=
  or_join 11 (by decide) _ _ (by omega) (by omega) (by omega) (by omega) (by omega)

theorem and_nat (a b : Nat) (ha : a < 9223372036854775808) (hb : b < 9223372036854775808) : bits .and .i64 (a : Int) (b : Int) = ((a &&& b : Nat) : Int) := (bits_nat .i64 63 (by decide) wraps_i64 a b (by omega) (by omega)).1
theorem or_nat (a b : Nat) (ha : a < 9223372036854775808) (hb : b < 9223372036854775808) : bits .or .i64 (a : Int) (b : Int) = ((a ||| b : Nat) : Int) := (bits_nat .i64 63 (by decide) wraps_i64 a b (by omega) (by omega)).2

theorem nat_and_bit (a i : Nat) : a &&& 2 ^ i = 2 ^ i * (a / 2 ^ i % 2) := by
  apply Nat.eq_of_testBit_eq
  intro j
  rw [Nat.testBit_and, Nat.testBit_two_pow]
  have e : a / 2 ^ i % 2 = (a.testBit i).toNat := by
    rw [Nat.testBit_eq_decide_div_mod_eq]
    rcases Nat.mod_two_eq_zero_or_one (a / 2 ^ i) with h | h <;> simp [h]
  rw [e]
  cases hb : a.testBit i
  · simp
    intro h; rintro rfl; simp [hb] at h
  · simp [Nat.testBit_two_pow]
    intro h; subst h; exact hb
theorem and_bit (i : Nat) (hi : 2 ^ i < 9223372036854775808) (x : Int) (h0 : 0 ≤ x) (h1 : x < 9223372036854775808) : bits .and .i64 x ((2 ^ i : Nat) : Int) = 2 ^ i * (x / 2 ^ i % 2) := by
  obtain ⟨a, rfl⟩ := Int.eq_ofNat_of_zero_le h0
  rw [and_nat a _ (by omega) hi, nat_and_bit]
  simp
theorem nat_or_bit (a i : Nat) (h : a / 2 ^ i % 2 = 0) : a ||| 2 ^ i = a + 2 ^ i := by
  have hp : 2 ^ (i + 1) = 2 * 2 ^ i := by rw [Nat.pow_succ, Nat.mul_comm]
  have hq := Nat.div_add_mod a (2 ^ (i + 1))
  have hr : a % 2 ^ (i + 1) < 2 ^ i := by
    have h1 : a % 2 ^ (i + 1) / 2 ^ i = a / 2 ^ i % 2 := by rw [Nat.pow_succ, Nat.mod_mul_right_div_self]
    rw [h] at h1
    exact (Nat.div_eq_zero_iff_lt (Nat.two_pow_pos i)).1 h1
  have e1 := Nat.two_pow_add_eq_or_of_lt (show a % 2 ^ (i + 1) < 2 ^ (i + 1) by omega) (a / 2 ^ (i + 1))
  have e2 := Nat.two_pow_add_eq_or_of_lt hr 1
  have e3 := Nat.two_pow_add_eq_or_of_lt (show 2 ^ i * 1 + a % 2 ^ (i + 1) < 2 ^ (i + 1) by omega) (a / 2 ^ (i + 1))
  have e4 : a ||| 2 ^ i = 2 ^ (i + 1) * (a / 2 ^ (i + 1)) + (2 ^ i * 1 + a % 2 ^ (i + 1)) := by
    rw [e3, e2, Nat.mul_one]
    conv => lhs; rw [← hq, e1]
    rw [Nat.or_assoc, Nat.or_comm (2 ^ i)]
  omega
theorem or_bit (i : Nat) (hi : 2 ^ i < 9223372036854775808) (x : Int) (h0 : 0 ≤ x) (h1 : x < 9223372036854775808) (h : x / 2 ^ i % 2 = 0) : bits .or .i64 x ((2 ^ i : Nat) : Int) = x + 2 ^ i := by
  obtain ⟨a, rfl⟩ := Int.eq_ofNat_of_zero_le h0
  have h' : a / 2 ^ i % 2 = 0 := by exact_mod_cast h
  rw [or_nat a _ (by omega) hi, nat_or_bit a i h']
  simp

end Go.Proofs.YtknpkifhkefikaaDoor
