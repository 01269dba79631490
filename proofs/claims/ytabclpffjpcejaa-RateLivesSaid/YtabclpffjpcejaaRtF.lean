/-
  Whole numbers as floats: a sum, a difference, an order; an eighth and a half, and their whole parts.
-/
import Derived.Laws.FloatArith
import Derived.KernelRfl
namespace Go.Proofs.Ytabclpffjpcejaa
set_option linter.unusedVariables false
set_option maxRecDepth 100000

/-- The bits of a whole number. -/
def Fl (n : Nat) : Nat := Ieee.double.nearest false n 0
/-- How many digits stand behind its point. -/
def Fq (n : Nat) : Nat := if n = 0 then 1074 else 52 - n.log2
/-- What holds for all below 2^d, by halves. -/
def all2 (p : Nat → Bool) : Nat → Nat → Bool
  | 0, i => p i
  | d + 1, i => all2 p d i && all2 p d (i + 2 ^ d)
theorem all2_spec (p : Nat → Bool) (d : Nat) : ∀ i, all2 p d i = true → ∀ n, i ≤ n → n < i + 2 ^ d → p n = true := by
  induction d with
  | zero => intro i h n h1 h2; obtain rfl : n = i := by simp at h2; omega
            exact h
  | succ d ih =>
    intro i h n h1 h2
    rw [all2, Bool.and_eq_true] at h
    have e : 2 ^ (d + 1) = 2 ^ d + 2 ^ d := by omega
    by_cases hn : n < i + 2 ^ d
    · exact ih _ h.1 n h1 hn
    · exact ih _ h.2 n (by omega) (by omega)
def readOk (n : Nat) : Bool := Ieee.double.read (Fl n) == .number false (n * 2 ^ Fq n) (-(Fq n : Int))
theorem readAll : all2 readOk 13 0 = true := by kernel_rfl
theorem readFl {n : Nat} (h : n < 8192) : Ieee.double.read (Fl n) = .number false (n * 2 ^ Fq n) (-(Fq n : Int)) := by
  have := all2_spec readOk 13 0 readAll n (by omega) (by simpa using h)
  unfold readOk at this
  exact of_decide_eq_true (by simpa using this)
theorem Fq_le (n : Nat) : Fq n ≤ 1074 := by unfold Fq; split <;> omega

theorem cut_zero (neg : Bool) (n : Nat) : Ieee.Toward.even.cut neg n 0 = n := by
  unfold Ieee.Toward.cut
  simp [Nat.mod_one]
theorem cut_exact (neg : Bool) (m d : Nat) (hm : m ≠ 0) : Ieee.Toward.even.cut neg (m * 2 ^ d) d = m := by
  have hl : d ≤ (m * 2 ^ d).log2 + 2 := by
    have : d ≤ (m * 2 ^ d).log2 := (Nat.le_log2 (by have := Nat.two_pow_pos d; exact Nat.mul_ne_zero hm (by omega))).2 (Nat.le_mul_of_pos_left _ (by omega))
    omega
  unfold Ieee.Toward.cut
  have hp := Nat.two_pow_pos d
  have e : (1 <<< min d ((m * 2 ^ d).log2 + 2)) = 2 ^ d := by rw [Nat.min_eq_left hl, Nat.shiftLeft_eq, Nat.one_mul]
  simp only [e]
  have h1 : m * 2 ^ d % 2 ^ d = 0 := Nat.mul_mod_left _ _
  have h2 : m * 2 ^ d / 2 ^ d = m := Nat.mul_div_cancel _ hp
  rw [h1, h2]
  have h3 : (2 ^ d < 2 * 0 || 2 ^ d == 2 * 0 && m % 2 == 1) = false := by
    have : ¬ (2 ^ d = 0) := by omega
    simp
  rw [h3]
  rfl
theorem log2_mul_pow (m d : Nat) (hm : m ≠ 0) : (m * 2 ^ d).log2 = m.log2 + d := by
  have hp := Nat.two_pow_pos d
  refine (Nat.log2_eq_iff (Nat.mul_ne_zero hm (by omega))).2 ⟨?_, ?_⟩
  · rw [Nat.pow_add]; exact Nat.mul_le_mul_right _ (Nat.log2_self_le hm)
  · rw [show m.log2 + d + 1 = (m.log2 + 1) + d by omega, Nat.pow_add]
    exact (Nat.mul_lt_mul_right hp).2 Nat.lt_log2_self
theorem nearest_scale (N Q : Nat) (hN : N < 2 ^ 53) (hQ : Q ≤ 1074) : Ieee.double.nearest false (N * 2 ^ Q) (-(Q : Int)) = Fl N := by
  unfold Fl
  by_cases h0 : N = 0
  · subst h0; rw [Nat.zero_mul]; unfold Ieee.Format.nearest; rw [if_pos rfl, if_pos rfl]
  · have hp := Nat.two_pow_pos Q
    have hne : N * 2 ^ Q ≠ 0 := Nat.mul_ne_zero h0 (by omega)
    have hL : N.log2 < 53 := (Nat.log2_lt h0).2 hN
    obtain ⟨L, hLe⟩ : ∃ L, L + N.log2 = 52 := ⟨52 - N.log2, by omega⟩
    have hlp : Ieee.double.leastPlace = -1074 := by kernel_rfl
    have hfb : Ieee.double.fractionBits = 52 := rfl
    unfold Ieee.Format.nearest
    rw [if_neg hne, if_neg h0]
    simp only [log2_mul_pow N Q h0, hlp, hfb]
    have e1 : max (-(Q : Int) + ((N.log2 + Q : Nat) : Int) - (52 : Nat)) (-1074) = -(L : Int) := by omega
    have e2 : max ((0 : Int) + (N.log2 : Int) - (52 : Nat)) (-1074) = -(L : Int) := by omega
    rw [e1, e2]
    have e3 : ((0 : Int) - -(L : Int)).toNat = L := by omega
    have e4 : (-(L : Int) - 0).toNat = 0 := by omega
    rw [e3, e4, cut_zero]
    congr 2
    by_cases hQL : L ≤ Q
    · have e5 : (-(Q : Int) - -(L : Int)).toNat = 0 := by omega
      have e6 : (-(L : Int) - -(Q : Int)).toNat = Q - L := by omega
      rw [e5, e6, Nat.shiftLeft_zero, Nat.shiftLeft_eq]
      have e7 : N * 2 ^ Q = N * 2 ^ L * 2 ^ (Q - L) := by rw [Nat.mul_assoc, ← Nat.pow_add, Nat.add_sub_cancel' hQL]
      rw [e7, cut_exact _ _ _ (Nat.mul_ne_zero h0 (by have := Nat.two_pow_pos L; omega))]
    · have e5 : (-(Q : Int) - -(L : Int)).toNat = L - Q := by omega
      have e6 : (-(L : Int) - -(Q : Int)).toNat = 0 := by omega
      rw [e5, e6, cut_zero, Nat.shiftLeft_eq, Nat.shiftLeft_eq, Nat.mul_assoc, ← Nat.pow_add, Nat.add_sub_cancel' (by omega)]
theorem signed_scale (a q Q : Nat) (h : q ≤ Q) : Ieee.signed false (a * 2 ^ q) (-(q : Int) - -(Q : Int)).toNat = ((a * 2 ^ Q : Nat) : Int) := by
  unfold Ieee.signed
  have e : (-(q : Int) - -(Q : Int)).toNat = Q - q := by omega
  rw [e, Nat.shiftLeft_eq, Nat.mul_assoc, ← Nat.pow_add, Nat.add_sub_cancel' h]
  rfl
theorem signed_scale_neg (a q Q : Nat) (h : q ≤ Q) : Ieee.signed true (a * 2 ^ q) (-(q : Int) - -(Q : Int)).toNat = -((a * 2 ^ Q : Nat) : Int) := by
  unfold Ieee.signed
  have e : (-(q : Int) - -(Q : Int)).toNat = Q - q := by omega
  rw [e, Nat.shiftLeft_eq, Nat.mul_assoc, ← Nat.pow_add, Nat.add_sub_cancel' h]
  rfl
theorem min_neg (p q : Nat) : min (-(p : Int)) (-(q : Int)) = -((max p q : Nat) : Int) := by omega
theorem Fl_add {a b : Nat} (ha : a < 8192) (hb : b < 8192) : floatBits .add .f64 (Fl a) (Fl b) = some (Fl (a + b)) := by
  show Ieee.double.add (Fl a) (Fl b) = _
  unfold Ieee.Format.add
  rw [readFl ha, readFl hb]
  unfold Ieee.Datum.sum
  simp only [min_neg]
  rw [signed_scale a _ _ (Nat.le_max_left _ _), signed_scale b _ _ (Nat.le_max_right _ _)]
  have e : ((a * 2 ^ max (Fq a) (Fq b) : Nat) : Int) + ((b * 2 ^ max (Fq a) (Fq b) : Nat) : Int) = (((a + b) * 2 ^ max (Fq a) (Fq b) : Nat) : Int) := by rw [Nat.add_mul]; omega
  rw [e]
  have hs : (if (((a + b) * 2 ^ max (Fq a) (Fq b) : Nat) : Int) = 0 then (false && false) else decide ((((a + b) * 2 ^ max (Fq a) (Fq b) : Nat) : Int) < 0)) = false := by
    split
    · rfl
    · exact decide_eq_false (by omega)
  rw [hs]
  simp only [Option.map_some, Int.natAbs_natCast]
  exact congrArg some (nearest_scale _ _ (by omega) (by have := Fq_le a; have := Fq_le b; omega))
theorem Fl_sub {a b : Nat} (ha : a < 8192) (hb : b ≤ a) : floatBits .sub .f64 (Fl a) (Fl b) = some (Fl (a - b)) := by
  show Ieee.double.sub (Fl a) (Fl b) = _
  unfold Ieee.Format.sub
  rw [readFl ha, readFl (by omega : b < 8192)]
  unfold Ieee.Datum.opposite Ieee.Datum.sum
  simp only [min_neg, Bool.not_false]
  rw [signed_scale a _ _ (Nat.le_max_left _ _), signed_scale_neg b _ _ (Nat.le_max_right _ _)]
  obtain ⟨c, rfl⟩ : ∃ c, a = c + b := ⟨a - b, by omega⟩
  have e : ((((c + b) * 2 ^ max (Fq (c + b)) (Fq b) : Nat)) : Int) + -((b * 2 ^ max (Fq (c + b)) (Fq b) : Nat) : Int) = ((c * 2 ^ max (Fq (c + b)) (Fq b) : Nat) : Int) := by rw [Nat.add_mul]; omega
  rw [e]
  have hs : (if ((c * 2 ^ max (Fq (c + b)) (Fq b) : Nat) : Int) = 0 then (false && true) else decide (((c * 2 ^ max (Fq (c + b)) (Fq b) : Nat) : Int) < 0)) = false := by
    split
    · rfl
    · exact decide_eq_false (by omega)
  rw [hs, Nat.add_sub_cancel]
  simp only [Option.map_some, Int.natAbs_natCast]
  exact congrArg some (nearest_scale _ _ (by omega) (by have := Fq_le (c + b); have := Fq_le b; omega))
theorem Fl_order {a b : Nat} (ha : a < 8192) (hb : b < 8192) : FloatKind.f64.format.order (Fl a) (Fl b) = some (compare a b) := by
  show Ieee.double.order (Fl a) (Fl b) = _
  unfold Ieee.Format.order
  rw [readFl ha, readFl hb]
  unfold Ieee.Datum.order
  simp only [min_neg]
  rw [signed_scale a _ _ (Nat.le_max_left _ _), signed_scale b _ _ (Nat.le_max_right _ _)]
  congr 1
  have hp := Nat.two_pow_pos (max (Fq a) (Fq b))
  generalize 2 ^ max (Fq a) (Fq b) = P at hp
  rcases Nat.lt_trichotomy a b with h | h | h
  · have h1 : a * P < b * P := (Nat.mul_lt_mul_right hp).2 h
    rw [Nat.compare_eq_lt.2 h]
    exact Int.compare_eq_lt.2 (by omega)
  · subst h
    rw [Nat.compare_eq_eq.2 rfl]
    exact Int.compare_eq_eq.2 rfl
  · have h1 : b * P < a * P := (Nat.mul_lt_mul_right hp).2 h
    rw [Nat.compare_eq_gt.2 h]
    exact Int.compare_eq_gt.2 (by omega)
theorem Fl_int {n : Nat} (h : n < 8192) : floatToIntVal .f64 (Fl n) .i64 = some (n : Int) := by
  unfold floatToIntVal
  show (match (Ieee.double.read (Fl n)).toInt .zero with | some n => _ | none => _) = _
  rw [readFl h]
  have e : (Ieee.Datum.number false (n * 2 ^ Fq n) (-(Fq n : Int))).toInt .zero = some (n : Int) := by
    unfold Ieee.Datum.toInt Ieee.Datum.integral Ieee.signed
    have e1 : (-(Fq n : Int)).toNat = 0 := by omega
    have e2 : (- -(Fq n : Int)).toNat = Fq n := by omega
    simp only [e1, e2, Nat.shiftLeft_zero]
    unfold Ieee.Toward.cut
    by_cases h0 : n = 0
    · subst h0; simp
    · have hl : Fq n ≤ (n * 2 ^ Fq n).log2 + 2 := by rw [log2_mul_pow _ _ h0]; omega
      have hp := Nat.two_pow_pos (Fq n)
      simp only [Nat.min_eq_left hl, Nat.shiftLeft_eq, Nat.one_mul, Nat.mul_div_cancel _ hp]
      simp
  rw [e]
  have h1 : (IntKind.i64.min : Int) ≤ 0 := by decide
  have h2 : (8192 : Int) ≤ IntKind.i64.max := by decide
  show (if IntKind.i64.min ≤ (n : Int) ∧ (n : Int) ≤ IntKind.i64.max then some (n : Int) else none) = _
  rw [if_pos ⟨by omega, by omega⟩]
theorem Fl_of_int (n : Nat) : floatOfInt .f64 (n : Int) = Fl n := by
  show FloatKind.f64.format.write (.number (decide ((n : Int) < 0)) (n : Int).natAbs 0) = _
  rw [decide_eq_false (by omega), Int.natAbs_natCast]
  rfl
end Go.Proofs.Ytabclpffjpcejaa
