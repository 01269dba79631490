/-
  The check sum over plain numbers: bit by bit, byte by byte; it goes on byte by byte, and four neighbours turned turn it.
-/
import Derived.Test.YtkpnhbjdpbjfjaaDoorNmL
namespace Go.Proofs.YtkpnhbjdpbjfjaaDoor
set_option linter.unusedVariables false
set_option maxRecDepth 100000

def Poly : Nat := 0x82f63b78
/-- One bit of a nought is taken in. -/
def Z (x : Nat) : Nat := if x % 2 = 1 then (x / 2) ^^^ Poly else x / 2
/-- One bit of a byte is taken in, as the document has it. -/
def crcBit (c x i : Nat) : Nat := if ((c &&& 1) ^^^ ((x >>> i) &&& 1)) = 1 then (c >>> 1) ^^^ Poly else c >>> 1
def Zs : Nat → Nat → Nat
  | 0, x => x
  | n + 1, x => Z (Zs n x)
/-- The first n bits of a number are taken in. -/
def crcBits (c x : Nat) : Nat → Nat
  | 0 => c
  | n + 1 => crcBit (crcBits c x n) x n
def crcByte (c : Nat) (x : UInt8) : Nat := crcBits c x.toNat 8
def crcReg (c : Nat) (l : List UInt8) : Nat := l.foldl crcByte c
def crc (l : List UInt8) : Nat := crcReg 0xffffffff l ^^^ 0xffffffff

theorem xor_half (x y : Nat) : (x ^^^ y) / 2 = (x / 2) ^^^ (y / 2) := by
  apply Nat.eq_of_testBit_eq
  intro i
  simp only [Nat.testBit_xor, ← Nat.testBit_add_one]
theorem xor_odd (x y : Nat) : (x ^^^ y) % 2 = (x % 2 + y % 2) % 2 := by
  have h : ∀ z : Nat, z % 2 = (z.testBit 0).toNat := fun z => by
    rw [Nat.testBit_zero]
    rcases Nat.mod_two_eq_zero_or_one z with e | e <;> simp [e]
  rw [h (x ^^^ y), h x, h y, Nat.testBit_xor]
  cases x.testBit 0 <;> cases y.testBit 0 <;> rfl

theorem Z_xor (x y : Nat) : Z (x ^^^ y) = Z x ^^^ Z y := by
  unfold Z
  rw [xor_odd, xor_half]
  rcases Nat.mod_two_eq_zero_or_one x with e | e <;> rcases Nat.mod_two_eq_zero_or_one y with f | f <;> simp [e, f]
  · rw [Nat.xor_assoc]
  · rw [Nat.xor_assoc, Nat.xor_assoc, Nat.xor_comm Poly]
  · rw [Nat.xor_assoc, ← Nat.xor_assoc Poly, Nat.xor_comm Poly, Nat.xor_assoc (y / 2), Nat.xor_self, Nat.xor_zero]
theorem Zs_xor (n x y : Nat) : Zs n (x ^^^ y) = Zs n x ^^^ Zs n y := by
  induction n with
  | zero => rfl
  | succ n ih => simp only [Zs, ih, Z_xor]
theorem Z_lt {x : Nat} (h : x < 2 ^ 32) : Z x < 2 ^ 32 := by
  unfold Z
  have : x / 2 < 2 ^ 32 := by omega
  split
  · exact Nat.xor_lt_two_pow this (by decide)
  · exact this
theorem Zs_lt {n x : Nat} (h : x < 2 ^ 32) : Zs n x < 2 ^ 32 := by
  induction n with
  | zero => exact h
  | succ n ih => exact Z_lt ih
theorem xor_zero_eq {x y : Nat} (h : x ^^^ y = 0) : x = y := by
  have : x ^^^ y ^^^ y = 0 ^^^ y := by rw [h]
  rwa [Nat.xor_assoc, Nat.xor_self, Nat.xor_zero, Nat.zero_xor] at this
theorem Z_zero {x : Nat} (h : x < 2 ^ 32) (hz : Z x = 0) : x = 0 := by
  unfold Z at hz
  split at hz
  · have := xor_zero_eq hz
    unfold Poly at this
    omega
  · omega
theorem Zs_zero {n x : Nat} (h : x < 2 ^ 32) (hz : Zs n x = 0) : x = 0 := by
  induction n with
  | zero => exact hz
  | succ n ih => exact ih (Z_zero (Zs_lt h) hz)
theorem Zs_inj {n x y : Nat} (hx : x < 2 ^ 32) (hy : y < 2 ^ 32) (h : Zs n x = Zs n y) : x = y := by
  apply xor_zero_eq
  apply Zs_zero (n := n) (Nat.xor_lt_two_pow hx hy)
  rw [Zs_xor, h, Nat.xor_self]
theorem Zs_add (m n x : Nat) : Zs (m + n) x = Zs m (Zs n x) := by
  induction m with
  | zero => rw [Nat.zero_add]; rfl
  | succ m ih => rw [Nat.succ_add]; simp only [Zs, ih]

theorem cand_one (x : Nat) : x &&& 1 = x % 2 := Nat.and_one_is_mod x
theorem cshr_one (x : Nat) : x >>> 1 = x / 2 := by rw [Nat.shiftRight_eq_div_pow]
theorem bit_xor {a b : Nat} (ha : a < 2) (hb : b < 2) : a ^^^ b = (a + b) % 2 := by
  have : a = 0 ∨ a = 1 := by omega
  have : b = 0 ∨ b = 1 := by omega
  rcases ‹a = 0 ∨ a = 1› with rfl | rfl <;> rcases ‹b = 0 ∨ b = 1› with rfl | rfl <;> rfl
theorem crcBit_eq (c x i : Nat) : crcBit c x i = Z (c ^^^ ((x >>> i) % 2)) := by
  unfold crcBit Z
  rw [cand_one, cand_one, cshr_one, xor_half, xor_odd, bit_xor (by omega) (by omega)]
  have : (x >>> i) % 2 / 2 = 0 := by omega
  rw [this, Nat.xor_zero, Nat.mod_mod]

/-- An even number is shifted alone. -/
theorem Z_even {x : Nat} (h : x % 2 = 0) : Z x = x / 2 := by
  unfold Z
  rw [if_neg (by omega)]
theorem crcBits_eq (c x n : Nat) : crcBits c x n = Zs n (c ^^^ x) ^^^ (x >>> n) := by
  induction n with
  | zero => simp only [crcBits, Zs]; rw [Nat.shiftRight_zero, Nat.xor_assoc, Nat.xor_self, Nat.xor_zero]
  | succ n ih =>
    simp only [crcBits, Zs]
    rw [crcBit_eq, ih, Nat.xor_assoc, Z_xor, Z_even (x := x >>> n ^^^ (x >>> n) % 2) (by rw [xor_odd]; omega), xor_half]
    have : (x >>> n) % 2 / 2 = 0 := by omega
    rw [this, Nat.xor_zero, Nat.shiftRight_succ]
theorem byte_shr (x : UInt8) : x.toNat >>> 8 = 0 := by
  rw [Nat.shiftRight_eq_div_pow]
  have := x.toNat_lt
  omega
theorem crcByte_eq (c : Nat) (x : UInt8) : crcByte c x = Zs 8 (c ^^^ x.toNat) := by
  unfold crcByte
  rw [crcBits_eq, byte_shr, Nat.xor_zero]
theorem cbyte_lt (x : UInt8) : x.toNat < 2 ^ 32 := by have := x.toNat_lt; omega
theorem crcByte_lt {c : Nat} (h : c < 2 ^ 32) (x : UInt8) : crcByte c x < 2 ^ 32 := by
  rw [crcByte_eq]
  exact Zs_lt (Nat.xor_lt_two_pow h (cbyte_lt x))
theorem crcReg_lt {l : List UInt8} : ∀ {c : Nat}, c < 2 ^ 32 → crcReg c l < 2 ^ 32 := by
  induction l with
  | nil => intro c h; exact h
  | cons x l ih => intro c h; exact ih (crcByte_lt h x)
theorem crc_lt (l : List UInt8) : crc l < 2 ^ 32 := Nat.xor_lt_two_pow (crcReg_lt (by decide)) (by decide)

/-- By a table of the 256 bytes: what the rest of the register is shifted by. -/
theorem Zs_shift (n x : Nat) (h : x % 2 ^ n = 0) : Zs n x = x >>> n := by
  induction n generalizing x with
  | zero => rfl
  | succ n ih =>
    have hs : ∀ m y, Zs (m + 1) y = Zs m (Z y) := fun m y => Zs_add m 1 y
    have e2 : x % 2 = 0 := by
      have : x % 2 ^ (n + 1) % 2 = 0 := by rw [h]
      rwa [Nat.mod_mod_of_dvd _ ⟨2 ^ n, by rw [Nat.pow_succ, Nat.mul_comm]⟩] at this
    have hd : (x / 2) % 2 ^ n = 0 := by
      have := Nat.div_add_mod x (2 ^ (n + 1))
      rw [h, Nat.add_zero, Nat.pow_succ] at this
      have hx : x / 2 = 2 ^ n * (x / (2 ^ n * 2)) := by
        have h1 : x = 2 * (2 ^ n * (x / (2 ^ n * 2))) := by
          rw [← Nat.mul_assoc, Nat.mul_comm 2]; exact this.symm
        omega
      rw [hx, Nat.mul_mod_right]
    rw [hs, Z_even e2, ih _ hd, Nat.add_comm, Nat.shiftRight_add, cshr_one]
theorem low_xor (y : Nat) : y = (y >>> 8 <<< 8) ^^^ (y &&& 255) := by
  apply Nat.eq_of_testBit_eq
  intro i
  rw [Nat.testBit_xor, Nat.testBit_shiftLeft, Nat.testBit_shiftRight, Nat.testBit_and, show (255 : Nat) = 2 ^ 8 - 1 from rfl, Nat.testBit_two_pow_sub_one]
  by_cases h : i < 8
  · simp [h, Nat.not_le.mpr h]
  · rw [show 8 + (i - 8) = i by omega]
    simp [h, Nat.not_lt.mp h]
theorem Zs8_table (y : Nat) : Zs 8 y = (y >>> 8) ^^^ Zs 8 (y &&& 255) := by
  conv => lhs; rw [low_xor y]
  rw [Zs_xor, Zs_shift 8 _ (by rw [Nat.shiftLeft_eq]; omega), Nat.shiftLeft_shiftRight]
theorem crcByte_table (c : Nat) (x : UInt8) : crcByte c x = (c >>> 8) ^^^ Zs 8 ((c ^^^ x.toNat) &&& 255) := by
  rw [crcByte_eq, Zs8_table, Nat.shiftRight_xor_distrib, byte_shr, Nat.xor_zero]

theorem crc_eq_iff (a b : List UInt8) : crc a = crc b ↔ crcReg 0xffffffff a = crcReg 0xffffffff b := by
  unfold crc
  constructor
  · intro h
    have := congrArg (· ^^^ 0xffffffff) h
    simpa only [Nat.xor_assoc, Nat.xor_self, Nat.xor_zero] using this
  · intro h; rw [h]
theorem crcReg_append (c : Nat) (a b : List UInt8) : crcReg c (a ++ b) = crcReg (crcReg c a) b := List.foldl_append
theorem crcByte_inj {c d : Nat} (hc : c < 2 ^ 32) (hd : d < 2 ^ 32) {x : UInt8} (h : crcByte c x = crcByte d x) : c = d := by
  rw [crcByte_eq, crcByte_eq] at h
  have := Zs_inj (Nat.xor_lt_two_pow hc (cbyte_lt x)) (Nat.xor_lt_two_pow hd (cbyte_lt x)) h
  have := congrArg (· ^^^ x.toNat) this
  simpa only [Nat.xor_assoc, Nat.xor_self, Nat.xor_zero] using this
theorem crcReg_inj {l : List UInt8} : ∀ {c d : Nat}, c < 2 ^ 32 → d < 2 ^ 32 → crcReg c l = crcReg d l → c = d := by
  induction l with
  | nil => intro c d _ _ h; exact h
  | cons x l ih => intro c d hc hd h; exact crcByte_inj hc hd (ih (crcByte_lt hc x) (crcByte_lt hd x) h)
/-- A byte more behind both. -/
theorem crc_joins (a b : List UInt8) (c : UInt8) : crc (a ++ [c]) = crc (b ++ [c]) ↔ crc a = crc b := by
  rw [crc_eq_iff, crc_eq_iff, crcReg_append, crcReg_append]
  exact ⟨fun h => crcReg_inj (crcReg_lt (by decide)) (crcReg_lt (by decide)) h, fun h => by rw [h]⟩

/-- Four bytes are one number of 32 bits. -/
theorem crcReg4 (c : Nat) (x y z u : UInt8) : crcReg c [x, y, z, u] = Zs 32 (c ^^^ (x.toNat ^^^ (y.toNat <<< 8) ^^^ (z.toNat <<< 16) ^^^ (u.toNat <<< 24))) := by
  have up : ∀ (k : Nat) (v : Nat) , Zs 8 (v <<< (k + 8)) = v <<< k := fun k v => by
    rw [Zs_shift 8 _ (by rw [Nat.shiftLeft_eq, Nat.pow_add, ← Nat.mul_assoc]; exact Nat.mul_mod_left _ _), Nat.shiftLeft_add, Nat.shiftLeft_shiftRight]
  simp only [crcReg, List.foldl_cons, List.foldl_nil, crcByte_eq]
  rw [show (32 : Nat) = 8 + (8 + (8 + 8)) from rfl, Zs_add, Zs_add, Zs_add]
  simp only [Zs_xor]
  rw [show y.toNat <<< 8 = y.toNat <<< (0 + 8) from rfl, show z.toNat <<< 16 = z.toNat <<< (8 + 8) from rfl, show u.toNat <<< 24 = u.toNat <<< (16 + 8) from rfl]
  simp only [up, Nat.shiftLeft_zero, Nat.xor_assoc]

theorem or_four {x y z u : UInt8} (h : x.toNat ^^^ (y.toNat <<< 8) ^^^ (z.toNat <<< 16) ^^^ (u.toNat <<< 24) = 0) : x = 0 ∧ y = 0 ∧ z = 0 ∧ u = 0 := by
  have hx := x.toNat_lt; have hy := y.toNat_lt; have hz := z.toNat_lt; have hu := u.toNat_lt
  have t : ∀ i, ((x.toNat ^^^ (y.toNat <<< 8) ^^^ (z.toNat <<< 16) ^^^ (u.toNat <<< 24))).testBit i = false := fun i => by rw [h, Nat.zero_testBit]
  have big : ∀ (v : UInt8) (i : Nat), 8 ≤ i → v.toNat.testBit i = false := fun v i hi => Nat.testBit_lt_two_pow (Nat.lt_of_lt_of_le v.toNat_lt (Nat.pow_le_pow_right (by decide) hi))
  have nil : ∀ v : UInt8, (∀ i, i < 8 → v.toNat.testBit i = false) → v = 0 := fun v hv => by
    apply UInt8.toNat_inj.mp
    apply Nat.eq_of_testBit_eq
    intro i
    by_cases hi : i < 8
    · rw [hv i hi]; simp
    · rw [big v i (by omega)]; simp
  refine ⟨nil x fun i hi => ?_, nil y fun i hi => ?_, nil z fun i hi => ?_, nil u fun i hi => ?_⟩
  · have := t i
    simp only [Nat.testBit_xor, Nat.testBit_shiftLeft, show ¬ i ≥ 8 by omega, show ¬ i ≥ 16 by omega, show ¬ i ≥ 24 by omega, decide_false, Bool.false_and, Bool.xor_false] at this
    exact this
  · have := t (i + 8)
    simp only [Nat.testBit_xor, Nat.testBit_shiftLeft, show i + 8 ≥ 8 by omega, show ¬ i + 8 ≥ 16 by omega, show ¬ i + 8 ≥ 24 by omega, decide_false, decide_true, Bool.true_and, Bool.false_and, Bool.xor_false, big x (i + 8) (by omega), Bool.false_xor, show i + 8 - 8 = i by omega] at this
    exact this
  · have := t (i + 16)
    simp only [Nat.testBit_xor, Nat.testBit_shiftLeft, show i + 16 ≥ 8 by omega, show i + 16 ≥ 16 by omega, show ¬ i + 16 ≥ 24 by omega, decide_false, decide_true, Bool.true_and, Bool.false_and, Bool.xor_false, big x (i + 16) (by omega), big y (i + 16 - 8) (by omega), Bool.false_xor, show i + 16 - 16 = i by omega] at this
    exact this
  · have := t (i + 24)
    simp only [Nat.testBit_xor, Nat.testBit_shiftLeft, show i + 24 ≥ 8 by omega, show i + 24 ≥ 16 by omega, show i + 24 ≥ 24 by omega, decide_true, Bool.true_and, Bool.xor_false, big x (i + 24) (by omega), big y (i + 24 - 8) (by omega), big z (i + 24 - 16) (by omega), Bool.false_xor, show i + 24 - 24 = i by omega] at this
    exact this
theorem four_lt (x y z u : UInt8) : x.toNat ^^^ (y.toNat <<< 8) ^^^ (z.toNat <<< 16) ^^^ (u.toNat <<< 24) < 2 ^ 32 := by
  have hx := x.toNat_lt; have hy := y.toNat_lt; have hz := z.toNat_lt; have hu := u.toNat_lt
  refine Nat.xor_lt_two_pow (Nat.xor_lt_two_pow (Nat.xor_lt_two_pow ?_ ?_) ?_) ?_
  · omega
  all_goals
    rw [Nat.shiftLeft_eq]
    omega
theorem four_xor (x y z u a b c d : UInt8) : (x ^^^ a).toNat ^^^ ((y ^^^ b).toNat <<< 8) ^^^ ((z ^^^ c).toNat <<< 16) ^^^ ((u ^^^ d).toNat <<< 24) = (x.toNat ^^^ (y.toNat <<< 8) ^^^ (z.toNat <<< 16) ^^^ (u.toNat <<< 24)) ^^^ (a.toNat ^^^ (b.toNat <<< 8) ^^^ (c.toNat <<< 16) ^^^ (d.toNat <<< 24)) := by
  apply Nat.eq_of_testBit_eq
  intro i
  simp only [UInt8.toNat_xor, Nat.testBit_xor, Nat.testBit_shiftLeft, Bool.and_xor_distrib_left]
  generalize x.toNat.testBit i = p1
  generalize a.toNat.testBit i = p2
  generalize (decide (i ≥ 8) && y.toNat.testBit (i - 8)) = p3
  generalize (decide (i ≥ 8) && b.toNat.testBit (i - 8)) = p4
  generalize (decide (i ≥ 16) && z.toNat.testBit (i - 16)) = p5
  generalize (decide (i ≥ 16) && c.toNat.testBit (i - 16)) = p6
  generalize (decide (i ≥ 24) && u.toNat.testBit (i - 24)) = p7
  generalize (decide (i ≥ 24) && d.toNat.testBit (i - 24)) = p8
  cases p1 <;> cases p2 <;> cases p3 <;> cases p4 <;> cases p5 <;> cases p6 <;> cases p7 <;> cases p8 <;> rfl
/-- Four neighbours turned: another sum, but where nothing was turned. -/
theorem crc_bursts (p q : List UInt8) (x y z u a b c d : UInt8) : crc (p ++ [x ^^^ a, y ^^^ b, z ^^^ c, u ^^^ d] ++ q) = crc (p ++ [x, y, z, u] ++ q) ↔ a = 0 ∧ b = 0 ∧ c = 0 ∧ d = 0 := by
  rw [crc_eq_iff]
  simp only [crcReg_append]
  constructor
  · intro h
    have hp : crcReg 0xffffffff p < 2 ^ 32 := crcReg_lt (by decide)
    have h1 := crcReg_inj (crcReg_lt hp) (crcReg_lt hp) h
    rw [crcReg4, crcReg4, four_xor] at h1
    have h2 := Zs_inj (Nat.xor_lt_two_pow hp (Nat.xor_lt_two_pow (four_lt ..) (four_lt ..))) (Nat.xor_lt_two_pow hp (four_lt ..)) h1
    apply or_four
    have h3 := congrArg (fun t => (crcReg 0xffffffff p ^^^ (x.toNat ^^^ (y.toNat <<< 8) ^^^ (z.toNat <<< 16) ^^^ (u.toNat <<< 24))) ^^^ t) h2
    simp only [← Nat.xor_assoc _ _ (a.toNat ^^^ (b.toNat <<< 8) ^^^ (c.toNat <<< 16) ^^^ (d.toNat <<< 24)), Nat.xor_self] at h3
    generalize hA : crcReg 0xffffffff p = A at h3
    generalize hX : (x.toNat ^^^ (y.toNat <<< 8) ^^^ (z.toNat <<< 16) ^^^ (u.toNat <<< 24)) = X at h3
    generalize hD : (a.toNat ^^^ (b.toNat <<< 8) ^^^ (c.toNat <<< 16) ^^^ (d.toNat <<< 24)) = D at h3 ⊢
    simpa only [Nat.zero_xor] using h3
  · rintro ⟨rfl, rfl, rfl, rfl⟩
    simp
/-- The sum of nothing is 0; so is the sum of a text, and nothing is turned with it. -/
theorem crc_nil : crc [] = 0 := by decide
theorem crc_digits : crc [0x31, 0x32, 0x33, 0x34, 0x35, 0x36, 0x37, 0x38, 0x39] = 0xe3069283 := by decide +kernel

end Go.Proofs.YtkpnhbjdpbjfjaaDoor
