/-
  Names as lists: small letters, sameness, order, the last labels. No program, no memory.
-/
import Derived.Test.YtjhameebehkdjaaGreatNmL
import GoSem.Op.String
namespace Go.Proofs.YtjhameebehkdjaaGreat

def small (b : UInt8) : UInt8 := if 65 ≤ b.toNat ∧ b.toNat ≤ 90 then b + 32 else b
def low (l : Bs) : Bs := l.map small

theorem low_len (l : Bs) : (low l).length = l.length := by simp [low]
theorem small_nat (b : UInt8) : (small b).toNat = if 65 ≤ b.toNat ∧ b.toNat ≤ 90 then b.toNat + 32 else b.toNat := by
  unfold small
  split
  · rw [UInt8.toNat_add]
    have : (32 : UInt8).toNat = 32 := rfl
    omega
  · rfl
theorem small_small (b : UInt8) : small (small b) = small b := by
  apply UInt8.toNat_inj.1
  rw [small_nat (small b), small_nat b]
  split <;> (try split) <;> omega
theorem low_low (l : Bs) : low (low l) = low l := by simp [low, small_small]
theorem small_of {n : Nat} (h : n ≤ 63) : small (UInt8.ofNat n) = UInt8.ofNat n := by
  unfold small
  rw [if_neg]
  have : (UInt8.ofNat n).toNat = n := by simp; omega
  omega
theorem low_append (a b : Bs) : low (a ++ b) = low a ++ low b := by simp [low]
theorem low_enc : ∀ {L : List Bs}, (∀ x ∈ L, Lab x) → low (enc L) = enc (L.map low)
  | [], _ => rfl
  | x :: L, h => by
    have ih := low_enc (L := L) fun y hy => h y (by simp [hy])
    have hx := (h x (by simp)).2
    simp only [enc, List.map_cons, low_len]
    rw [← ih, ← low_append]
    show small _ :: _ = _
    rw [small_of hx]; rfl
theorem low_join {L : List Bs} (h : ∀ x ∈ L, Lab x) : low (join L) = join (L.map low) := by
  unfold join
  rw [low_append, low_enc h]; rfl
theorem lab_low {x : Bs} (h : Lab x) : Lab (low x) := by unfold Lab; rw [low_len]; exact h
theorem labs_low {L : List Bs} (h : ∀ x ∈ L, Lab x) : ∀ x ∈ L.map low, Lab x := by
  intro x hx
  obtain ⟨y, hy, rfl⟩ := List.mem_map.1 hx
  exact lab_low (h y hy)

def lower (l : Bs) : Bs := if can l then low l else []
theorem lower_yes {l : Bs} (h : can l = true) : lower l = low l := by unfold lower; rw [if_pos h]
theorem lower_no {l : Bs} (h : can l = false) : lower l = [] := by unfold lower; rw [if_neg (by simp [h])]

theorem can_low {l : Bs} (h : can l = true) : can (low l) = true ∧ labels (low l) = (labels l).map low := by
  obtain ⟨hl, _, e, hL⟩ := can_out h
  have e2 : low l = join ((labels l).map low) := by rw [← low_join hL, ← e]
  have := can_join (labs_low hL) (by rw [← e2, low_len]; exact hl)
  rw [← e2] at this
  exact this
theorem can_nil : can [] = false := by unfold can; rw [labs]; rfl
theorem can_ne {l : Bs} (h : can l = true) : l ≠ [] := fun e => by rw [e, can_nil] at h; cases h
theorem low_nil {l : Bs} (h : low l = []) : l = [] := by
  have := low_len l
  rw [h] at this
  exact List.eq_nil_of_length_eq_zero this.symm
theorem lower_len (l : Bs) : (lower l).length ≤ l.length := by unfold lower; split <;> simp [low_len]
theorem lower_len_le (l : Bs) : (lower l).length ≤ 255 := by
  cases h : can l
  · rw [lower_no h]; simp
  · rw [lower_yes h, low_len]; exact (can_out h).1

theorem can_lower (l : Bs) : can (lower l) = can l := by
  cases h : can l
  · rw [lower_no h, can_nil]
  · rw [lower_yes h, (can_low h).1]
theorem labels_lower (l : Bs) : labels (lower l) = (labels l).map low := by
  cases h : can l
  · rw [lower_no h, labels_no can_nil, labels_no h]; rfl
  · rw [lower_yes h, (can_low h).2]

/-- Whether two names are the same. -/
def same (a b : Bs) : Bool := can a && can b && low a == low b
theorem same_code (a b : Bs) : (!(lower a == []) && lower a == lower b) = same a b := by
  unfold same
  cases ha : can a
  · rw [lower_no ha]; simp
  · have h1 : low a ≠ [] := fun e => can_ne ha (low_nil e)
    rw [lower_yes ha]
    cases hb : can b
    · rw [lower_no hb]; simp
    · rw [lower_yes hb]; simp [h1]

/-- The order of bytes. -/
def cmpB (a b : Bs) : Int := if Op.bytesLess a b then -1 else if a == b then 0 else 1

theorem less_irrefl : ∀ a : Bs, Op.bytesLess a a = false
  | [] => rfl
  | x :: a => by simp [Op.bytesLess, less_irrefl a]
theorem less_total : ∀ a b : Bs, Op.bytesLess a b = true ∨ a = b ∨ Op.bytesLess b a = true
  | [], [] => by simp
  | [], y :: b => by simp [Op.bytesLess]
  | x :: a, [] => by simp [Op.bytesLess]
  | x :: a, y :: b => by
    have := less_total a b
    simp only [Op.bytesLess, List.cons.injEq, Bool.or_eq_true, Bool.and_eq_true, decide_eq_true_eq, beq_iff_eq]
    rcases Nat.lt_trichotomy x.toNat y.toNat with h | h | h
    · left; left; exact UInt8.lt_iff_toNat_lt.2 h
    · have h := UInt8.toNat_inj.1 h
      subst h
      rcases this with h | h | h
      · left; right; exact ⟨rfl, h⟩
      · right; left; exact ⟨rfl, h⟩
      · right; right; right; exact ⟨rfl, h⟩
    · right; right; left; exact UInt8.lt_iff_toNat_lt.2 h
theorem less_trans : ∀ {a b c : Bs}, Op.bytesLess a b = true → Op.bytesLess b c = true → Op.bytesLess a c = true
  | [], [], _, h, _ => by simp [Op.bytesLess] at h
  | [], _ :: _, [], _, h => by simp [Op.bytesLess] at h
  | [], _ :: _, _ :: _, _, _ => by simp [Op.bytesLess]
  | _ :: _, [], _, h, _ => by simp [Op.bytesLess] at h
  | _ :: _, _ :: _, [], _, h => by simp [Op.bytesLess] at h
  | x :: a, y :: b, z :: c, h, k => by
    simp only [Op.bytesLess, Bool.or_eq_true, Bool.and_eq_true, decide_eq_true_eq, beq_iff_eq, UInt8.lt_iff_toNat_lt] at h k ⊢
    rcases h with h | ⟨rfl, h⟩ <;> rcases k with k | ⟨rfl, k⟩
    · left; omega
    · left; exact h
    · left; exact k
    · right; exact ⟨rfl, less_trans h k⟩
theorem less_asymm {a b : Bs} (h : Op.bytesLess a b = true) : Op.bytesLess b a = false := by
  cases k : Op.bytesLess b a
  · rfl
  · have := less_trans h k
    rw [less_irrefl] at this; cases this

theorem cmpB_zero {a b : Bs} : cmpB a b = 0 ↔ a = b := by
  unfold cmpB
  constructor
  · split
    · intro h; cases h
    · split
      · rename_i h; intro _; exact beq_iff_eq.1 h
      · intro h; cases h
  · rintro rfl
    rw [less_irrefl]; simp
theorem cmpB_lt {a b : Bs} : cmpB a b = -1 ↔ Op.bytesLess a b = true := by
  unfold cmpB
  constructor
  · split
    · intro _; assumption
    · split <;> (intro h; cases h)
  · intro h; rw [if_pos h]
theorem cmpB_gt {a b : Bs} : cmpB a b = 1 ↔ Op.bytesLess b a = true := by
  constructor
  · intro h
    rcases less_total a b with k | k | k
    · rw [cmpB_lt.2 k] at h; cases h
    · rw [cmpB_zero.2 k] at h; cases h
    · exact k
  · intro h
    unfold cmpB
    rw [less_asymm h, if_neg (by simp), if_neg]
    intro e
    have e := beq_iff_eq.1 e
    subst e
    rw [less_irrefl] at h; cases h
theorem cmpB_cases (a b : Bs) : cmpB a b = -1 ∨ cmpB a b = 0 ∨ cmpB a b = 1 := by
  unfold cmpB
  split
  · exact .inl rfl
  · split
    · exact .inr (.inl rfl)
    · exact .inr (.inr rfl)
theorem cmpB_neg (a b : Bs) : cmpB b a = -cmpB a b := by
  rcases cmpB_cases a b with h | h | h
  · rw [h]; exact cmpB_gt.2 (cmpB_lt.1 h)
  · rw [h]; exact cmpB_zero.2 (cmpB_zero.1 h).symm
  · rw [h]; exact cmpB_lt.2 (cmpB_gt.1 h)

/-- The order of names: their labels, the last one first. -/
def cmpL : List Bs → List Bs → Int
  | [], [] => 0
  | [], _ :: _ => -1
  | _ :: _, [] => 1
  | x :: X, y :: Y => if cmpB x y = 0 then cmpL X Y else cmpB x y

theorem cmpL_cases : ∀ X Y : List Bs, cmpL X Y = -1 ∨ cmpL X Y = 0 ∨ cmpL X Y = 1
  | [], [] => by simp [cmpL]
  | [], _ :: _ => by simp [cmpL]
  | _ :: _, [] => by simp [cmpL]
  | x :: X, y :: Y => by
    unfold cmpL
    split
    · exact cmpL_cases X Y
    · exact cmpB_cases x y
theorem cmpL_neg : ∀ X Y : List Bs, cmpL Y X = -cmpL X Y
  | [], [] => by simp [cmpL]
  | [], _ :: _ => by simp [cmpL]
  | _ :: _, [] => by simp [cmpL]
  | x :: X, y :: Y => by
    unfold cmpL
    rw [cmpB_neg x y]
    by_cases h : cmpB x y = 0
    · rw [if_pos h, if_pos (by omega)]; exact cmpL_neg X Y
    · rw [if_neg h, if_neg (by omega)]
theorem cmpL_zero : ∀ {X Y : List Bs}, cmpL X Y = 0 ↔ X = Y
  | [], [] => by simp [cmpL]
  | [], _ :: _ => by simp [cmpL]
  | _ :: _, [] => by simp [cmpL]
  | x :: X, y :: Y => by
    unfold cmpL
    by_cases h : cmpB x y = 0
    · rw [if_pos h, cmpL_zero, List.cons.injEq, cmpB_zero.1 h]; simp
    · rw [if_neg h]
      constructor
      · intro k; exact absurd k h
      · intro k
        injection k with k _
        exact absurd (cmpB_zero.2 k) h
theorem cmpB_trans {a b c : Bs} (h : cmpB a b = -1) (k : cmpB b c = -1) : cmpB a c = -1 := cmpB_lt.2 (less_trans (cmpB_lt.1 h) (cmpB_lt.1 k))
theorem cmpL_trans : ∀ {X Y Z : List Bs}, cmpL X Y ≤ 0 → cmpL Y Z ≤ 0 → cmpL X Z ≤ 0
  | [], _, [], _, _ => by simp [cmpL]
  | [], _, _ :: _, _, _ => by simp [cmpL]
  | _ :: _, [], _, h, _ => by simp [cmpL] at h
  | _ :: _, _ :: _, [], _, h => by simp [cmpL] at h
  | x :: X, y :: Y, z :: Z, h, k => by
    unfold cmpL at h k ⊢
    by_cases h0 : cmpB x y = 0
    · rw [if_pos h0] at h
      obtain rfl := cmpB_zero.1 h0
      by_cases k0 : cmpB x z = 0
      · rw [if_pos k0] at k ⊢; exact cmpL_trans h k
      · rw [if_neg k0] at k ⊢; exact k
    · rw [if_neg h0] at h
      have h1 : cmpB x y = -1 := by have := cmpB_cases x y; omega
      by_cases k0 : cmpB y z = 0
      · obtain rfl := cmpB_zero.1 k0
        rw [if_neg h0]; exact h
      · rw [if_neg k0] at k
        have k1 : cmpB y z = -1 := by have := cmpB_cases y z; omega
        have := cmpB_trans h1 k1
        rw [if_neg (by omega)]; omega

def key (l : Bs) : List Bs := ((labels l).map low).reverse
def comp (a b : Bs) : Int := if can a && can b then cmpL (key a) (key b) else 0

/-- The name of the last labels. -/
def clamp (k : Int) (n : Nat) : Nat := (max 0 (min k n)).toNat
def tail (l : Bs) (k : Int) : Bs := if can l then join ((labels l).drop ((labels l).length - clamp k (labels l).length)) else []
def within (l z : Bs) : Bool := same (tail l (labels z).length) z

theorem join_drop_len (L : List Bs) (i : Nat) : (join (L.drop i)).length ≤ (join L).length := by
  rw [join_len, join_len]
  have e : enc L = enc (L.take i) ++ enc (L.drop i) := by rw [← enc_append, List.take_append_drop]
  have := congrArg List.length e
  simp at this
  omega
theorem can_drop {l : Bs} (h : can l = true) (i : Nat) : can (join ((labels l).drop i)) = true ∧ labels (join ((labels l).drop i)) = (labels l).drop i := by
  obtain ⟨hl, _, e, hL⟩ := can_out h
  refine can_join (fun x hx => hL x (List.mem_of_mem_drop hx)) ?_
  have := join_drop_len (labels l) i
  rw [← e] at this
  omega
end Go.Proofs.YtjhameebehkdjaaGreat
