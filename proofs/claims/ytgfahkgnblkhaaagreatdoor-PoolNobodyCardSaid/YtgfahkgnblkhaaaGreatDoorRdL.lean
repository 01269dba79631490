/-
  Data of types, as lists of bytes: a name at the beginning, texts, options, an SOA's data. No program, no memory.
-/
import Derived.Test.YtgfahkgnblkhaaaGreatDoorNmM
namespace Go.Proofs.YtgfahkgnblkhaaaGreatDoor
set_option linter.unusedVariables false
set_option maxRecDepth 100000

/-- How many bytes the name takes with which bytes begin, whatever its length. -/
def pre : Bs → Option Nat
  | [] => none
  | k :: r => if k.toNat = 0 then some 1 else if 63 < k.toNat then none else if r.length < k.toNat then none else (pre (r.drop k.toNat)).map (· + (1 + k.toNat))
termination_by l => l.length
decreasing_by simp; omega
def nameLen (b : Bs) : Option Nat := match pre b with | some n => if n ≤ 255 then some n else none | none => none

theorem pre_le : ∀ (m : Nat) {b : Bs} {n : Nat}, b.length ≤ m → pre b = some n → 1 ≤ n ∧ n ≤ b.length
  | _, [], n, _, h => by rw [pre] at h; cases h
  | 0, _ :: _, _, hm, _ => by simp at hm
  | m + 1, k :: r, n, hm, h => by
    rw [pre] at h
    split at h
    · injection h with h; subst h; simp
    · split at h
      · cases h
      · split at h
        · cases h
        · cases hd : pre (r.drop k.toNat) with
          | none => rw [hd] at h; cases h
          | some j =>
            rw [hd] at h
            simp only [Option.map_some, Option.some.injEq] at h
            have := pre_le m (by simp at hm ⊢; omega) hd
            rw [List.length_drop] at this
            rw [List.length_cons]
            omega

theorem labs_pre : ∀ (m : Nat) {b : Bs} {k : Nat}, b.length ≤ m → k ≤ b.length → ((labs (b.take k)).isSome = true ↔ pre b = some k)
  | _, [], k, _, hk => by
    simp at hk
    subst hk
    simp [labs, pre]
  | 0, _ :: _, _, hm, _ => by simp at hm
  | m + 1, c :: r, 0, hm, hk => by
    rw [List.take_zero, labs]
    simp only [Option.isSome_none, Bool.false_eq_true, false_iff]
    intro h
    have := pre_le _ (Nat.le_refl _) h
    omega
  | m + 1, c :: r, k + 1, hm, hk => by
    rw [List.take_succ_cons, labs, pre]
    by_cases h0 : c.toNat = 0
    · rw [if_pos h0, if_pos h0]
      by_cases hr : r.take k = []
      · rw [if_pos hr]
        have : k = 0 := by
          have := congrArg List.length hr
          simp at this hk
          rcases this with h | h
          · exact h
          · subst h; simp at hk; exact hk
        subst this
        simp
      · rw [if_neg hr]
        have : k ≠ 0 := fun e => hr (by rw [e, List.take_zero])
        simp
        omega
    · rw [if_neg h0, if_neg h0]
      by_cases h6 : 63 < c.toNat
      · rw [if_pos h6, if_pos h6]; simp
      · rw [if_neg h6, if_neg h6]
        have hd : (r.take k).drop c.toNat = (r.drop c.toNat).take (k - c.toNat) := by rw [List.drop_take]
        rw [hd]
        by_cases hs : r.length < c.toNat
        · rw [if_pos hs, List.drop_eq_nil_of_le (by omega)]
          simp [labs]
        · rw [if_neg hs]
          by_cases hkc : c.toNat ≤ k
          · have ih := labs_pre m (b := r.drop c.toNat) (k := k - c.toNat) (by simp at hm ⊢; omega) (by simp at hk ⊢; omega)
            rw [Option.isSome_map, ih]
            constructor
            · intro h; rw [h]; simp; omega
            · intro h
              cases hp : pre (r.drop c.toNat) with
              | none => rw [hp] at h; cases h
              | some j => rw [hp] at h; simp at h; rw [show j = k - c.toNat by omega]
          · rw [show k - c.toNat = 0 by omega, List.take_zero, labs]
            simp only [Option.map_none, Option.isSome_none, Bool.false_eq_true, false_iff]
            intro h
            cases hp : pre (r.drop c.toNat) with
            | none => rw [hp] at h; cases h
            | some j =>
              rw [hp] at h
              simp at h
              have := pre_le _ (Nat.le_refl _) hp
              omega

/-- Just one beginning is a name, if one is. -/
theorem can_take {b : Bs} {k : Nat} (hk : k ≤ b.length) : can (b.take k) = true ↔ nameLen b = some k := by
  have h := labs_pre _ (Nat.le_refl b.length) hk
  unfold can nameLen
  rw [Bool.and_eq_true, decide_eq_true_eq, List.length_take, Nat.min_eq_left hk, h]
  constructor
  · rintro ⟨h1, h2⟩; rw [h2]; simp [h1]
  · intro h2
    cases hp : pre b with
    | none => rw [hp] at h2; cases h2
    | some n =>
      rw [hp] at h2
      simp only at h2
      split at h2
      · injection h2 with h2; subst h2; exact ⟨by assumption, rfl⟩
      · cases h2
theorem nameLen_le {b : Bs} {k : Nat} (h : nameLen b = some k) : 1 ≤ k ∧ k ≤ b.length ∧ k ≤ 255 := by
  unfold nameLen at h
  cases hp : pre b with
  | none => rw [hp] at h; cases h
  | some n =>
    rw [hp] at h
    simp only at h
    split at h
    · injection h with h; subst h
      have := pre_le _ (Nat.le_refl _) hp
      exact ⟨this.1, this.2, by assumption⟩
    · cases h
theorem can_nameLen {b : Bs} (h : can b = true) (r : Bs) : nameLen (b ++ r) = some b.length := by
  refine (can_take (b := b ++ r) (k := b.length) (by simp)).1 ?_
  rw [List.take_left]; exact h

/-- Texts, one behind the other: none too. -/
def txs : Bs → Bool
  | [] => true
  | k :: r => if r.length < k.toNat then false else txs (r.drop k.toNat)
termination_by l => l.length
decreasing_by simp; omega
def texts (b : Bs) : Bool := !(b == []) && txs b
/-- Options, one behind the other. -/
def opts (b : Bs) : Bool := match b with
  | [] => true
  | _ :: _ :: h :: l :: r => if r.length < h.toNat * 256 + l.toNat then false else opts (r.drop (h.toNat * 256 + l.toNat))
  | _ => false
termination_by b.length
decreasing_by simp; omega

/-- A number of four bytes. -/
def four (b : Bs) : Nat := (((b.getD 0 0).toNat * 256 + (b.getD 1 0).toNat) * 256 + (b.getD 2 0).toNat) * 256 + (b.getD 3 0).toNat
def fourB (n : Nat) : Bs := [UInt8.ofNat (n / 16777216), UInt8.ofNat (n / 65536), UInt8.ofNat (n / 256), UInt8.ofNat n]
structure Soa where
  m : Bs
  r : Bs
  a : Nat
  b : Nat
  c : Nat
  d : Nat
  e : Nat
/-- What the data of an SOA say. -/
def soa (b : Bs) : Option Soa := match nameLen b with
  | none => none
  | some i => match nameLen (b.drop i) with
    | none => none
    | some j => if b.length = i + j + 20 then some ⟨b.take i, (b.drop i).take j, four (b.drop (i + j)), four (b.drop (i + j + 4)), four (b.drop (i + j + 8)), four (b.drop (i + j + 12)), four (b.drop (i + j + 16))⟩ else none

def isName (t : Int) : Bool := t == 2 || t == 5 || t == 12
def canD (t : Int) (b : Bs) : Bool :=
  if t < 0 ∨ 65535 < t ∨ 65535 < b.length then false
  else if t = 1 then b.length == 4
  else if t = 28 then b.length == 16
  else if t = 2 ∨ t = 5 ∨ t = 12 then can b
  else if t = 15 then decide (2 < b.length) && can (b.drop 2)
  else if t = 6 then (soa b).isSome
  else if t = 16 then texts b
  else if t = 41 then opts b
  else true
def namesD (t : Int) (b : Bs) : List Bs :=
  if canD t b then
    (if t = 2 ∨ t = 5 ∨ t = 12 then [b]
    else if t = 15 then [b.drop 2]
    else if t = 6 then (match soa b with | some s => [s.m, s.r] | none => [])
    else [])
  else []
end Go.Proofs.YtgfahkgnblkhaaaGreatDoor
