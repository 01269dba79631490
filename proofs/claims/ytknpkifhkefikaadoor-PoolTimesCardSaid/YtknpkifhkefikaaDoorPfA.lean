/-
  Frames with their length ahead: plain bytes.
-/
import Derived.Test.YtknpkifhkefikaaDoorGa
namespace Go.Proofs.YtknpkifhkefikaaDoor
open Go.RowKit
set_option linter.unusedVariables false
set_option maxRecDepth 100000

/-- The first frame of bytes, and what stands behind it. -/
def fr : Bs → Option (Bs × Bs)
  | h :: l :: t => if t.length < h.toNat * 256 + l.toNat then none else some (t.take (h.toNat * 256 + l.toNat), t.drop (h.toNat * 256 + l.toNat))
  | _ => none
def frF : Nat → Bs → List Bs × Bs
  | 0, x => ([], x)
  | f + 1, x => match fr x with
    | none => ([], x)
    | some (a, r) => (a :: (frF f r).1, (frF f r).2)
/-- The whole frames of bytes, and what is left. -/
def feedP (x : Bs) : List Bs × Bs := frF x.length x
theorem fr_len {x a r : Bs} (h : fr x = some (a, r)) : r.length < x.length := by
  match x, h with
  | h0 :: l0 :: t, h =>
    simp only [fr] at h
    split at h
    · cases h
    · injection h with h
      injection h with h1 h2
      rw [← h2]
      simp
      omega
theorem frF_fuel : ∀ (f g : Nat) (x : Bs), x.length ≤ f → x.length ≤ g → frF f x = frF g x
  | 0, 0, _, _, _ => rfl
  | 0, g + 1, x, h, _ => by
    have : x = [] := List.length_eq_zero_iff.1 (by omega)
    subst this
    rfl
  | f + 1, 0, x, _, h => by
    have : x = [] := List.length_eq_zero_iff.1 (by omega)
    subst this
    rfl
  | f + 1, g + 1, x, hf, hg => by
    unfold frF
    cases h : fr x with
    | none => rfl
    | some p =>
      obtain ⟨a, r⟩ := p
      have hl := fr_len h
      simp only
      rw [frF_fuel f g r (by omega) (by omega)]
theorem feed_none {x : Bs} (h : fr x = none) : feedP x = ([], x) := by
  unfold feedP
  cases hx : x.length with
  | zero => rfl
  | succ n => simp only [frF, h]
theorem feed_some {x a r : Bs} (h : fr x = some (a, r)) : feedP x = (a :: (feedP r).1, (feedP r).2) := by
  have hl := fr_len h
  unfold feedP
  cases hx : x.length with
  | zero => omega
  | succ n =>
    simp only [frF, h]
    rw [frF_fuel n r.length r (by omega) (Nat.le_refl _)]
theorem fr_none_iff {x : Bs} (h2 : 2 ≤ x.length) : ∃ h l t, x = h :: l :: t := by
  match x, h2 with
  | h :: l :: t, _ => exact ⟨h, l, t, rfl⟩
theorem fr_short {x : Bs} (h : x.length < 2) : fr x = none := by
  match x, h with
  | [], _ => rfl
  | [_], _ => rfl
theorem fr_app {x a r : Bs} (y : Bs) (h : fr x = some (a, r)) : fr (x ++ y) = some (a, r ++ y) := by
  match x, h with
  | h0 :: l0 :: t, h =>
    simp only [fr] at h
    split at h
    · cases h
    · rename_i hn
      injection h with h
      injection h with h1 h2
      subst h1 h2
      simp only [List.cons_append, fr]
      rw [if_neg (by simp; omega), List.take_append_of_le_length (by omega), List.drop_append_of_le_length (by omega)]
/-- How bytes are cut plays no part. -/
theorem feed_app : ∀ (n : Nat) (x y : Bs), x.length ≤ n → feedP (x ++ y) = ((feedP x).1 ++ (feedP ((feedP x).2 ++ y)).1, (feedP ((feedP x).2 ++ y)).2)
  | n, x, y, hn => by
    cases h : fr x with
    | none => rw [feed_none h]; simp
    | some p =>
      obtain ⟨a, r⟩ := p
      have hl := fr_len h
      rw [feed_some h, feed_some (fr_app y h)]
      match n, hn with
      | 0, hn => omega
      | n + 1, hn =>
        rw [feed_app n r y (by omega)]
        simp
theorem feed_cut (x y : Bs) : feedP (x ++ y) = ((feedP x).1 ++ (feedP ((feedP x).2 ++ y)).1, (feedP ((feedP x).2 ++ y)).2) := feed_app _ x y (Nat.le_refl _)
def encP (b : Bs) : Bs := UInt8.ofNat (b.length / 256) :: UInt8.ofNat (b.length % 256) :: b
theorem fr_enc {b : Bs} (h : b.length ≤ 65535) (t : Bs) : fr (encP b ++ t) = some (b, t) := by
  have h1 : (UInt8.ofNat (b.length / 256)).toNat = b.length / 256 := by simp; omega
  have h2 : (UInt8.ofNat (b.length % 256)).toNat = b.length % 256 := by simp
  simp only [encP, List.cons_append, fr, h1, h2]
  rw [show b.length / 256 * 256 + b.length % 256 = b.length by omega]
  rw [if_neg (by simp)]
  simp
theorem feed_encs : ∀ (L : List Bs), (∀ b ∈ L, b.length ≤ 65535) → ∀ t, feedP ((L.map encP).flatten ++ t) = (L ++ (feedP t).1, (feedP t).2)
  | [], _, t => by simp
  | b :: L, h, t => by
    have e : ((b :: L).map encP).flatten ++ t = encP b ++ ((L.map encP).flatten ++ t) := by simp
    rw [e, feed_some (fr_enc (h b (by simp)) _), feed_encs L (fun x hx => h x (by simp [hx])) t]
    simp
theorem fr_begin {b : Bs} (h : b.length ≤ 65535) {n : Nat} (hn : n < (encP b).length) : fr ((encP b).take n) = none := by
  have h1 : (UInt8.ofNat (b.length / 256)).toNat = b.length / 256 := by simp; omega
  have h2 : (UInt8.ofNat (b.length % 256)).toNat = b.length % 256 := by simp
  match n, hn with
  | 0, _ => rfl
  | 1, _ => rfl
  | n + 2, hn =>
    simp only [encP, List.length_cons] at hn
    simp only [encP, List.take_succ_cons, fr, h1, h2]
    rw [if_pos (by simp; omega)]
end Go.Proofs.YtknpkifhkefikaaDoor
