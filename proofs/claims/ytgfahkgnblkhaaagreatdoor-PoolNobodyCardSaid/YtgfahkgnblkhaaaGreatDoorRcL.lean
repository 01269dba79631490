/-
  The walks of the landed rdata, as plain lists: where a name's walk stops, texts and options from a place on. No program, no memory.
-/
import Derived.Test.YtgfahkgnblkhaaaGreatDoorRdX
namespace Go.Proofs.YtgfahkgnblkhaaaGreatDoor
set_option linter.unusedVariables false
set_option maxRecDepth 100000

/-- The name at the beginning; empty, if there is none. -/
def first (b : Bs) : Bs := match nameLen b with | some k => b.take k | none => []
/-- The place at which a walk from label to label stops. -/
def stop : Bs → Nat
  | [] => 0
  | k :: r => if k.toNat = 0 then 0 else 1 + k.toNat + stop (r.drop k.toNat)
termination_by l => l.length
decreasing_by simp; omega

theorem pre_stop : ∀ (m : Nat) {b : Bs} {n : Nat}, b.length ≤ m → pre b = some n → stop b + 1 = n
  | _, [], n, _, h => by rw [pre] at h; cases h
  | 0, _ :: _, _, hm, _ => by simp at hm
  | m + 1, k :: r, n, hm, h => by
    rw [pre] at h
    rw [stop]
    split at h
    · rename_i h0
      rw [if_pos h0]
      injection h with h
    · rename_i h0
      rw [if_neg h0]
      split at h
      · cases h
      · split at h
        · cases h
        · cases hd : pre (r.drop k.toNat) with
          | none => rw [hd] at h; cases h
          | some j =>
            rw [hd] at h
            simp only [Option.map_some, Option.some.injEq] at h
            have := pre_stop m (by simp at hm ⊢; omega) hd
            omega
theorem nameLen_stop {b : Bs} {k : Nat} (h : nameLen b = some k) : stop b + 1 = k := by
  unfold nameLen at h
  cases hp : pre b with
  | none => rw [hp] at h; cases h
  | some n =>
    rw [hp] at h
    simp only at h
    split at h
    · injection h with h; subst h
      exact pre_stop _ (Nat.le_refl _) hp
    · cases h
theorem stop_step {b : Bs} {a : Nat} (h : a < b.length) (h0 : (b[a]).toNat ≠ 0) : stop (b.drop a) = 1 + (b[a]).toNat + stop (b.drop (a + 1 + (b[a]).toNat)) := by
  rw [List.drop_eq_getElem_cons h, stop, if_neg h0, List.drop_drop]
theorem stop_zero {b : Bs} {a : Nat} (h : a < b.length) (h0 : (b[a]).toNat = 0) : stop (b.drop a) = 0 := by
  rw [List.drop_eq_getElem_cons h, stop, if_pos h0]
theorem stop_end {b : Bs} {a : Nat} (h : b.length ≤ a) : stop (b.drop a) = 0 := by
  rw [List.drop_eq_nil_of_le h, stop]
theorem first_far {b : Bs} {a : Nat} (hs : stop b = a) (h : b.length ≤ a ∨ 255 ≤ a) : first b = [] := by
  unfold first
  cases hn : nameLen b with
  | none => rfl
  | some k =>
    have := nameLen_stop hn
    have := nameLen_le hn
    omega
theorem first_can {b : Bs} {a : Nat} (hs : stop b = a) (h : a < b.length) (hc : can (b.take (a + 1)) = true) : first b = b.take (a + 1) := by
  unfold first
  rw [(can_take (by omega)).1 hc]
theorem first_not {b : Bs} {a : Nat} (hs : stop b = a) (h : a < b.length) (hc : can (b.take (a + 1)) = false) : first b = [] := by
  unfold first
  cases hn : nameLen b with
  | none => rfl
  | some k =>
    have := nameLen_stop hn
    obtain rfl : k = a + 1 := by omega
    rw [(can_take (by omega)).2 hn] at hc
    cases hc
theorem first_none {b : Bs} (h : nameLen b = none) : first b = [] := by unfold first; rw [h]
theorem first_some {b : Bs} {k : Nat} (h : nameLen b = some k) : first b = b.take k := by unfold first; rw [h]
theorem first_len {b : Bs} {k : Nat} (h : nameLen b = some k) : (first b).length = k := by
  rw [first_some h, List.length_take]
  have := nameLen_le h
  omega

/-- Texts from a place on. -/
def txsAt (l : Bs) (a : Nat) : Bool := decide (a ≤ l.length) && txs (l.drop a)
theorem txsAt_zero (l : Bs) : txsAt l 0 = txs l := by simp [txsAt]
theorem txsAt_step {l : Bs} {a : Nat} (h : a < l.length) : txsAt l a = txsAt l (a + 1 + (l[a]).toNat) := by
  unfold txsAt
  rw [List.drop_eq_getElem_cons h, txs_cons, List.drop_drop, List.length_drop]
  by_cases hs : l.length - (a + 1) < (l[a]).toNat
  · rw [if_pos hs]
    have : ¬ a + 1 + (l[a]).toNat ≤ l.length := by omega
    simp [this]
  · rw [if_neg hs]
    have h1 : a + 1 + (l[a]).toNat ≤ l.length := by omega
    have h2 : a ≤ l.length := by omega
    simp [h1, h2]
theorem txsAt_end {l : Bs} {a : Nat} (h : l.length ≤ a) : txsAt l a = decide (a = l.length) := by
  unfold txsAt
  rw [List.drop_eq_nil_of_le h, txs_nil, Bool.and_true]
  rw [Bool.eq_iff_iff]; simp; omega

/-- Options from a place on. -/
def optsAt (l : Bs) (a : Nat) : Bool := decide (a ≤ l.length) && opts (l.drop a)
theorem optsAt_zero (l : Bs) : optsAt l 0 = opts l := by simp [optsAt]
theorem optsAt_step {l : Bs} {a : Nat} (h : a + 4 ≤ l.length) : optsAt l a = optsAt l (a + 4 + ((l[a + 2]).toNat * 256 + (l[a + 3]).toNat)) := by
  unfold optsAt
  rw [List.drop_eq_getElem_cons (show a < l.length by omega), List.drop_eq_getElem_cons (show a + 1 < l.length by omega), List.drop_eq_getElem_cons (show a + 1 + 1 < l.length by omega), List.drop_eq_getElem_cons (show a + 1 + 1 + 1 < l.length by omega), opts_cons, List.drop_drop, List.length_drop]
  simp only [Nat.add_assoc, Nat.reduceAdd]
  generalize (l[a + 2]).toNat * 256 + (l[a + 3]).toNat = K
  by_cases hs : l.length - (a + 4) < K
  · rw [if_pos hs]
    have : ¬ a + (4 + K) ≤ l.length := by omega
    simp [this]
  · rw [if_neg hs]
    have h1 : a + (4 + K) ≤ l.length := by omega
    have h2 : a ≤ l.length := by omega
    simp [h1, h2]
theorem optsAt_end {l : Bs} {a : Nat} (h : l.length < a + 4) : optsAt l a = decide (a = l.length) := by
  unfold optsAt
  by_cases h1 : a ≤ l.length
  · have hlen : (l.drop a).length = l.length - a := List.length_drop
    by_cases h2 : a = l.length
    · subst h2
      rw [List.drop_eq_nil_of_le (Nat.le_refl _)]
      simp [opts]
    · have : opts (l.drop a) = false := by
        match hm : l.drop a with
        | [] => rw [hm] at hlen; simp at hlen; omega
        | [_] => simp [opts]
        | [_, _] => simp [opts]
        | [_, _, _] => simp [opts]
        | _ :: _ :: _ :: _ :: r => rw [hm] at hlen; simp at hlen; omega
      rw [this]; simp [h2]
  · simp [h1]; omega
end Go.Proofs.YtgfahkgnblkhaaaGreatDoor
