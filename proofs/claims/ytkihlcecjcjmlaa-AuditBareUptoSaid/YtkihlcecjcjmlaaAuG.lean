/-
  The plain half of AuditPairs: which query a reply meets, and how many are open.
-/
import Derived.Test.YtkihlcecjcjmlaaAuF
namespace Go.Proofs.Ytkihlcecjcjmlaa
set_option linter.unusedVariables false
set_option maxRecDepth 100000

theorem sameQ_iff' {a b : Qu} : sameQ a b = true ↔ a = b := sameQ_iff
theorem pairsE_iff (x r : Ev) : pairsE x r = true ↔ x.rep = false ∧ r.h.r = true ∧ r.h.ra = true ∧ ∃ a, askE x = some a ∧ askE r = some a := by
  unfold pairsE onlyQ askE
  constructor
  · intro h
    simp only [Bool.and_eq_true, Bool.not_eq_true', beq_iff_eq] at h
    obtain ⟨h0, h1, h2, h3, h4, h5, h6, h7⟩ := h
    refine ⟨h0, h5, h6, ?_⟩
    split at h7
    · rename_i p q hp hq
      rw [hp, hq]
      rw [sameQ_iff] at h7
      subst h7
      exact ⟨_, rfl, by simp only [h1, h2, h3, h4]⟩
    · cases h7
  · rintro ⟨h0, h1, h2, a, h3, h4⟩
    split at h3
    · rename_i p hp
      split at h4
      · rename_i q hq
        rw [hp, hq]
        injection h3 with h3
        injection h4 with h4
        subst h3
        simp only [Ask.mk.injEq] at h4
        obtain ⟨e1, e2, e3, e4, e5, e6, e7⟩ := h4
        simp [h0, h1, h2, e1, e2, e3, e4, sameQ, e5, e6, e7]
      · cases h4
    · cases h3

/-- The lowest of the places i - 1, i - 2, .., as many as m, at which p holds; -1: none. -/
def fnd (p : Nat → Bool) (i : Nat) : Nat → Int
  | 0 => -1
  | m + 1 => if p (i - 1 - m) then ((i - 1 - m : Nat) : Int) else fnd p i m
theorem fnd_lt (p : Nat → Bool) (i : Nat) : ∀ m, m ≤ i → -1 ≤ fnd p i m ∧ fnd p i m < i
  | 0, _ => by simp [fnd]; omega
  | m + 1, h => by
    unfold fnd
    split
    · omega
    · exact fnd_lt p i m (by omega)
theorem fnd_some (p : Nat → Bool) (i : Nat) : ∀ m, m ≤ i → 0 ≤ fnd p i m → p (fnd p i m).toNat = true
  | 0, _, h => by simp [fnd] at h
  | m + 1, h, h0 => by
    unfold fnd at h0 ⊢
    split
    · rename_i hp; simpa using hp
    · rename_i hp
      rw [if_neg hp] at h0
      exact fnd_some p i m (by omega) h0
theorem fnd_none (p : Nat → Bool) (i : Nat) : ∀ m, m ≤ i → fnd p i m < 0 → ∀ k, k < i → i - m ≤ k → p k = false
  | 0, _, _, k, h1, h2 => by omega
  | m + 1, h, h0, k, h1, h2 => by
    unfold fnd at h0
    split at h0
    · omega
    · rename_i hp
      by_cases e : k = i - 1 - m
      · subst e; simpa using hp
      · exact fnd_none p i m (by omega) h0 k h1 (by omega)

def isQ (L : List Ev) (a : Ask) (k : Nat) : Bool := match L[k]? with
  | some e => !e.rep && decide (askE e = some a)
  | none => false
/-- How many queries with an ask, of the first i, are not done. -/
def opn (L : List Ev) (dn : List Bool) (i : Nat) (a : Ask) : Nat := (List.range i).countP fun k => !(dn.getD k false) && isQ L a k
theorem countP_same {p p' : Nat → Bool} : ∀ {i : Nat}, (∀ j, j < i → p' j = p j) → (List.range i).countP p' = (List.range i).countP p
  | 0, _ => rfl
  | i + 1, h => by
    rw [List.range_succ, List.countP_append, List.countP_append, countP_same (fun j hj => h j (by omega))]
    simp [List.countP_cons, h i (by omega)]
theorem countP_off {p p' : Nat → Bool} {k : Nat} (h1 : p k = true) (h2 : p' k = false) (h : ∀ j, j ≠ k → p' j = p j) : ∀ {i : Nat}, k < i → (List.range i).countP p' + 1 = (List.range i).countP p
  | 0, hk => by omega
  | i + 1, hk => by
    rw [List.range_succ, List.countP_append, List.countP_append]
    by_cases e : k = i
    · subst e
      rw [countP_same (p := p) (p' := p') (fun j hj => h j (by omega))]
      simp [List.countP_cons, h1, h2]
    · have := countP_off h1 h2 h (i := i) (by omega)
      have e2 := h i (fun x => e x.symm)
      simp only [List.countP_cons, List.countP_nil, e2]
      omega
theorem countP_pos {p : Nat → Bool} {i : Nat} : 0 < (List.range i).countP p ↔ ∃ k, k < i ∧ p k = true := by
  rw [List.countP_pos_iff]
  constructor
  · rintro ⟨k, hk, h⟩; exact ⟨k, List.mem_range.1 hk, h⟩
  · rintro ⟨k, hk, h⟩; exact ⟨k, List.mem_range.2 hk, h⟩
/-- What holds ahead of the i-th event. -/
structure Inv (L : List Ev) (dn : List Bool) (i : Nat) : Prop where
  len : dn.length = L.length
  free : ∀ k, i ≤ k → dn.getD k false = false
  cnt : ∀ a, cntE (L.take i) a = opn L dn i a
  ok : ∀ j (h : j < L.length), j < i → okE (L.take j) L[j] = true
theorem Inv.start (L : List Ev) : Inv L (List.replicate L.length false) 0 := ⟨by simp, fun k _ => by simp [List.getD, List.getElem?_replicate]; split <;> rfl, fun a => rfl, fun j _ h => absurd h (by omega)⟩
/-- Whether a place can be met. -/
def may (L : List Ev) (dn : List Bool) (r : Ev) (k : Nat) : Bool := !(dn.getD k false) && (match L[k]? with
  | some x => pairsE x r
  | none => false)
theorem may_iff {L : List Ev} {dn : List Bool} {r : Ev} {k : Nat} (hk : k < L.length) : may L dn r k = true ↔ dn.getD k false = false ∧ pairsE L[k] r = true := by
  unfold may
  rw [List.getElem?_eq_getElem hk]
  simp
theorem isQ_iff {L : List Ev} {a : Ask} {k : Nat} (hk : k < L.length) : isQ L a k = true ↔ L[k].rep = false ∧ askE L[k] = some a := by
  unfold isQ
  rw [List.getElem?_eq_getElem hk]
  simp
theorem Inv.query {L : List Ev} {dn : List Bool} {i : Nat} (h : Inv L dn i) (hi : i < L.length) (hr : L[i].rep = false) : Inv L dn (i + 1) := by
  refine ⟨h.len, fun k hk => h.free k (by omega), fun a => ?_, fun j hj hji => ?_⟩
  · rw [List.take_succ_eq_append_getElem hi, cntE_snoc, hr, h.cnt a]
    unfold opn
    rw [List.range_succ, List.countP_append]
    have hf := h.free i (Nat.le_refl _)
    have hf2 : dn[i]?.getD false = false := by simpa using hf
    by_cases ha : askE L[i] = some a
    · have hq : isQ L a i = true := (isQ_iff hi).2 ⟨hr, ha⟩
      simp [List.countP_cons, hf2, hq, ha]
    · have hq : isQ L a i = false := by
        rw [Bool.eq_false_iff]; intro hh; exact ha ((isQ_iff hi).1 hh).2
      simp [List.countP_cons, hq, ha]
  · by_cases e : j = i
    · subst e; unfold okE; rw [hr]; rfl
    · exact h.ok j hj (by omega)
theorem Inv.bad {L : List Ev} {dn : List Bool} {i : Nat} (h : Inv L dn i) (hi : i < L.length) (hr : L[i].rep = true) (hf : fnd (may L dn L[i]) i i < 0) : pairedP L = false := by
  refine pairedP_false hi ?_
  have hn := fun k hk => fnd_none (may L dn L[i]) i i (Nat.le_refl _) hf k hk (by omega)
  unfold okE
  rw [hr]
  cases ha : askE L[i] with
  | none => rfl
  | some a =>
    rw [Bool.eq_false_iff]
    intro hh
    simp only [Bool.not_true, Bool.false_or, Bool.and_eq_true, bne_iff_ne] at hh
    obtain ⟨h1, h2, h3⟩ := hh
    rw [h.cnt a] at h1
    have hp : 0 < opn L dn i a := by omega
    obtain ⟨k, hk, hq⟩ := countP_pos.1 hp
    simp only [Bool.and_eq_true, Bool.not_eq_true'] at hq
    have hkl : k < L.length := by omega
    obtain ⟨q1, q2⟩ := (isQ_iff hkl).1 hq.2
    have := hn k hk
    rw [(may_iff hkl).2 ⟨hq.1, (pairsE_iff _ _).2 ⟨q1, h2, h3, a, q2, ha⟩⟩] at this
    cases this
theorem Inv.reply {L : List Ev} {dn : List Bool} {i : Nat} (h : Inv L dn i) (hi : i < L.length) (hr : L[i].rep = true) {k : Nat} (hf : fnd (may L dn L[i]) i i = k) : k < L.length ∧ Inv L (dn.set k true) (i + 1) := by
  have hb := fnd_lt (may L dn L[i]) i i (Nat.le_refl _)
  have hs := fnd_some (may L dn L[i]) i i (Nat.le_refl _) (by omega)
  rw [hf] at hb hs
  simp only [Int.toNat_natCast] at hs
  have hk : k < i := by omega
  have hkl : k < L.length := by omega
  obtain ⟨m1, m2⟩ := (may_iff hkl).1 hs
  obtain ⟨p1, p2, p3, a0, p4, p5⟩ := (pairsE_iff _ _).1 m2
  have m1' : dn[k]?.getD false = false := by simpa using m1
  have hgd : ∀ j, (dn.set k true).getD j false = if j = k then true else dn.getD j false := fun j => by
    simp only [List.getD]
    rw [List.getElem?_set]
    by_cases e : k = j
    · subst e; simp [h.len, hkl]
    · rw [if_neg e, if_neg (fun x => e x.symm)]
  refine ⟨hkl, by rw [List.length_set]; exact h.len, fun j hj => ?_, fun a => ?_, fun j hj hji => ?_⟩
  · rw [hgd, if_neg (by omega)]; exact h.free j (by omega)
  · rw [List.take_succ_eq_append_getElem hi, cntE_snoc, hr, h.cnt a]
    unfold opn
    rw [List.range_succ, List.countP_append]
    have hqi : isQ L a i = false := by
      rw [Bool.eq_false_iff]; intro hh; have := ((isQ_iff hi).1 hh).1; rw [hr] at this; cases this
    by_cases ha : askE L[i] = some a
    · rw [p5] at ha
      injection ha with ha
      subst ha
      have hq : isQ L a0 k = true := (isQ_iff hkl).2 ⟨p1, p4⟩
      have := countP_off (p := fun j => !(dn.getD j false) && isQ L a0 j) (p' := fun j => !((dn.set k true).getD j false) && isQ L a0 j) (k := k) (by simp [m1', hq]) (by simp only [hgd]; simp) (fun j hj => by simp only [hgd]; rw [if_neg hj]) hk
      simp only [p5, if_true, List.countP_cons, List.countP_nil, hqi, Bool.and_false, Bool.false_eq_true, if_false]
      omega
    · rw [if_neg ha]
      have hq : isQ L a k = false := by
        rw [Bool.eq_false_iff]; intro hh
        have := ((isQ_iff hkl).1 hh).2
        rw [p4] at this
        injection this with this
        subst this
        exact ha p5
      rw [countP_same (p := fun j => !(dn.getD j false) && isQ L a j) (p' := fun j => !((dn.set k true).getD j false) && isQ L a j) (fun j hj => by
        simp only [hgd]
        by_cases e : j = k
        · subst e; rw [hq]; simp
        · rw [if_neg e])]
      simp [List.countP_cons, hqi]
  · by_cases e : j = i
    · subst e
      unfold okE
      rw [hr, p5]
      have hp : 0 < opn L dn j a0 := countP_pos.2 ⟨k, hk, by simp [m1', (isQ_iff hkl).2 ⟨p1, p4⟩]⟩
      have hc := h.cnt a0
      simp [p2, p3, hc]
      omega
    · exact h.ok j hj (by omega)
end Go.Proofs.Ytkihlcecjcjmlaa
