/-
  Records put together by their name, type and class: as plain lists; the set of some; what is left of its time.
-/
import Derived.Test.YtbeggckkgaoacaaOrA
import Derived.Test.YtbeggckkgaoacaaWmA
import Derived.Test.YtbeggckkgaoacaaGe
namespace Go.Proofs.Ytbeggckkgaoacaa
open Go.RowKit
set_option linter.unusedVariables false
set_option maxRecDepth 100000

def clockN (t : Int) : Int := min (max t 0) 1099511541376
def lastN (n : Int) : Int := if n < 0 ∨ 2147483648 ≤ n then 0 else min n 86400
def rangeN (lo n : Int) : Bool := decide (lo ≤ n ∧ n ≤ 65535)
theorem clock_bd (t : Int) : 0 ≤ clockN t ∧ clockN t ≤ 1099511541376 := by unfold clockN; omega
theorem last_bdN (t : Int) : 0 ≤ lastN t ∧ lastN t ≤ 86400 := by unfold lastN; split <;> omega
def freshN (s : St) (now : Int) : Bool := decide (clockN now < s.ex)
def canRR (r : Rr) : Bool := can r.n && (rangeN 1 r.t && (rangeN 0 r.c && canD r.t r.d))

/-- A record's key. -/
def keyR (r : Rr) : Bs × Int × Int := (lower r.n, r.t, r.c)
def isK (k : Bs × Int × Int) (r : Rr) : Bool := decide (keyR r = k)
def firstsP (L : List Rr) : List Rr := L.foldl (fun o r => if o.any (isK (keyR r)) then o else o ++ [r]) []
def groupsP (L : List Rr) : List (List Rr) := (firstsP L).map fun f => L.filter (isK (keyR f))
theorem isK_iff {k : Bs × Int × Int} {r : Rr} : isK k r = true ↔ keyR r = k := by simp [isK]
theorem isK_self (r : Rr) : isK (keyR r) r = true := isK_iff.2 rfl
theorem firsts_snoc (L : List Rr) (r : Rr) : firstsP (L ++ [r]) = if (firstsP L).any (isK (keyR r)) then firstsP L else firstsP L ++ [r] := by simp [firstsP]
theorem any_isK {L : List Rr} {k : Bs × Int × Int} : L.any (isK k) = true ↔ k ∈ L.map keyR := by
  rw [List.any_eq_true, List.mem_map]
  exact ⟨fun ⟨x, h1, h2⟩ => ⟨x, h1, isK_iff.1 h2⟩, fun ⟨x, h1, h2⟩ => ⟨x, h1, isK_iff.2 h2⟩⟩
theorem rev_ind {α : Type} {P : List α → Prop} (h0 : P []) (h1 : ∀ L x, P L → P (L ++ [x])) (L : List α) : P L := by
  have h : ∀ (n : Nat) (L : List α), L.length = n → P L := by
    intro n
    induction n with
    | zero => intro L hL; rw [List.length_eq_zero_iff.1 hL]; exact h0
    | succ n ih =>
      intro L hL
      have hne : L ≠ [] := fun e => by subst e; simp at hL
      rw [← List.dropLast_concat_getLast hne]
      exact h1 _ _ (ih _ (by rw [List.length_dropLast]; omega))
  exact h _ L rfl
/-- Each key stands once among the first ones, and all do. -/
theorem firsts_all (L : List Rr) : ((firstsP L).map keyR).Nodup ∧ ∀ k, k ∈ (firstsP L).map keyR ↔ k ∈ L.map keyR := by
  induction L using rev_ind with
  | h0 => exact ⟨List.nodup_nil, fun k => by simp [firstsP]⟩
  | h1 L r ih =>
    obtain ⟨h1, h2⟩ := ih
    rw [firsts_snoc]
    split
    · rename_i h
      rw [any_isK] at h
      refine ⟨h1, fun k => ?_⟩
      rw [h2, List.map_append, List.mem_append]
      refine ⟨.inl, fun e => ?_⟩
      rcases e with e | e
      · exact e
      · have : k = keyR r := by simpa using e
        rw [this, ← h2]; exact h
    · rename_i h
      rw [any_isK] at h
      refine ⟨?_, fun k => ?_⟩
      · rw [List.map_append, List.map_singleton, List.nodup_append]
        exact ⟨h1, List.nodup_cons.2 ⟨List.not_mem_nil, List.nodup_nil⟩, fun a ha b hb e => by
          rw [List.mem_singleton] at hb
          subst hb; subst e; exact h ha⟩
      · rw [List.map_append, List.map_append, List.mem_append, List.mem_append, h2]
theorem groups_len (L : List Rr) : (groupsP L).length = (firstsP L).length := by simp [groupsP]
theorem firsts_len (L : List Rr) : (firstsP L).length ≤ L.length := by
  induction L using rev_ind with
  | h0 => simp [firstsP]
  | h1 L r ih => rw [firsts_snoc]; split <;> simp <;> omega
/-- One more record: its key is new, or not. -/
theorem groups_new {L : List Rr} {r : Rr} (h : keyR r ∉ (firstsP L).map keyR) : firstsP (L ++ [r]) = firstsP L ++ [r] ∧ groupsP (L ++ [r]) = groupsP L ++ [[r]] := by
  have hf : firstsP (L ++ [r]) = firstsP L ++ [r] := by
    rw [firsts_snoc, if_neg]
    rw [any_isK]; exact h
  refine ⟨hf, ?_⟩
  unfold groupsP
  rw [hf, List.map_append]
  congr 1
  · refine List.map_congr_left fun f hfm => ?_
    rw [List.filter_append]
    have : isK (keyR f) r = false := by
      rw [Bool.eq_false_iff]
      intro e
      exact h (by rw [isK_iff.1 e]; exact List.mem_map_of_mem hfm)
    simp [this]
  · have e : L.filter (isK (keyR r)) = [] := by
      rw [List.filter_eq_nil_iff]
      intro x hx e
      exact h (((firsts_all L).2 _).2 (by rw [← isK_iff.1 e]; exact List.mem_map_of_mem hx))
    simp [e, isK_self]
theorem nodup_ne {α : Type} {L : List α} (h : L.Nodup) {i j : Nat} (hij : i ≠ j) (hi : i < L.length) (hj : j < L.length) : L[i] ≠ L[j] := by
  have hp := List.pairwise_iff_getElem.1 h
  rcases Nat.lt_or_gt_of_ne hij with k | k
  · exact hp i j hi hj k
  · exact Ne.symm (hp j i hj hi k)
theorem groups_old {L : List Rr} {r : Rr} {i : Nat} (hi : i < (firstsP L).length) (h : keyR ((firstsP L)[i]) = keyR r) : firstsP (L ++ [r]) = firstsP L ∧ groupsP (L ++ [r]) = (groupsP L).set i (((groupsP L)[i]'(by rw [groups_len]; exact hi)) ++ [r]) := by
  have hf : firstsP (L ++ [r]) = firstsP L := by
    rw [firsts_snoc, if_pos]
    rw [any_isK, ← h]
    exact List.mem_map_of_mem (List.getElem_mem hi)
  refine ⟨hf, ?_⟩
  have hn := (firsts_all L).1
  unfold groupsP
  rw [hf]
  apply List.ext_getElem (by simp)
  intro j h1 h2
  have hj : j < (firstsP L).length := by simpa using h1
  rw [List.getElem_set]
  by_cases hij : i = j
  · subst hij
    simp only [if_true, List.getElem_map, List.filter_append]
    rw [List.append_cancel_left_eq]
    simp [isK, h]
  · rw [if_neg hij]
    simp only [List.getElem_map, List.filter_append]
    have : isK (keyR (firstsP L)[j]) r = false := by
      rw [Bool.eq_false_iff]
      intro e
      have e := isK_iff.1 e
      rw [← h] at e
      exact nodup_ne hn hij (by simpa using hi) (by simpa using hj) (by simpa using e)
    simp [this]
/-- The first one of a group is the one that it stands for. -/
theorem groups_head (L : List Rr) : ∀ i (h : i < (firstsP L).length), ((groupsP L)[i]'(by rw [groups_len]; exact h)).head? = some (firstsP L)[i] := by
  induction L using rev_ind with
  | h0 => intro i h; simp [firstsP] at h
  | h1 L r ih =>
    intro i h
    by_cases hk : keyR r ∈ (firstsP L).map keyR
    · obtain ⟨x, hx, hxe⟩ := List.mem_map.1 hk
      obtain ⟨j, hj, rfl⟩ := List.mem_iff_getElem.1 hx
      obtain ⟨e1, e2⟩ := groups_old hj hxe
      have h' : i < (firstsP L).length := by rw [e1] at h; exact h
      have e3 := ih i h'
      simp only [e1, e2]
      rw [List.getElem_set]
      split
      · rename_i hji
        subst hji
        rw [List.head?_append, e3]; rfl
      · exact e3
    · obtain ⟨e1, e2⟩ := groups_new hk
      simp only [e1, e2]
      by_cases h' : i < (firstsP L).length
      · rw [List.getElem_append_left (by rw [groups_len]; exact h'), List.getElem_append_left h']
        exact ih i h'
      · have hi : i = (firstsP L).length := by rw [e1] at h; simp at h; omega
        subst hi
        rw [List.getElem_append_right (by rw [groups_len]; exact Nat.le_refl _), List.getElem_append_right (Nat.le_refl _)]
        simp [groups_len]

/-- The least TTL of some records; their set. -/
def leastP (m : Int) (g : List Rr) : Int := g.foldl (fun m r => min m (lastN r.ttl)) m
def setP (rk now : Int) : List Rr → St
  | [] => ⟨[], 0, 0, rk, 0, clockN now + 86400, [], []⟩
  | f :: g => ⟨f.n, f.t, f.c, rk, 0, clockN now + leastP 86400 (f :: g), [], orderP ((f :: g).map (·.d))⟩
def groupP (rk now : Int) (L : List Rr) : List St := ((groupsP (L.filter canRR)).map (setP rk now)).filter canS
theorem least_bd (g : List Rr) : ∀ m : Int, 0 ≤ m → 0 ≤ leastP m g ∧ leastP m g ≤ m := by
  induction g with
  | nil => intro m h; exact ⟨h, Int.le_refl _⟩
  | cons r g ih =>
    intro m h
    have := last_bdN r.ttl
    have := ih (min m (lastN r.ttl)) (by omega)
    simp only [leastP, List.foldl_cons] at this ⊢
    omega
theorem least_snoc (m : Int) (g : List Rr) (r : Rr) : leastP m (g ++ [r]) = min (leastP m g) (lastN r.ttl) := by simp [leastP]
theorem set_head {rk now : Int} {g : List Rr} {f : Rr} (h : g.head? = some f) : setP rk now g = ⟨f.n, f.t, f.c, rk, 0, clockN now + leastP 86400 g, [], orderP (g.map (·.d))⟩ := by
  match g, h with
  | x :: g, h =>
    injection h with h
    subst h
    rfl
end Go.Proofs.Ytbeggckkgaoacaa
