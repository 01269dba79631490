/-
  Records in rows whose data lie in an older world; groups of them in memory.
-/
import Derived.Test.YtbeggckkgaoacaaGrA
import Derived.Test.YtbeggckkgaoacaaWmH
import Derived.Test.YtbeggckkgaoacaaEl
namespace Go.Proofs.Ytbeggckkgaoacaa
open Go.RowKit
set_option linter.unusedVariables false
set_option maxRecDepth 100000

/-- Rows of records, laid end to end; their data lie in the world w0. -/
def RowsD (w0 : World) (xs : List Value) (M : List Rr) : Prop := xs.length = M.length * 5 ∧ ∀ j (h : j < M.length), ∃ a c, Dat w0 a c (M[j]).d ∧ ∀ i, i < 5 → xs[j * 5 + i]? = (rrL M[j] a c)[i]?
theorem RowsD.nil (w0 : World) : RowsD w0 [] [] := ⟨rfl, fun j h => absurd h (by simp)⟩
theorem RowsD.snoc {w0 : World} {xs : List Value} {M : List Rr} {x : Rr} {a : Option Addr} {c : Nat} (h : RowsD w0 xs M) (hd : Dat w0 a c x.d) : RowsD w0 (xs ++ rrL x a c) (M ++ [x]) := by
  refine ⟨by rw [List.length_append, List.length_append, h.1]; simp [rrL, Nat.add_mul], fun j hj => ?_⟩
  rw [List.length_append] at hj
  by_cases hjl : j < M.length
  · obtain ⟨a', c', h1, h2⟩ := h.2 j hjl
    rw [List.getElem_append_left hjl]
    refine ⟨a', c', h1, fun i hi => ?_⟩
    rw [List.getElem?_append_left (by rw [h.1]; omega)]
    exact h2 i hi
  · have : j = M.length := by simp at hj; omega
    subst this
    rw [List.getElem_append_right (Nat.le_refl _)]
    simp only [Nat.sub_self, List.getElem_cons_zero]
    refine ⟨a, c, hd, fun i hi => ?_⟩
    rw [List.getElem?_append_right (by rw [h.1]; omega), h.1]
    congr 1
    omega
/-- .. as a slice of records. -/
theorem RowsD.rs {w0 w : World} {base n : Nat} {A : Option Addr} {c : Nat} {xs : List Value} {M : List Rr} (ho : w.ownsRow base 39 5 (.slice A n c) n xs) (h : RowsD w0 xs M) (hB : Below w0.heap.size w0 w) : n = M.length ∧ Rs w A M ∧ n ≤ c ∧ c ≤ 9223372036854775807 := by
  have hl : n = M.length := by have := ho.1; rw [h.1] at this; omega
  rcases ho.2 with ⟨hv, h0⟩ | ⟨g, cap, cur, hv, hb, hh, hc, hm2, hsz, ht⟩
  · injection hv with e1 e2 e3
    exact ⟨hl, fun hn => by omega, by omega, by omega⟩
  · injection hv with e1 e2 e3
    refine ⟨hl, fun hn => ⟨g, 0, e1, fun j hj => ?_⟩, by omega, by unfold maxLen at hm2; omega⟩
    obtain ⟨a, c', h1, h2⟩ := h.2 j hj
    refine ⟨a, c', h1.on hB, fun i v hi => ?_⟩
    obtain ⟨hil, _⟩ := List.getElem?_eq_some_iff.1 hi
    have hi5 : i < 5 := hil
    have h3 := h2 i hi5
    rw [cell_of_row _ g (0 + j * 5 + i) _ _ _ hh]
    rw [hi, ← ht, List.getElem?_take_of_lt (by rw [hl]; have := Nat.mul_le_mul_right 5 (show j + 1 ≤ M.length by omega); omega)] at h3
    rw [Nat.zero_add]
    simpa using h3
/-- Records in a row that the call made. -/
def OwnG (w0 w : World) (B : Nat) (v : Value) (M : List Rr) : Prop := ∃ xs, w.ownsRow B 39 5 v M.length xs ∧ RowsD w0 xs M
theorem OwnG.nil (w0 w : World) (B : Nat) : OwnG w0 w B (.slice none 0 0) [] := ⟨[], World.ownsRow_nil _ _ _ _, RowsD.nil w0⟩
theorem OwnG.kept {w0 w w' : World} {B : Nat} {v : Value} {M : List Rr} {r : Option Nat} (h : OwnG w0 w B v M) (hg : w.grownBy w' r) (hn : v.ownBlock = none ∨ v.ownBlock ≠ r) : OwnG w0 w' B v M := by
  obtain ⟨xs, h1, h2⟩ := h
  exact ⟨xs, World.ownsRow.kept h1 hg hn, h2⟩
theorem OwnG.lt {w0 w : World} {B : Nat} {v : Value} {M : List Rr} (h : OwnG w0 w B v M) : ∀ k, v.ownBlock = some k → B ≤ k ∧ k < w.heap.size := by
  obtain ⟨xs, h1, h2⟩ := h
  exact h1.lt
theorem OwnG.kind {w0 w : World} {B : Nat} {v : Value} {M : List Rr} (h : OwnG w0 w B v M) : ∀ g, v.ownBlock = some g → ∃ cs fz, w.heap[g]? = some (.cells cs 39 fz) := by
  obtain ⟨xs, h1, h2⟩ := h
  exact own_kind h1
theorem OwnG.form {w0 w : World} {B : Nat} {v : Value} {M : List Rr} (h : OwnG w0 w B v M) (hB : Below w0.heap.size w0 w) : ∃ A c, v = .slice A M.length c ∧ Rs w A M ∧ M.length ≤ c ∧ c ≤ 9223372036854775807 := by
  obtain ⟨xs, h1, h2⟩ := h
  obtain ⟨A, c, rfl, -, -⟩ := own_form h1
  obtain ⟨-, h3, h4, h5⟩ := h2.rs h1 hB
  exact ⟨A, c, rfl, h3, h4, h5⟩
theorem OwnG.keptE {w0 w w' : World} {B : Nat} {v : Value} {M : List Rr} {r : Option Nat} (h : OwnG w0 w B v M) (hg : w.grownBy w' r) (hr : Elsewhere w 39 r) : OwnG w0 w' B v M := h.kept hg (by
  cases hv : v.ownBlock with
  | none => exact .inl rfl
  | some k =>
    refine .inr fun e => ?_
    obtain ⟨cs, fz, h2⟩ := h.kind k hv
    exact hr k e.symm cs fz h2)

/-- Groups of records: a list of such rows, each in a block of its own. -/
structure Grp (w0 w : World) (B : Nat) (vs : List Value) (M : List (List Rr)) : Prop where
  len : vs.length = M.length
  row : ∀ j (h : j < M.length) v, vs[j]? = some v → OwnG w0 w B v M[j]
  apart : ∀ (i j : Nat) (v u : Value), i ≠ j → vs[i]? = some v → vs[j]? = some u → v.ownBlock = none ∨ v.ownBlock ≠ u.ownBlock
theorem Grp.nil (w0 w : World) (B : Nat) : Grp w0 w B [] [] := ⟨rfl, fun j h => absurd h (by simp), fun i j v u _ h => by simp at h⟩
theorem Grp.keptE {w0 w w' : World} {B : Nat} {vs : List Value} {M : List (List Rr)} {r : Option Nat} (h : Grp w0 w B vs M) (hg : w.grownBy w' r) (hr : Elsewhere w 39 r) : Grp w0 w' B vs M :=
  ⟨h.len, fun j hj v hv => (h.row j hj v hv).keptE hg hr, h.apart⟩
theorem Grp.below {w0 w w' : World} {B : Nat} {vs : List Value} {M : List (List Rr)} (h : Grp w0 w B vs M) (hB : Below w.heap.size w w') : Grp w0 w' B vs M := h.keptE (grown_of_below hB none) (elsewhere_none _ _)
theorem Grp.get {w0 w : World} {B : Nat} {vs : List Value} {M : List (List Rr)} (h : Grp w0 w B vs M) {j : Nat} (hj : j < M.length) : ∃ v, vs[j]? = some v ∧ OwnG w0 w B v M[j] := by
  have hl : j < vs.length := by rw [h.len]; exact hj
  exact ⟨vs[j], List.getElem?_eq_getElem hl, h.row j hj _ (List.getElem?_eq_getElem hl)⟩
/-- One more group, of nothing yet. -/
theorem Grp.more {w0 w : World} {B : Nat} {vs : List Value} {M : List (List Rr)} (h : Grp w0 w B vs M) : Grp w0 w B (vs ++ [.slice none 0 0]) (M ++ [[]]) := by
  have hl := h.len
  refine ⟨by simp [hl], fun j hj v hv => ?_, fun i j v u hij hv hu => ?_⟩
  · by_cases hjl : j < M.length
    · rw [List.getElem?_append_left (by omega)] at hv
      rw [List.getElem_append_left hjl]
      exact h.row j hjl v hv
    · have : j = M.length := by simp at hj; omega
      subst this
      rw [List.getElem?_append_right (by omega), hl, Nat.sub_self] at hv
      simp at hv
      subst hv
      rw [List.getElem_append_right (Nat.le_refl _)]
      simpa using OwnG.nil w0 w B
  · by_cases hil : i < vs.length
    · rw [List.getElem?_append_left hil] at hv
      by_cases hjl : j < vs.length
      · rw [List.getElem?_append_left hjl] at hu
        exact h.apart i j v u hij hv hu
      · rw [List.getElem?_append_right (by omega)] at hu
        obtain ⟨hh, -⟩ := List.getElem?_eq_some_iff.1 hu
        have : j - vs.length = 0 := by simp at hh; omega
        rw [this] at hu
        simp at hu
        subst hu
        cases hv' : v.ownBlock with
        | none => exact .inl rfl
        | some k => exact .inr (by simp [Value.ownBlock])
    · rw [List.getElem?_append_right (by omega)] at hv
      obtain ⟨hh, -⟩ := List.getElem?_eq_some_iff.1 hv
      have : i - vs.length = 0 := by simp at hh; omega
      rw [this] at hv
      simp at hv
      subst hv
      exact .inl rfl
/-- A group that has grown. -/
theorem Grp.grew {w0 w w' : World} {B j : Nat} {vs : List Value} {M : List (List Rr)} {v v' : Value} {g : List Rr} (h : Grp w0 w B vs M) (hj : j < M.length) (hv : vs[j]? = some v) (hg : w.grownBy w' v.ownBlock) (hn : OwnG w0 w' B v' g) (hb : v'.ownBlock = v.ownBlock ∨ ∃ k, v'.ownBlock = some k ∧ w.heap.size ≤ k) : Grp w0 w' B (vs.set j v') (M.set j g) := by
  have hl := h.len
  have hjv : j < vs.length := by omega
  have out : ∀ (i : Nat) (x : Value), i ≠ j → vs[i]? = some x → x.ownBlock = none ∨ x.ownBlock ≠ v'.ownBlock := fun i x hij hx => by
    rcases h.apart i j x v hij hx hv with e | e
    · exact .inl e
    · rcases hb with e2 | ⟨k, e2, hk⟩
      · rw [e2]; exact .inr e
      · refine .inr fun e3 => ?_
        have hi : i < M.length := by have := (List.getElem?_eq_some_iff.1 hx).1; omega
        have := ((h.row i hi x hx).lt k (by rw [e3, e2])).2
        omega
  refine ⟨by simp [hl], fun i hi x hx => ?_, fun i k x y hik hx hy => ?_⟩
  · by_cases hij : i = j
    · subst hij
      rw [List.getElem?_set_self hjv] at hx
      injection hx with hx
      subst hx
      simpa using hn
    · rw [List.getElem?_set_ne (Ne.symm hij)] at hx
      rw [List.getElem_set_ne (Ne.symm hij)]
      have hi' : i < M.length := by simpa using hi
      exact (h.row i hi' x hx).kept hg (h.apart i j x v hij hx hv)
  · by_cases hij : i = j
    · subst hij
      rw [List.getElem?_set_self hjv] at hx
      rw [List.getElem?_set_ne hik] at hy
      injection hx with hx
      subst hx
      rcases out k y (Ne.symm hik) hy with e | e
      · cases hv' : v'.ownBlock with
        | none => exact .inl rfl
        | some q => rw [e]; exact .inr (by simp)
      · exact .inr (Ne.symm e)
    · rw [List.getElem?_set_ne (Ne.symm hij)] at hx
      by_cases hkj : k = j
      · subst hkj
        rw [List.getElem?_set_self hjv] at hy
        injection hy with hy
        subst hy
        exact out i x hij hx
      · rw [List.getElem?_set_ne (Ne.symm hkj)] at hy
        exact h.apart i k x y hik hx hy
end Go.Proofs.Ytbeggckkgaoacaa
