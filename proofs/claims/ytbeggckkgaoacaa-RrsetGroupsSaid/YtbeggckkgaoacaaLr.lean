/-
  Records in a row that the call made, their data of the call's own; one more of them.
-/
import Derived.Test.YtbeggckkgaoacaaLg
namespace Go.Proofs.Ytbeggckkgaoacaa
open Go.RowKit
set_option linter.unusedVariables false
set_option maxRecDepth 100000

/-- Rows of sets, laid end to end; their data in memory of the call's own. -/
def RowsOw (w : World) (B : Nat) (xs : List Value) (M : List Rr) : Prop := xs.length = M.length * 5 ∧ ∀ j (h : j < M.length), ∃ a c, OwnR w B (.slice a (M[j]).d.length c) (M[j]).d ∧ ∀ i, i < 5 → xs[j * 5 + i]? = (rrL M[j] a c)[i]?
theorem RowsOw.nil (w : World) (B : Nat) : RowsOw w B [] [] := ⟨rfl, fun j h => absurd h (by simp)⟩
theorem RowsOw.keptE {w w' : World} {B : Nat} {xs : List Value} {M : List Rr} {r : Option Nat} (h : RowsOw w B xs M) (hg : w.grownBy w' r) (h1 : Elsewhere w 5 r) : RowsOw w' B xs M :=
  ⟨h.1, fun j hj => by
    obtain ⟨a, c, k1, k2⟩ := h.2 j hj
    exact ⟨a, c, k1.keptE hg h1, k2⟩⟩
theorem RowsOw.snoc {w : World} {B : Nat} {xs : List Value} {M : List Rr} {x : Rr} {a : Option Addr} {c : Nat} (h : RowsOw w B xs M) (hd : OwnR w B (.slice a x.d.length c) x.d) : RowsOw w B (xs ++ rrL x a c) (M ++ [x]) := by
  refine ⟨by rw [List.length_append, List.length_append, h.1]; simp [rrL, Nat.add_mul], fun j hj => ?_⟩
  rw [List.length_append] at hj
  by_cases hjl : j < M.length
  · obtain ⟨a', c', h1, h2⟩ := h.2 j hjl
    rw [List.getElem_append_left hjl]
    refine ⟨a', c', h1, fun i hi => ?_⟩
    rw [List.getElem?_append_left (by rw [h.1]; omega)]
    exact h2 i hi
  · have : j = M.length := by simp at hj; omega
    subst this
    rw [List.getElem_append_right (Nat.le_refl _)]
    simp only [Nat.sub_self, List.getElem_cons_zero]
    refine ⟨a, c, hd, fun i hi => ?_⟩
    rw [List.getElem?_append_right (by rw [h.1]; omega), h.1]
    congr 1
    omega
/-- A list of sets that the call made. -/
def OwnO (w : World) (B : Nat) (v : Value) (M : List Rr) : Prop := ∃ xs, w.ownsRow B 39 5 v M.length xs ∧ RowsOw w B xs M
theorem OwnO.nil (w : World) (B : Nat) : OwnO w B (.slice none 0 0) [] := ⟨[], World.ownsRow_nil _ _ _ _, RowsOw.nil _ _⟩
theorem OwnO.keptE {w w' : World} {B : Nat} {v : Value} {M : List Rr} {r : Option Nat} (h : OwnO w B v M) (hg : w.grownBy w' r) (h1 : Elsewhere w 5 r) (h3 : Elsewhere w 39 r) : OwnO w' B v M := by
  obtain ⟨xs, a, b⟩ := h
  exact ⟨xs, own_keptE a hg h3, b.keptE hg h1⟩
theorem OwnO.below {w w' : World} {B : Nat} {v : Value} {M : List Rr} (h : OwnO w B v M) (hB : Below w.heap.size w w') : OwnO w' B v M := h.keptE (grown_of_below hB none) (elsewhere_none _ _) (elsewhere_none _ _)
theorem RowsOw.mono {w : World} {B B' : Nat} {xs : List Value} {M : List Rr} (h : RowsOw w B xs M) (hb : B' ≤ B) : RowsOw w B' xs M :=
  ⟨h.1, fun j hj => by
    obtain ⟨a, c, k1, k2⟩ := h.2 j hj
    exact ⟨a, c, k1.mono hb, k2⟩⟩
theorem OwnO.mono {w : World} {B B' : Nat} {v : Value} {M : List Rr} (h : OwnO w B v M) (hb : B' ≤ B) : OwnO w B' v M := by
  obtain ⟨xs, a, b⟩ := h
  exact ⟨xs, own_mono a hb, b.mono hb⟩
theorem OwnO.lt {w : World} {B : Nat} {v : Value} {M : List Rr} (h : OwnO w B v M) : ∀ k, v.ownBlock = some k → B ≤ k ∧ k < w.heap.size := by
  obtain ⟨xs, a, b⟩ := h
  exact a.lt
/-- The j-th set of a list. -/
theorem OwnO.at {w : World} {B : Nat} {v : Value} {M : List Rr} (h : OwnO w B v M) {j : Nat} (hj : j < M.length) : ∃ g c a d, v = .slice (some ⟨g, 0, none⟩) M.length c ∧ M.length ≤ c ∧ c ≤ maxLen ∧ w.rangeAt g (j * 5) (rrL M[j] a d) ∧ OwnR w B (.slice a (M[j]).d.length d) (M[j]).d := by
  obtain ⟨xs, o, r⟩ := h
  obtain ⟨a, d, h1, h2⟩ := r.2 j hj
  rcases o.2 with ⟨h4, h5⟩ | ⟨g, cap, cur, h4, hb, hh, hc, hm, hsz, ht⟩
  · omega
  · refine ⟨g, cap, a, d, h4, hc, hm, fun i v hi => ?_, h1⟩
    obtain ⟨hil, _⟩ := List.getElem?_eq_some_iff.1 hi
    have hi5 : i < 5 := hil
    have h3 := h2 i hi5
    rw [cell_of_row _ g (j * 5 + i) _ _ _ hh]
    rw [hi, ← ht, List.getElem?_take_of_lt (by have := Nat.mul_le_mul_right 5 (show j + 1 ≤ M.length by omega); omega)] at h3
    simpa using h3
theorem OwnO.form {w : World} {B : Nat} {v : Value} {M : List Rr} (h : OwnO w B v M) : ∃ A c, v = .slice A M.length c ∧ M.length ≤ c ∧ c ≤ 9223372036854775807 := by
  obtain ⟨xs, o, r⟩ := h
  obtain ⟨A, c, h1, h2, h3⟩ := own_form o
  exact ⟨A, c, h1, h2, by unfold maxLen at h3; omega⟩
/-- append, its slice and its world by name. -/
noncomputable def apV (v u : Value) (w : World) : Value := match (Builtin.append_ #[22, 22] 22 #[v, u]).run Try.prog w with
  | .ok a _ => a
  | .halt _ _ => undef
noncomputable def apW (v u : Value) (w : World) : World := match (Builtin.append_ #[22, 22] 22 #[v, u]).run Try.prog w with
  | .ok _ w' => w'
  | .halt _ w' => w'
theorem run_appO {W : World} {B : Nat} {v : Value} {M : List Rr} (hN : OwnO W B v M) (x : Rr) (A : Option Addr) (c : Nat) (C : Array Value) (hC : C = rrC x A c) (hd : OwnR W B (.slice A x.d.length c) x.d) (hlen : (M.length + 1) * 64 ≤ 140737488355328) (hb : B ≤ W.heap.size) :
    appRr v (.slice (some ⟨W.heap.size, 0, none⟩) 1 1) 22 (W.alloc (.cells C 39)) = .ok (.value (apV v (.slice (some ⟨W.heap.size, 0, none⟩) 1 1) (W.alloc (.cells C 39)))) (apW v (.slice (some ⟨W.heap.size, 0, none⟩) 1 1) (W.alloc (.cells C 39))) ∧
    OwnO (apW v (.slice (some ⟨W.heap.size, 0, none⟩) 1 1) (W.alloc (.cells C 39))) B (apV v (.slice (some ⟨W.heap.size, 0, none⟩) 1 1) (W.alloc (.cells C 39))) (M ++ [x]) ∧
    Below B W (apW v (.slice (some ⟨W.heap.size, 0, none⟩) 1 1) (W.alloc (.cells C 39))) := by
  obtain ⟨i0, hi, hz0, hz1, hz2⟩ := info_parts info_r5
  have b0 : Below W.heap.size W (W.alloc (.cells C 39)) := Below.alloc (Below.refl _ _) (Nat.le_refl _) _
  obtain ⟨xs, o1, r1⟩ := hN.below b0
  have d1 := hd.below b0
  have hl := hN.lt
  obtain ⟨v', w', hr, h3, h4, -, h6⟩ := run_append_own_at (P := Try.prog) (W.alloc (.cells C 39)) B 22 22 39 i0 (.agg #[.string ⟨#[]⟩, .int .i64 0, .int .i64 0, .int .i64 0, .slice none 0 0]) 5 64 Try.underlying22 hi hz0 hz1 hz2 rfl (by decide) v M.length xs o1 ⟨W.heap.size, 0, none⟩ 1 1 (rrL x A c) rfl (fun j u hj => by
    rw [Addr.add_lit, Nat.zero_add, cell_of_row _ _ j _ _ _ (row_new _ rfl), hC, rrC, List.getElem?_toArray]
    exact hj) (rr_oneL x A c) (by unfold maxLen; omega) (by omega) (by simp; omega)
  have e1 := elsewhere_own (t := 5) o1 (by decide)
  have ev : apV v (.slice (some ⟨W.heap.size, 0, none⟩) 1 1) (W.alloc (.cells C 39)) = v' := by unfold apV; rw [hr]
  have ew : apW v (.slice (some ⟨W.heap.size, 0, none⟩) 1 1) (W.alloc (.cells C 39)) = w' := by unfold apW; rw [hr]
  rw [ev, ew]
  refine ⟨by unfold appRr; rw [hr]; rfl, ⟨xs ++ rrL x A c, by simpa using h3, (r1.keptE h4 e1).snoc (d1.keptE h4 e1)⟩, Below.grown (b0.mono hb) h4 (by simp; omega) (fun k hk => (hl k hk).1)⟩
end Go.Proofs.Ytbeggckkgaoacaa
