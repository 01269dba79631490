/-
  Sets in a row that the call made; one more of them.
-/
import Derived.Test.YtbeggckkgaoacaaLw
import Derived.Test.YtbeggckkgaoacaaGe
namespace Go.Proofs.Ytbeggckkgaoacaa
open Go.RowKit
set_option linter.unusedVariables false
set_option maxRecDepth 100000

theorem info_s8 : (Try.prog.info? 29).map (fun i => (i.zero, i.size, i.bytes)) = some (some (.agg #[.string ⟨#[]⟩, .int .i64 0, .int .i64 0, .int .i64 0, .int .i64 0, .int .i64 0, .string ⟨#[]⟩, .slice none 0 0]), 8, 96) := by kernel_rfl
/-- Rows of sets, laid end to end; their data in memory of the call's own. -/
def Rows8 (w : World) (B : Nat) (xs : List Value) (M : List St) : Prop := xs.length = M.length * 8 ∧ ∀ j (h : j < M.length), ∃ a c, OwnL w B (.slice a (M[j]).ds.length c) (M[j]).ds ∧ ∀ i, i < 8 → xs[j * 8 + i]? = (stL M[j] a c)[i]?
theorem Rows8.nil (w : World) (B : Nat) : Rows8 w B [] [] := ⟨rfl, fun j h => absurd h (by simp)⟩
theorem Rows8.keptE {w w' : World} {B : Nat} {xs : List Value} {M : List St} {r : Option Nat} (h : Rows8 w B xs M) (hg : w.grownBy w' r) (h1 : Elsewhere w 5 r) (h2 : Elsewhere w 37 r) : Rows8 w' B xs M :=
  ⟨h.1, fun j hj => by
    obtain ⟨a, c, k1, k2⟩ := h.2 j hj
    exact ⟨a, c, k1.keptE hg h1 h2, k2⟩⟩
theorem Rows8.snoc {w : World} {B : Nat} {xs : List Value} {M : List St} {x : St} {a : Option Addr} {c : Nat} (h : Rows8 w B xs M) (hd : OwnL w B (.slice a x.ds.length c) x.ds) : Rows8 w B (xs ++ stL x a c) (M ++ [x]) := by
  refine ⟨by rw [List.length_append, List.length_append, h.1]; simp [stL, Nat.add_mul], fun j hj => ?_⟩
  rw [List.length_append] at hj
  by_cases hjl : j < M.length
  · obtain ⟨a', c', h1, h2⟩ := h.2 j hjl
    rw [List.getElem_append_left hjl]
    refine ⟨a', c', h1, fun i hi => ?_⟩
    rw [List.getElem?_append_left (by rw [h.1]; omega)]
    exact h2 i hi
  · have : j = M.length := by simp at hj; omega
    subst this
    rw [List.getElem_append_right (Nat.le_refl _)]
    simp only [Nat.sub_self, List.getElem_cons_zero]
    refine ⟨a, c, hd, fun i hi => ?_⟩
    rw [List.getElem?_append_right (by rw [h.1]; omega), h.1]
    congr 1
    omega
/-- A list of sets that the call made. -/
def OwnS (w : World) (B : Nat) (v : Value) (M : List St) : Prop := ∃ xs, w.ownsRow B 29 8 v M.length xs ∧ Rows8 w B xs M
theorem OwnS.nil (w : World) (B : Nat) : OwnS w B (.slice none 0 0) [] := ⟨[], World.ownsRow_nil _ _ _ _, Rows8.nil _ _⟩
theorem OwnS.keptE {w w' : World} {B : Nat} {v : Value} {M : List St} {r : Option Nat} (h : OwnS w B v M) (hg : w.grownBy w' r) (h1 : Elsewhere w 5 r) (h2 : Elsewhere w 37 r) (h3 : Elsewhere w 29 r) : OwnS w' B v M := by
  obtain ⟨xs, a, b⟩ := h
  exact ⟨xs, own_keptE a hg h3, b.keptE hg h1 h2⟩
theorem OwnS.below {w w' : World} {B : Nat} {v : Value} {M : List St} (h : OwnS w B v M) (hB : Below w.heap.size w w') : OwnS w' B v M := h.keptE (grown_of_below hB none) (elsewhere_none _ _) (elsewhere_none _ _) (elsewhere_none _ _)
theorem Rows8.mono {w : World} {B B' : Nat} {xs : List Value} {M : List St} (h : Rows8 w B xs M) (hb : B' ≤ B) : Rows8 w B' xs M :=
  ⟨h.1, fun j hj => by
    obtain ⟨a, c, k1, k2⟩ := h.2 j hj
    exact ⟨a, c, k1.mono hb, k2⟩⟩
theorem OwnS.mono {w : World} {B B' : Nat} {v : Value} {M : List St} (h : OwnS w B v M) (hb : B' ≤ B) : OwnS w B' v M := by
  obtain ⟨xs, a, b⟩ := h
  exact ⟨xs, own_mono a hb, b.mono hb⟩
theorem OwnS.lt {w : World} {B : Nat} {v : Value} {M : List St} (h : OwnS w B v M) : ∀ k, v.ownBlock = some k → B ≤ k ∧ k < w.heap.size := by
  obtain ⟨xs, a, b⟩ := h
  exact a.lt
/-- The j-th set of a list. -/
theorem OwnS.at {w : World} {B : Nat} {v : Value} {M : List St} (h : OwnS w B v M) {j : Nat} (hj : j < M.length) : ∃ g c a d, v = .slice (some ⟨g, 0, none⟩) M.length c ∧ M.length ≤ c ∧ c ≤ maxLen ∧ w.rangeAt g (j * 8) (stL M[j] a d) ∧ OwnL w B (.slice a (M[j]).ds.length d) (M[j]).ds := by
  obtain ⟨xs, o, r⟩ := h
  obtain ⟨a, d, h1, h2⟩ := r.2 j hj
  rcases o.2 with ⟨h4, h5⟩ | ⟨g, cap, cur, h4, hb, hh, hc, hm, hsz, ht⟩
  · omega
  · refine ⟨g, cap, a, d, h4, hc, hm, fun i v hi => ?_, h1⟩
    obtain ⟨hil, _⟩ := List.getElem?_eq_some_iff.1 hi
    have hi8 : i < 8 := hil
    have h3 := h2 i hi8
    rw [cell_of_row _ g (j * 8 + i) _ _ _ hh]
    rw [hi, ← ht, List.getElem?_take_of_lt (by have := Nat.mul_le_mul_right 8 (show j + 1 ≤ M.length by omega); omega)] at h3
    simpa using h3
theorem OwnS.form {w : World} {B : Nat} {v : Value} {M : List St} (h : OwnS w B v M) : ∃ A c, v = .slice A M.length c ∧ M.length ≤ c ∧ c ≤ 9223372036854775807 := by
  obtain ⟨xs, o, r⟩ := h
  obtain ⟨A, c, h1, h2, h3⟩ := own_form o
  exact ⟨A, c, h1, h2, by unfold maxLen at h3; omega⟩
theorem st_oneL (s : St) (a : Option Addr) (c : Nat) : ∀ u ∈ stL s a c, u.oneCell' = true := fun u hu => by
  simp only [stL, List.mem_cons, List.not_mem_nil, or_false] at hu
  rcases hu with rfl | rfl | rfl | rfl | rfl | rfl | rfl | rfl <;> rfl
section
variable {ops : Array Oper} {rest : List Oper} {o : Oper} {a : Act} {W : World} {Q : Exit → Act → World → Prop}
theorem wpList_snocS (hgd : o.guard = none) (s y : Operand) (ho : o.op = .call { callee := .builtin .append, args := #[s, y], argTypes := #[24, 24] })
    (B : Nat) (v : Value) (M : List St) (hs : a.eval s = v) (hN : OwnS W B v M) (hx : a.eval y = .slice (some ⟨W.heap.size, 0, none⟩) 1 1) (x : St) (A : Option Addr) (c : Nat) (C : Array Value) (hC : C = stC x A c) (hd : OwnL W B (.slice A x.ds.length c) x.ds) (hlen : (M.length + 1) * 96 ≤ 140737488355328) (hb : B ≤ W.heap.size)
    (h : ∀ v' w', OwnS w' B v' (M ++ [x]) → Below B W w' → wpList Try.prog ops Q rest (a.put o.dst v') w') :
    wpList Try.prog ops Q (o :: rest) a (W.alloc (.cells C 29)) := by
  obtain ⟨i0, hi, hz0, hz1, hz2⟩ := info_parts info_s8
  have b0 : Below W.heap.size W (W.alloc (.cells C 29)) := Below.alloc (Below.refl _ _) (Nat.le_refl _) _
  obtain ⟨xs, o1, r1⟩ := hN.below b0
  have d1 := hd.below b0
  have hl := hN.lt
  refine wpList_plain hgd fun K hK => ?_
  obtain ⟨v', w', hr, h3, h4, -, h6⟩ := run_append_own_at (P := Try.prog) (W.alloc (.cells C 29)) B 24 o.type 29 i0 (.agg #[.string ⟨#[]⟩, .int .i64 0, .int .i64 0, .int .i64 0, .int .i64 0, .int .i64 0, .string ⟨#[]⟩, .slice none 0 0]) 8 96 Try.underlying24 hi hz0 hz1 hz2 rfl (by decide) v M.length xs o1 ⟨W.heap.size, 0, none⟩ 1 1 (stL x A c) rfl (fun j u hj => by
    rw [Addr.add_lit, Nat.zero_add, cell_of_row _ _ j _ _ _ (row_new _ rfl), hC, stC, List.getElem?_toArray]
    exact hj) (st_oneL x A c) (by unfold maxLen; omega) (by omega) (by simp; omega)
  unfold Oper.wp execOp
  simp only [ho, resolve, invoke, builtin, Sem.run_bind, Sem.run_pure, Result.andThen_ok, List.map_toArray, List.map_cons, List.map_nil, hs, hx, hr]
  have e1 := elsewhere_own (t := 5) o1 (by decide)
  have e2 := elsewhere_own (t := 37) o1 (by decide)
  exact hK _ _ (h v' w' ⟨xs ++ stL x A c, by simpa using h3, (r1.keptE h4 e1 e2).snoc (d1.keptE h4 e1 e2)⟩ (Below.grown (b0.mono hb) h4 (by simp; omega) (fun k hk => (hl k hk).1)))
end
end Go.Proofs.Ytbeggckkgaoacaa
