/-
  Data put in order one by one: where the next one goes.
-/
import Derived.Test.YtbeggckkgaoacaaOrA
namespace Go.Proofs.Ytbeggckkgaoacaa
open Go.RowKit
set_option linter.unusedVariables false
set_option maxRecDepth 100000

theorem ins_less {d : Bs} : ∀ {A R : List Bs}, (∀ a ∈ A, Op.bytesLess a d = true) → insP d (A ++ R) = A ++ insP d R
  | [], R, _ => rfl
  | a :: A, R, h => by
    have h1 := h a (by simp)
    rw [List.cons_append, insP, if_pos h1, ins_less (fun x hx => h x (List.mem_cons_of_mem _ hx)), List.cons_append]
theorem ins_stop {d : Bs} : ∀ {A R : List Bs}, (∃ a ∈ A, Op.bytesLess a d = false) → insP d (A ++ R) = insP d A ++ R
  | [], R, ⟨a, h, _⟩ => absurd h (by simp)
  | a :: A, R, ⟨b, hb, hl⟩ => by
    rw [List.cons_append, insP, insP]
    cases ha : Op.bytesLess a d with
    | true =>
      simp only [if_true]
      rw [List.cons_append, ins_stop]
      rcases List.mem_cons.1 hb with e | e
      · subst e; rw [ha] at hl; cases hl
      · exact ⟨b, e, hl⟩
    | false =>
      simp only [Bool.false_eq_true, if_false]
      split <;> rfl
/-- Where a pass over those in order stands: what is gathered; whether the new one is among it. -/
structure Pas (d : Bs) (O acc : List Bs) (j : Nat) (p : Bool) : Prop where
  eq : acc ++ (if p then [] else [d]) = insP d (O.take j)
  less : p = false → ∀ a ∈ O.take j, Op.bytesLess a d = true
  some : p = true → ∃ a ∈ O.take j, Op.bytesLess a d = false
theorem Pas.start (d : Bs) (O : List Bs) : Pas d O [] 0 false := ⟨by simp [insP], fun _ a h => by simp at h, fun h => by cases h⟩
theorem Pas.done {d : Bs} {O acc : List Bs} (h : Pas d O acc O.length true) : acc = insP d O := by
  have := h.eq
  simpa using this
theorem Pas.last {d : Bs} {O acc : List Bs} (h : Pas d O acc O.length false) : acc ++ [d] = insP d O := by
  have := h.eq
  simpa using this
theorem Pas.low {d : Bs} {O acc : List Bs} {j : Nat} (h : Pas d O acc j false) (hj : j < O.length) (hl : Op.bytesLess O[j] d = true) : Pas d O (acc ++ [O[j]]) (j + 1) false := by
  have h1 := h.less rfl
  have he : acc = O.take j := by
    have e := h.eq
    rw [show O.take j = O.take j ++ [] by simp, ins_less h1] at e
    simpa [insP] using e
  have h2 : ∀ a ∈ O.take (j + 1), Op.bytesLess a d = true := fun a ha => by
    rw [List.take_succ_eq_append_getElem hj] at ha
    rcases List.mem_append.1 ha with k | k
    · exact h1 a k
    · rw [List.mem_singleton.1 k]; exact hl
  refine ⟨?_, fun _ => h2, fun h => by cases h⟩
  rw [show O.take (j + 1) = O.take (j + 1) ++ [] by simp, ins_less h2, List.take_succ_eq_append_getElem hj, he]
  simp [insP]
theorem Pas.same {d : Bs} {O acc : List Bs} {j : Nat} (h : Pas d O acc j false) (hj : j < O.length) (he : O[j] = d) : Pas d O (acc ++ [d]) (j + 1) true := by
  have h1 := h.less rfl
  have ha : acc = O.take j := by
    have e := h.eq
    rw [show O.take j = O.take j ++ [] by simp, ins_less h1] at e
    simpa [insP] using e
  refine ⟨?_, (fun h => by cases h), fun _ => ⟨d, ?_, less_irrefl d⟩⟩
  · rw [List.take_succ_eq_append_getElem hj, ins_less h1, ha, he]
    simp [insP, less_irrefl]
  · rw [List.take_succ_eq_append_getElem hj, he]; simp
theorem Pas.high {d : Bs} {O acc : List Bs} {j : Nat} (h : Pas d O acc j false) (hj : j < O.length) (hl : Op.bytesLess O[j] d = false) (he : O[j] ≠ d) : Pas d O (acc ++ [d, O[j]]) (j + 1) true := by
  have h1 := h.less rfl
  have ha : acc = O.take j := by
    have e := h.eq
    rw [show O.take j = O.take j ++ [] by simp, ins_less h1] at e
    simpa [insP] using e
  refine ⟨?_, (fun h => by cases h), fun _ => ⟨O[j], ?_, hl⟩⟩
  · rw [List.take_succ_eq_append_getElem hj, ins_less h1, ha]
    simp [insP, hl, he]
  · rw [List.take_succ_eq_append_getElem hj]; exact List.mem_append_right _ (List.mem_singleton_self _)
theorem Pas.over {d : Bs} {O acc : List Bs} {j : Nat} (h : Pas d O acc j true) (hU : Up O) (hj : j < O.length) : Op.bytesLess O[j] d = false ∧ O[j] ≠ d ∧ Pas d O (acc ++ [O[j]]) (j + 1) true := by
  obtain ⟨a, ha, hl⟩ := h.some rfl
  obtain ⟨i, hi, rfl⟩ := List.mem_iff_getElem.1 ha
  have hij : i < j := by simp at hi; omega
  rw [List.getElem_take] at hl
  have hlt := up_at hU hij hj
  have hdx : Op.bytesLess d O[j] = true := by
    rcases less_total (O[i]'(by omega)) d with k | k | k
    · rw [hl] at k; cases k
    · rw [← k]; exact hlt
    · exact less_trans k hlt
  refine ⟨less_asymm hdx, (fun e => by rw [e, less_irrefl] at hdx; cases hdx), ?_, (fun h => by cases h), fun _ => ⟨O[j], ?_, less_asymm hdx⟩⟩
  · have e := h.eq
    rw [List.take_succ_eq_append_getElem hj, ins_stop ⟨_, ha, by rw [List.getElem_take]; exact hl⟩, ← e]
    simp
  · rw [List.take_succ_eq_append_getElem hj]; exact List.mem_append_right _ (List.mem_singleton_self _)
end Go.Proofs.Ytbeggckkgaoacaa
