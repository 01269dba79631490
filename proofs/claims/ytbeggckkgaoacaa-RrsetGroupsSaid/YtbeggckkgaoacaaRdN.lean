/-
  The document's Names (layer 3).
-/
import Derived.Test.YtbeggckkgaoacaaGc
namespace Go.Proofs.Ytbeggckkgaoacaa
open Go.RowKit
set_option linter.unusedVariables false
set_option maxRecDepth 100000

theorem namesD_no {t : Int} {l : Bs} (h : canD t l = false) : namesD t l = [] := by unfold namesD; rw [h]; rfl
theorem namesD_in {t : Int} {l : Bs} (h : canD t l = true) : namesD t l = if t = 2 ∨ t = 5 ∨ t = 12 then [l]
    else if t = 15 then [l.drop 2]
    else if t = 6 then (match soa l with | some s => [s.m, s.r] | none => [])
    else [] := by unfold namesD; rw [if_pos h]; rfl
theorem strs_one {w1 : World} {x : Bs} {t : TypeId} : Strs (w1.alloc (.cells #[.string (bs x)] t)) (some ⟨w1.heap.size, 0, none⟩) [x] := fun _ => by
  refine ⟨_, 0, rfl, fun j hj => ?_⟩
  have hr := row_new (w := w1) (k := w1.heap.size) (.cells #[.string (bs x)] t (0, 0)) rfl
  have : j = 0 := by simp at hj; exact hj
  subst this
  exact (cell_of_row _ _ _ _ _ _ hr).trans rfl
theorem strs_two {w1 : World} {x y : Bs} {t : TypeId} {k : Nat} (hk : k = w1.heap.size) : Strs (w1.alloc (.cells #[.string (bs x), .string (bs y)] t)) (some ⟨k, 0, none⟩) [x, y] := fun _ => by
  subst hk
  refine ⟨_, 0, rfl, fun j hj => ?_⟩
  have hr := row_new (w := w1) (k := w1.heap.size) (.cells #[.string (bs x), .string (bs y)] t (0, 0)) rfl
  have : j = 0 ∨ j = 1 := by simp at hj; omega
  rcases this with rfl | rfl
  · exact (cell_of_row _ _ _ _ _ _ hr).trans rfl
  · exact (cell_of_row _ _ _ _ _ _ hr).trans rfl
theorem canD_mx {l : Bs} (h : canD 15 l = true) : 2 < l.length := by
  unfold canD at h
  split at h
  · cases h
  · simp at h; exact h.1
theorem canD_soa {l : Bs} (h : canD 6 l = true) : ∃ s, soa l = some s := by
  unfold canD at h
  split at h
  · cases h
  · simp at h; exact Option.isSome_iff_exists.1 h

end Go.Proofs.Ytbeggckkgaoacaa
