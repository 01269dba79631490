/-
  slices.Reverse on texts of our own.
-/
import Derived.Test.YtbeggckkgaoacaaOrB
import Derived.Test.YtbeggckkgaoacaaLyR
namespace Go.Proofs.Ytbeggckkgaoacaa
open Go.RowKit
set_option linter.unusedVariables false
set_option maxRecDepth 100000

theorem revNil_any (A : Option Addr) (c : Nat) (w : World) : Calls Try.prog 29 #[.slice A 0 c] w fun e w' => e = .returned (.tuple #[]) ∧ w' = w := by
  have h := AnyE.slices_Reverse_empty revL A c w
  change Calls Try.prog 29 _ _ _ at h
  exact h
theorem revB_any (w0 w : World) (base g cap : Nat) (d : List (Bv w0)) (hlim : d.length ≤ 9223372036854775807) (hrow : w.ownsRow base 37 1 (.slice (some ⟨g, 0, none⟩) d.length cap) d.length (d.map Bv.v)) :
    Calls Try.prog 29 #[.slice (some ⟨g, 0, none⟩) d.length cap] w fun e w' => e = .returned (.tuple #[]) ∧ w'.ownsRow base 37 1 (.slice (some ⟨g, 0, none⟩) d.length cap) d.length (d.reverse.map Bv.v) ∧ w.grownBy w' (some g) := by
  rcases hrow.2 with ⟨hv, _⟩ | ⟨g', cap', cur, hv, hb, hh, hc, hm, hsz, ht⟩
  · cases hv
  injection hv with e1 _ e2
  injection e1 with e1
  injection e1 with e1
  subst e1 e2
  have hH : Sort.Holds (Bv.v (w0 := w0)) w g 0 d.toArray := fun j hj => by
    have hj' : j < d.length := by simpa using hj
    refine ⟨?_, frozen_of_row _ _ _ _ _ hh⟩
    rw [cell_of_row _ _ _ _ _ _ hh, Nat.zero_add]
    have e := congrArg (fun x => x[j]?) ht
    simp only [Nat.mul_one] at e
    rw [List.getElem?_take_of_lt hj'] at e
    rw [← Array.getElem?_toList, e]
    simp [hj']
  have h := AnyE.slices_Reverse revL (Bv.v (w0 := w0)) (fun x => by obtain ⟨A, c, h, _⟩ := x.ok; rw [h]; rfl) g 0 cap d w hH hlim
  change Calls Try.prog 29 _ _ _ at h
  refine h.mono ?_
  rintro e w' ⟨rfl, n, rfl⟩
  have hw : Sort.putRow (Bv.v (w0 := w0)) (Sort.ahead w n) g 0 d.reverse.toArray = sortWorld (Bv.v (w0 := w0)) w g 0 n d.reverse.toArray #[] := by
    unfold sortWorld; simp [Sort.grow]; rfl
  rw [hw]
  refine ⟨rfl, ⟨by simp, .inr ⟨g, cap, _, rfl, hb, heap_sortW _ hh, hc, hm, by simp [Sort.putCells, hsz], ?_⟩⟩, grown_sortW _ _ _ _ _ _⟩
  rw [Nat.mul_one]
  have := take_putW (Bv.v (w0 := w0)) cur d.reverse (by rw [List.length_reverse]; omega)
  rw [List.length_reverse] at this
  exact this
end Go.Proofs.Ytbeggckkgaoacaa
