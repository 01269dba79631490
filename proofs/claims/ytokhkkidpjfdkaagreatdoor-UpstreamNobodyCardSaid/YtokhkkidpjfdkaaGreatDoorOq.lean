/-
  Lists of texts, and of numbers, that come in.
-/
import Derived.Test.YtokhkkidpjfdkaaGreatDoorOp
import Derived.Test.YtokhkkidpjfdkaaGreatDoorNt
namespace Go.Proofs.YtokhkkidpjfdkaaGreatDoor
open Go.ChangeShapes Go.WideShapes Go.ChangeAt Go.RowKit Go.Deep
set_option linter.unusedVariables false
set_option maxRecDepth 100000

section
variable {H : Type} {enc : TypeId × Value → H} {w : World} {held : Bool} {d : DataW H} {p : List MemPlace}
theorem open_texts {r0 : Reach} {b0 : Nat} {v : Value} (hv : Value.okWide Tryz.prog w r0 b0 55 v) (h : DataW.Trod enc Tryz.prog w 0 (fun _ => true) held 55 v d p) :
    ∃ (L : List Bs) (A : Option Addr) (c : Nat), v = .slice A L.length c ∧ Byss w A L ∧ (L.length ≤ c ∧ c ≤ 9223372036854775807 ∧ (A = none → c = 0)) ∧ (Within 55 d → L.length * 24 ≤ reachBytes ∧ ∀ x ∈ L, x.length ≤ reachBytes) := by
  obtain ⟨a, len, c, rfl⟩ := okWide_slice Tryz.underlying55 hv
  obtain ⟨n, hf⟩ := h
  exact open_datas (x := .slice a len c) (n := n) (by simpa [Value.cells] using hf)
theorem open_nts {r0 : Reach} {b0 : Nat} {v : Value} (hv : Value.okWide Tryz.prog w r0 b0 49 v) (h : DataW.Trod enc Tryz.prog w 0 (fun _ => true) held 49 v d p) :
    ∃ (l : List Int) (A : Option Addr) (c : Nat), v = .slice A l.length c ∧ Nts w A l ∧ (l.length ≤ c ∧ c ≤ 9223372036854775807) ∧ ∀ z ∈ l, -9223372036854775808 ≤ z ∧ z ≤ 9223372036854775807 := by
  obtain ⟨a, len, cap, rfl⟩ := okWide_slice Tryz.underlying49 hv
  obtain ⟨fuel, hf⟩ := h
  rcases open_ints Tryz.underlying49 Tryz.underlying3 (by kernel_rfl) hf with ⟨hcs, _⟩ | ⟨x, l, c, zs, hcs, _, hl, hm, hz, _, hcell, hwz⟩
  · simp [Value.cells] at hcs
    obtain ⟨rfl, rfl, rfl⟩ := hcs
    exact ⟨[], none, 0, rfl, fun h => absurd h (by simp), by simp, fun z hz => by cases hz⟩
  · simp [Value.cells] at hcs
    obtain ⟨rfl, rfl, rfl⟩ := hcs
    have hz' : zs.length = cap := by simpa using hz
    have hln : (zs.take len).length = len := by simp; omega
    refine ⟨zs.take len, some x, cap, by rw [hln], fun h0 => ?_, by rw [hln]; exact ⟨hl, by unfold maxLen at hm; omega⟩, fun z hz => ?_⟩
    · obtain ⟨b, off, rfl, hc⟩ := ints_at hcell (by omega)
      refine ⟨b, off, rfl, fun j hj => ?_⟩
      have hj' : j < len := by omega
      rw [hc j (by omega), List.getD_eq_getElem?_getD]
      have hjz : j < zs.length := by omega
      rw [List.getElem?_eq_getElem hjz, Option.getD_some]
      simp
    · have := hwz z (List.mem_of_mem_take hz)
      simp only [Lit.wf, Bool.and_eq_true, decide_eq_true_eq] at this
      exact this
end
end Go.Proofs.YtokhkkidpjfdkaaGreatDoor
