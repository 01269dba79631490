/-
  Bytes that come in, as the header's laws want them.
-/
import Derived.Test.YtigpkcpdccgnfaaDoorHdP
import Derived.Test.YtigpkcpdccgnfaaDoorHdK
namespace Go.Proofs.YtigpkcpdccgnfaaDoor
open Go.ChangeShapes Go.WideShapes Go.ChangeAt Go.RowKit

section
variable {H : Type} {enc : TypeId × Value → H} {w : World} {held : Bool} {a : Option Addr} {len cap : Nat} {d : DataW H} {p : List MemPlace}
/-- Bytes that came in: their length is at most their room; where there are twelve, they stand at a place. -/
theorem open_bytes (h : DataW.Trod enc Tryd.prog w 0 (fun _ => true) held 25 (.slice a len cap) d p) (hlt : ∀ x ∈ p, x.block < w.heap.size) :
    len ≤ cap ∧ cap ≤ 9223372036854775807 ∧ (12 ≤ len → ∃ (bk off : Nat) (z : Nat → Int), a = some ⟨bk, off, none⟩ ∧ Twelve w bk off z) := by
  obtain ⟨fuel, hf⟩ := h
  rcases open_ints Tryd.underlying25 Tryd.underlying5 (by kernel_rfl) hf with ⟨hcs, _⟩ | ⟨x, l, c, zs, hcs, _, hl, hm, hz, _, hcell, hwz⟩
  · simp [Value.cells] at hcs
    obtain ⟨rfl, rfl, rfl⟩ := hcs
    exact ⟨by omega, by omega, by omega⟩
  · simp [Value.cells] at hcs
    obtain ⟨rfl, rfl, rfl⟩ := hcs
    refine ⟨hl, by unfold maxLen at hm; omega, fun h12 => ?_⟩
    have hz' : zs.length = cap := by simpa using hz
    obtain ⟨b, off, rfl, hc⟩ := ints_at hcell (by omega)
    have hw := range_u8 hwz
    refine ⟨b, off, fun i => zs[i]?.getD 0, rfl, ⟨fun i hi => ?_, fun i => hw i, World.block_lt_of_cell? w _ (hc 0 (by omega))⟩⟩
    have := hc i (by omega)
    rw [List.getD_eq_getElem?_getD] at this
    exact this
end

end Go.Proofs.YtigpkcpdccgnfaaDoor
