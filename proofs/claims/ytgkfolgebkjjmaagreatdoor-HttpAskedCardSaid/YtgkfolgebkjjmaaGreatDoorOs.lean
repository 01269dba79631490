/-
  How great a list of numbers can be.
-/
import Derived.Test.YtgkfolgebkjjmaaGreatDoorHy
namespace Go.Proofs.YtgkfolgebkjjmaaGreatDoor
open Go.ChangeShapes Go.WideShapes Go.ChangeAt Go.RowKit Go.Deep
set_option linter.unusedVariables false
set_option maxRecDepth 100000

section
variable {H : Type} {enc : TypeId × Value → H} {w : World} {held : Bool} {d : DataW H} {p : List MemPlace}
theorem i64Bytes : Tryz.prog.bytesOf 3 = 8 := by kernel_rfl
theorem nts_len {a : Option Addr} {n c : Nat} (h : DataW.Trod enc Tryz.prog w 0 (fun _ => true) held 32 (.slice a n c) d p) (hw : Within 32 d) : n * 8 ≤ reachBytes := by
  obtain ⟨fuel, hf⟩ := h
  rcases open_ints Tryz.underlying32 Tryz.underlying3 (by kernel_rfl) hf with ⟨hcs, _⟩ | ⟨x, l, c', zs, hcs, _, hl, hm, hz, hx, _⟩
  · simp [Value.cells] at hcs
    omega
  · simp [Value.cells] at hcs
    obtain ⟨rfl, rfl, rfl⟩ := hcs
    simp only [Prod.mk.injEq] at hx
    rw [hx.1] at hw
    have := hw.len Tryz.underlying32
    rw [i64Bytes] at this
    have hz' : zs.length = c := by simpa using hz
    simp only [lits, List.length_map, List.length_take] at this
    omega
end
end Go.Proofs.YtgkfolgebkjjmaaGreatDoor
