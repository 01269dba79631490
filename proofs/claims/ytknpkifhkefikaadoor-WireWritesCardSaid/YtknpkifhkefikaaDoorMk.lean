/-
  The table of header's masks, by its name.
-/
import Derived.Test.YtknpkifhkefikaaDoorWe
import Derived.Lib.LaidTab
import Derived.Stop.LaidErr
namespace Go.Proofs.YtknpkifhkefikaaDoor
open Go.RowKit
set_option linter.unusedVariables false
set_option maxRecDepth 100000

theorem gMask : Tryd.prog.globalNamed "cicerone/header.masks" = some 0 := by kernel_rfl
theorem gMaskType : (Tryd.prog.globals[0]?).map (·.type) = some 134 := by kernel_rfl
theorem masks_of {W : World} (h : Lib.TabIs Tryd.prog W "cicerone/header.masks" .i64 [32768, 1024, 512, 256, 128]) : Masks W := by
  have c0 : W.cell? ⟨0, 0, none⟩ = some (.int .i64 32768) := h.cell gMask 0 (by decide)
  exact ⟨c0, h.cell gMask 1 (by decide), h.cell gMask 2 (by decide), h.cell gMask 3 (by decide), h.cell gMask 4 (by decide), World.block_lt_of_cell? W _ c0⟩
theorem Masks.on {w w1 : World} (h : Masks w) (hB : Below w.heap.size w w1) : Masks w1 :=
  ⟨(hB.cell (p := ⟨0, 0, none⟩) h.lt).trans h.m0, (hB.cell (p := ⟨0, 1, none⟩) h.lt).trans h.m1, (hB.cell (p := ⟨0, 2, none⟩) h.lt).trans h.m2, (hB.cell (p := ⟨0, 3, none⟩) h.lt).trans h.m3, (hB.cell (p := ⟨0, 4, none⟩) h.lt).trans h.m4, Nat.lt_of_lt_of_le h.lt hB.size⟩
end Go.Proofs.YtknpkifhkefikaaDoor
