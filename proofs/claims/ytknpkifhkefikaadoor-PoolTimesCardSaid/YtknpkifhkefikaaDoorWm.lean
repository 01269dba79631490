/-
  The table of header's masks, by its name.
  The table of header's masks, as the rows list it.
-/
import Derived.Test.YtknpkifhkefikaaDoorWe
import Derived.Lib.LaidTab
import Derived.Stop.LaidErr
import Derived.Test.YtknpkifhkefikaaDoorCards
namespace Go.Proofs.YtknpkifhkefikaaDoor
open Go.RowKit
set_option linter.unusedVariables false
set_option maxRecDepth 100000

theorem gMask : Tryd.prog.globalNamed "cicerone/header.masks" = some 0 := by kernel_rfl
theorem gMaskType : (Tryd.prog.globals[0]?).map (·.type) = some 134 := by kernel_rfl
theorem masks_of {W : World} (h : Lib.TabIs Tryd.prog W "cicerone/header.masks" .i64 [32768, 1024, 512, 256, 128]) : Masks W := by
  have c0 : W.cell? ⟨0, 0, none⟩ = some (.int .i64 32768) := h.cell gMask 0 (by decide)
  exact ⟨c0, h.cell gMask 1 (by decide), h.cell gMask 2 (by decide), h.cell gMask 3 (by decide), h.cell gMask 4 (by decide), World.block_lt_of_cell? W _ c0⟩
theorem Masks.on {w w1 : World} (h : Masks w) (hB : Below w.heap.size w w1) : Masks w1 :=
  ⟨(hB.cell (p := ⟨0, 0, none⟩) h.lt).trans h.m0, (hB.cell (p := ⟨0, 1, none⟩) h.lt).trans h.m1, (hB.cell (p := ⟨0, 2, none⟩) h.lt).trans h.m2, (hB.cell (p := ⟨0, 3, none⟩) h.lt).trans h.m3, (hB.cell (p := ⟨0, 4, none⟩) h.lt).trans h.m4, Nat.lt_of_lt_of_le h.lt hB.size⟩
end Go.Proofs.YtknpkifhkefikaaDoor
namespace Go.Proofs.YtknpkifhkefikaaDoor
open Go.ChangeShapes Go.WideShapes Go.ChangeAt Go.RowKit
set_option linter.unusedVariables false
set_option maxRecDepth 100000

theorem mk_data : (Rows.laid_cicerone_header_masks : DataW Unit) = Lib.tabData .i64 [32768, 1024, 512, 256, 128] := by kernel_rfl
theorem masks_laid {W : World} (h : laidMetH Tryd.prog [("cicerone/header.masks", Rows.laid_cicerone_header_masks)] W) : Masks W := by
  have h' : laidMet Tryd.prog [("cicerone/header.masks", Rows.laid_cicerone_header_masks)] W := h
  rw [mk_data] at h'
  exact masks_of (Lib.tabIs_of_head gMask gMaskType Tryd.underlying134 Tryd.underlying3 (by kernel_rfl) (by kernel_rfl) h')
end Go.Proofs.YtknpkifhkefikaaDoor
