/-
  The table of header's masks, as the rows list it.
-/
import Derived.Test.YtknpkifhkefikaaDoorMk
import Derived.Test.YtknpkifhkefikaaDoorCards
import Derived.Lib.LaidTab
import Derived.Stop.LaidErr
namespace Go.Proofs.YtknpkifhkefikaaDoor
open Go.ChangeShapes Go.WideShapes Go.ChangeAt Go.RowKit
set_option linter.unusedVariables false
set_option maxRecDepth 100000

theorem mk_data : (Rows.laid_cicerone_header_masks : DataW Unit) = Lib.tabData .i64 [32768, 1024, 512, 256, 128] := by kernel_rfl
theorem masks_laid {W : World} (h : laidMetH Tryd.prog [("cicerone/header.masks", Rows.laid_cicerone_header_masks)] W) : Masks W := by
  have h' : laidMet Tryd.prog [("cicerone/header.masks", Rows.laid_cicerone_header_masks)] W := h
  rw [mk_data] at h'
  exact masks_of (Lib.tabIs_of_head gMask gMaskType Tryd.underlying134 Tryd.underlying3 (by kernel_rfl) (by kernel_rfl) h')
end Go.Proofs.YtknpkifhkefikaaDoor
