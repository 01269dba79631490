/-
  The table of the rounds' words, as the rows list it.
-/
import Derived.Test.YtkpnhbjdpbjfjaaDoorDgS
import Derived.Test.YtkpnhbjdpbjfjaaDoorCards
import Derived.Lib.LaidTab
import Derived.Stop.LaidErr
namespace Go.Proofs.YtkpnhbjdpbjfjaaDoor
open Go.ChangeShapes Go.WideShapes Go.ChangeAt Go.RowKit
set_option linter.unusedVariables false
set_option maxRecDepth 100000

theorem k_name : Tryd.prog.globalNamed "cicerone/digest.k" = some 0 := by kernel_rfl
theorem k_type : (Tryd.prog.globals[0]?).map (·.type) = some 42 := by kernel_rfl
theorem k_data : (Rows.laid_cicerone_digest_k : DataW Unit) = Lib.tabData .u32 (roundKs.map Int.ofNat) := by kernel_rfl
theorem tabK_of {W : World} (h : laidMetH Tryd.prog [("cicerone/digest.k", Rows.laid_cicerone_digest_k)] W) : TabK W := by
  have h' : laidMet Tryd.prog [("cicerone/digest.k", Rows.laid_cicerone_digest_k)] W := h
  rw [k_data] at h'
  have ht := Lib.tabIs_of_head k_name k_type Tryd.underlying42 Tryd.underlying25 (by kernel_rfl) (by kernel_rfl) h'
  intro j hj
  have hl : roundKs.length = 64 := by decide
  rw [ht.cell k_name j (by rw [List.length_map, hl]; exact hj)]
  simp [List.getD_eq_getElem?_getD, hl, hj]
end Go.Proofs.YtkpnhbjdpbjfjaaDoor
