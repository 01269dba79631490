/-
  The table of strconv's powers of ten, as the row lists it.
-/
import Derived.Test.YtgeedbehkfdebaaDoorHtZb
import Derived.Test.YtgeedbehkfdebaaDoorCards
import Derived.Lib.LaidTab
import Derived.Stop.LaidErr
import Derived.WalkSmall
namespace Go.Proofs.YtgeedbehkfdebaaDoor
open Go.ChangeShapes Go.WideShapes Go.ChangeAt Go.RowKit Go.Deep
set_option linter.unusedVariables false
set_option maxRecDepth 100000

theorem pow_name : Tryd.prog.globalNamed "internal/strconv.uint64pow10" = some 2 := by kernel_rfl
theorem pow_type : (Tryd.prog.globals[2]?).map (·.type) = some 114 := by kernel_rfl
theorem pow_data : (Rows.laid_internal_strconv_uint64pow10 : DataW Unit) = Lib.tabData .u64 Lib.pow10Tab := by kernel_rfl
theorem tabP_of {W : World} (h : laidMetH Tryd.prog Rows.httpRepliedRow.laid W) : Lib.TabIs Tryd.prog W "internal/strconv.uint64pow10" .u64 Lib.pow10Tab := by
  have h' : laidMet Tryd.prog [("math/bits.deBruijn32tab", Rows.laid_math_bits_deBruijn32tab), ("math/bits.deBruijn64tab", Rows.laid_math_bits_deBruijn64tab), ("internal/strconv.uint64pow10", Rows.laid_internal_strconv_uint64pow10), ("unicode/utf8.acceptRanges", Rows.laid_unicode_utf8_acceptRanges), ("unicode/utf8.first", Rows.laid_unicode_utf8_first)] W := h
  have h2 := laidMet.tail (laidMet.tail h')
  rw [pow_data] at h2
  exact Lib.tabIs_of_head pow_name pow_type Tryd.underlying114 Tryd.underlying95 (by kernel_rfl) (by kernel_rfl) h2
theorem tabP_on {W W1 : World} (h : Lib.TabIs Tryd.prog W "internal/strconv.uint64pow10" .u64 Lib.pow10Tab) (k : Below W.heap.size W W1) : Lib.TabIs Tryd.prog W1 "internal/strconv.uint64pow10" .u64 Lib.pow10Tab := by
  have hc := Lib.TabIs.cell h pow_name 0 (by rw [Lib.pow10Tab_length]; omega)
  have := World.block_lt_of_cell? W _ hc
  unfold Lib.TabIs at h ⊢
  exact var?_below k pow_name this h
end Go.Proofs.YtgeedbehkfdebaaDoor
