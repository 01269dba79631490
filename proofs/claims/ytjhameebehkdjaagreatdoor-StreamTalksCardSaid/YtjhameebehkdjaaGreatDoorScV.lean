/-
  The tables of strconv and math/bits, as the row lists them; Itoa's contract.
-/
import Derived.Test.YtjhameebehkdjaaGreatDoorScT
import Derived.Shelf.Strconv.Itoa3
import Derived.Test.YtjhameebehkdjaaGreatDoorSh
import Derived.Lib.AppendIntMem
import Derived.Test.YtjhameebehkdjaaGreatDoorCards
import Derived.Lib.LaidTab
import Derived.Stop.LaidErr
import Derived.WalkSmall
namespace Go.Proofs.YtjhameebehkdjaaGreatDoor
open Go.ChangeShapes Go.WideShapes Go.ChangeAt Go.RowKit Go.Deep Go.Shelf
set_option linter.unusedVariables false
set_option maxRecDepth 100000

/-- Itoa's contract, where its table lies. -/
theorem IT_of (n : Nat) (w : World) (hn : n ≤ 9223372036854775807) (hT : Lib.TabIs Tryz.prog w "internal/strconv.uint64pow10" .u64 Lib.pow10Tab) : IT n w := by
  unfold IT decD
  refine (Any.strconv_Itoa Tryz.laysM171 (n : Int) (by omega) (by omega) w hT).mono ?_
  rintro e w' ⟨rfl, k, os, rfl⟩
  refine ⟨?_, ?_⟩
  · unfold Lib.itoa
    rw [if_neg (by omega), Int.toNat_natCast]
  · exact Lib.below_grow w.heap.size w (Nat.le_refl _) k os
theorem pow_name : Tryz.prog.globalNamed "internal/strconv.uint64pow10" = some 3 := by kernel_rfl
theorem pow_type : (Tryz.prog.globals[3]?).map (·.type) = some 113 := by kernel_rfl
theorem pow_data : (Rows.laid_internal_strconv_uint64pow10 : DataW Unit) = Lib.tabData .u64 Lib.pow10Tab := by kernel_rfl
theorem tabP_of {W : World} (h : laidMetH Tryz.prog Rows.streamTalksRow.laid W) : Lib.TabIs Tryz.prog W "internal/strconv.uint64pow10" .u64 Lib.pow10Tab := by
  have h' : laidMet Tryz.prog [("math/bits.deBruijn32tab", Rows.laid_math_bits_deBruijn32tab), ("math/bits.deBruijn64tab", Rows.laid_math_bits_deBruijn64tab), ("internal/strconv.uint64pow10", Rows.laid_internal_strconv_uint64pow10), ("unicode/utf8.acceptRanges", Rows.laid_unicode_utf8_acceptRanges), ("unicode/utf8.first", Rows.laid_unicode_utf8_first)] W := h
  have h2 := (laidMet.tail (laidMet.tail h'))
  rw [pow_data] at h2
  exact Lib.tabIs_of_head pow_name pow_type Tryz.underlying113 Tryz.underlying107 (by kernel_rfl) (by kernel_rfl) h2
theorem tabP_on {W W1 : World} (h : Lib.TabIs Tryz.prog W "internal/strconv.uint64pow10" .u64 Lib.pow10Tab) (k : Below W.heap.size W W1) : Lib.TabIs Tryz.prog W1 "internal/strconv.uint64pow10" .u64 Lib.pow10Tab := by
  have hc := Lib.TabIs.cell h pow_name 0 (by rw [Lib.pow10Tab_length]; omega)
  have := World.block_lt_of_cell? W _ hc
  unfold Lib.TabIs at h ⊢
  exact var?_below k pow_name this h
end Go.Proofs.YtjhameebehkdjaaGreatDoor
