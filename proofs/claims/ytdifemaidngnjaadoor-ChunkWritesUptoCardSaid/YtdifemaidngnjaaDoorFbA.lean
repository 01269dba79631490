/-
  strconv.AppendInt at base 16: the power of two.
-/
import Derived.Test.YtdifemaidngnjaaDoorCkF
import Derived.Test.YtdifemaidngnjaaDoorHdB
namespace Go.Proofs.YtdifemaidngnjaaDoor
open Go.RowKit
set_option linter.unusedVariables false
set_option maxRecDepth 100000

/-- The one cell of the table that is read: how many noughts 16 ends with. -/
def TabC (w : World) : Prop := w.cell? ⟨2, 15, none⟩ = some (.int .u8 4)
theorem TabC.on {w w1 : World} (h : TabC w) (k : Below w.heap.size w w1) : TabC w1 := cell_on h k
theorem TabC.grown {w w1 : World} {r : Option Nat} (h : TabC w) (k : w.grownBy w1 r) (hr : r ≠ some 2) : TabC w1 := (World.cell?_of_block (k.block 2 (World.block_lt_of_cell? w _ h) (fun e => hr e.symm))).trans h
set_option maxHeartbeats 1000000 in
theorem tz64_any (w : World) (h : TabC w) : Calls Tryd.prog 41 #[.int .u64 16] w fun e w' => e = .returned (.int .i64 4) ∧ w' = w := by
  have T : w.cell? ⟨2, 15, none⟩ = some (.int .u8 4) := h
  have e1 : bits .and .u64 16 (IntKind.u64.wrap (-16)) = 16 := by decide +kernel
  have e2 : IntKind.u64.wrap (16 * 285870213051353865) = 4573923408821661840 := by decide +kernel
  have e3 : (4573923408821661840 : Int) / 288230376151711744 = 15 := by decide +kernel
  clear h
  go_enter Tryd.func41, Tryd.ntmps41
  go_wp2_with fail
  go_ret
  exact ⟨rfl, rfl⟩
set_option maxHeartbeats 1000000 in
theorem tz_any (w : World) (h : TabC w) : Calls Tryd.prog 39 #[.int .u64 16] w fun e w' => e = .returned (.int .i64 4) ∧ w' = w := by
  have E := Lib.hid (tz64_any w h)
  clear h
  go_enter Tryd.func39, Tryd.ntmps39
  go_wp2_with fail
  refine E.out.mono ?_
  rintro e w1 ⟨rfl, rfl⟩
  go_wp2_with fail
  go_ret
  exact ⟨rfl, rfl⟩
set_option maxHeartbeats 1000000 in
theorem pow2_any (w : World) : Calls Tryd.prog 38 #[.int .i64 16] w fun e w' => e = .returned (.bool true) ∧ w' = w := by
  have e1 : bits .and .i64 16 15 = 0 := by decide +kernel
  go_enter Tryd.func38, Tryd.ntmps38
  go_wp2_with fail
  go_ret
  exact ⟨rfl, rfl⟩
end Go.Proofs.YtdifemaidngnjaaDoor
