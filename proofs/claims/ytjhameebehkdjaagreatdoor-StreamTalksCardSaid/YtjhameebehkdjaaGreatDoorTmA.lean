/-
  A stream at its end, and one that no call made.
-/
import Derived.Test.YtjhameebehkdjaaGreatDoorMo
import Derived.Deep.QuietTactic
import Derived.BigQuiet
import Derived.LoopN
import Derived.WalkSpells
namespace Go.Proofs.YtjhameebehkdjaaGreatDoor
open Go.RowKit
set_option linter.unusedVariables false
set_option maxRecDepth 100000

/-- The stream's row. -/
def SRow (w : World) (g : Nat) (T : TypeId) (v : Value) (e : Bool) : Prop := w.heap[g]? = some (.cells #[.iface T v, .bool e] 50 (0, 0))
theorem madeS_any (g : Nat) (T : TypeId) (v : Value) (e : Bool) (w : World) (h : SRow w g T v e) : Calls Tryz.prog 17 #[.pointer (some ⟨g, 0, none⟩)] w fun e w' => e = .returned (.bool true) ∧ w' = w := by
  have c0 := (cell_of_row _ g 0 _ _ _ h).trans rfl
  clear h
  go_enter Tryz.func17, Tryz.ntmps17
  go_wp2_with fail
  go_ret
  exact ⟨rfl, rfl⟩
end Go.Proofs.YtjhameebehkdjaaGreatDoor
