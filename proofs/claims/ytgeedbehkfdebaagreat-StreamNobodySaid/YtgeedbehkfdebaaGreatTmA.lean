/-
  A stream at its end, and one that no call made.
-/
import Derived.Test.YtgeedbehkfdebaaGreatMo
import Derived.Deep.QuietTactic
import Derived.BigQuiet
import Derived.LoopN
import Derived.WalkSpells
namespace Go.Proofs.YtgeedbehkfdebaaGreat
open Go.RowKit
set_option linter.unusedVariables false
set_option maxRecDepth 100000

/-- The stream's row. -/
def SRow (w : World) (g : Nat) (T : TypeId) (v : Value) (e : Bool) : Prop := w.heap[g]? = some (.cells #[.iface T v, .bool e] 48 (0, 0))
theorem madeS_any (g : Nat) (T : TypeId) (v : Value) (e : Bool) (w : World) (h : SRow w g T v e) : Calls Tryz.prog 25 #[.pointer (some ⟨g, 0, none⟩)] w fun e w' => e = .returned (.bool true) ∧ w' = w := by
  have c0 := (cell_of_row _ g 0 _ _ _ h).trans rfl
  clear h
  go_enter Tryz.func25, Tryz.ntmps25
  go_wp2_with fail
  go_ret
  exact ⟨rfl, rfl⟩
theorem overRefuse_any (w : World) : Calls Tryz.prog 171 #[.agg #[]] w fun e w' => e = .returned (.slice none 0 0) ∧ Below w.heap.size w w' := by
  go_enter Tryz.func171, Tryz.ntmps171
  go_wp2_with fail
  go_ret
  exact ⟨rfl, Below.alloc (Below.refl _ _) (Nat.le_refl _) _⟩
theorem overReply_any (b : Value) (w : World) : Calls Tryz.prog 172 #[.agg #[], b] w fun e w' => e = .returned (.tuple #[.slice none 0 0, .bool false, .int .i64 1]) ∧ Below w.heap.size w w' := by
  go_enter Tryz.func172, Tryz.ntmps172
  go_wp2_with fail
  go_returns
  exact ⟨rfl, Below.alloc (Below.refl _ _) (Nat.le_refl _) _⟩
theorem overFeed_any (b : Value) (w : World) : Calls Tryz.prog 170 #[.agg #[], b] w fun e w' => e = .returned (.slice none 0 0) ∧ Below w.heap.size w w' := by
  go_enter Tryz.func170, Tryz.ntmps170
  go_wp2_with fail
  go_ret
  exact ⟨rfl, Below.alloc (Below.refl _ _) (Nat.le_refl _) _⟩
theorem endS_any (g : Nat) (T : TypeId) (v : Value) (e : Bool) (w : World) (h : SRow w g T v e) : Calls Tryz.prog 28 #[.pointer (some ⟨g, 0, none⟩)] w fun r w' => r = .returned (.tuple #[]) ∧ w.grownBy w' (some g) ∧ SRow w' g 100 (.agg #[]) true := by
  have x0 := (cell_of_row _ g 0 _ _ _ h).trans rfl
  have f0 := frozen_of_row _ _ 0 _ _ h
  have r0 := row_set (w := w) (g := g) (i := 0) (.iface 100 (.agg #[])) h
  have x1 := (cell_of_row _ g 1 _ _ _ r0).trans rfl
  have f1 := frozen_of_row _ _ 1 _ _ r0
  have r1 := row_set (g := g) (i := 1) (.bool true) r0
  have G : Hid (w.grownBy ((w.setCell ⟨g, 0, none⟩ (.iface 100 (.agg #[]))).setCell ⟨g, 1, none⟩ (.bool true)) (some g)) := by
    have a := grownBy_setCells g [.iface 100 (.agg #[])] 0 w
    have b := grownBy_setCells g [.bool true] 1 (w.setCell ⟨g, 0, none⟩ (.iface 100 (.agg #[])))
    simp only [World.setCells] at a b
    exact Lib.hid (grown_trans a b (fun k hk => .inl hk))
  have R : Hid (SRow ((w.setCell ⟨g, 0, none⟩ (.iface 100 (.agg #[]))).setCell ⟨g, 1, none⟩ (.bool true)) g 100 (.agg #[]) true) := Lib.hid r1
  clear h r0 r1
  go_enter Tryz.func28, Tryz.ntmps28
  go_wp2_with fail
  go_end0
  exact ⟨rfl, G.out, R.out⟩
end Go.Proofs.YtgeedbehkfdebaaGreat
