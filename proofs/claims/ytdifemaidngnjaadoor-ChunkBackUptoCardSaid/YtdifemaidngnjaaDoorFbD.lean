/-
  slices.Chunk of bytes: its closure, as an iterator over the parts.
-/
import Derived.Test.YtdifemaidngnjaaDoorFbC
import Derived.RangeFuncNested
import Derived.RangeFuncBound
import Derived.RangeFuncCalls
import Derived.RangeFuncLeaves
import Derived.Shelf.Abstract
import Derived.WalkKit
import Derived.OwnWalkIn
import Derived.TacticsInMore
import Derived.LoopNIn
import Derived.LoopIn
import Derived.RangeFuncBox
namespace Go.Proofs.YtdifemaidngnjaaDoor
open Go.RowKit
set_option linter.unusedVariables false
set_option maxRecDepth 100000
attribute [local go_sem] Oper.semAt_some

set_option maxHeartbeats 1000000 in
theorem chunkFn_any (A : Option Addr) (n c sz : Nat) (hs : 0 < sz) (w : World) : Calls Tryd.prog 15 #[.slice A n c, .int .i64 sz] w fun e w' => e = .returned (.func (.func 20) #[] #[.pointer (some ⟨w.heap.size, 0, none⟩), .pointer (some ⟨w.heap.size + 1, 0, none⟩)]) ∧ w' = (w.alloc (.cells #[.slice A n c] 22)).alloc (.cells #[.int .i64 sz] 3) := by
  have h1 : ¬ (sz : Int) < 1 := by omega
  have c1 := cell_of_row _ (w.heap.size + 1) 0 _ _ _ (row_new (w := w.alloc (.cells #[.slice A n c] 22)) (k := w.heap.size + 1) (.cells #[.int .i64 sz] 3) (by simp))
  go_enter Tryd.func15, Tryd.ntmps15
  go_wp2_with fail
  go_ret
  exact ⟨rfl, rfl⟩
end Go.Proofs.YtdifemaidngnjaaDoor
