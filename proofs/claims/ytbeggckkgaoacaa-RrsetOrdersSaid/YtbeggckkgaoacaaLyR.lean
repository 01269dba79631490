/-
  Where a function of the library, and all that it calls, stand in this program.
-/
import Derived.Shelf.SlicesE.Reverse
import Derived.Ground.SlgnProg
import Derived.Test.YtbeggckkgaoacaaProg
namespace Go.Proofs.Ytbeggckkgaoacaa
open Go.RowKit Go.Sort Go.Shelf
set_option linter.unusedVariables false
set_option maxRecDepth 100000

def revL_ren : Go.Shelf.Ren := ⟨fun | 35 => 29 | n => n, fun | 22 => 27 | 23 => 37 | 3 => 3 | 4 => 4 | 0 => 0 | n => n, fun | n => n⟩
theorem revL : Go.Proofs.SlLaysE.n35 Try.prog revL_ren where
  mixed := by kernel_rfl
  f35 := ⟨ "slices.Reverse[[][]byte,[]byte]", by decide, Try.func29.trans (congrArg some (by kernel_rfl))⟩
  t0 := Try.underlying0
  a0 := Try.isAgg0
  z0 := Try.sizeOf0
  v0 := Try.zeroValue0
  t3 := Try.underlying3
  a3 := Try.isAgg3
  z3 := Try.sizeOf3
  v3 := Try.zeroValue3
  t4 := Try.underlying4
  a4 := Try.isAgg4
  z4 := Try.sizeOf4
  v4 := Try.zeroValue4
  t22 := Try.underlying27
  a22 := Try.isAgg27
  z22 := Try.sizeOf27
  v22 := Try.zeroValue27
  a23 := Try.isAgg37
  z23 := Try.sizeOf37

end Go.Proofs.Ytbeggckkgaoacaa
