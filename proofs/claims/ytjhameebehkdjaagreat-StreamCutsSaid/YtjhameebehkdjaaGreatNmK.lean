/-
  cmp.Compare of two strings and of two numbers; strings.Clone.
-/
import Derived.Test.YtjhameebehkdjaaGreatNmW
import Derived.Test.YtjhameebehkdjaaGreatNmM
import Derived.Lib.Strings
import Derived.Lib.Walk
import Derived.Lib.BufferWrite
import Derived.Lib.UnsafeStr
import Derived.Laws.MakeOwn
namespace Go.Proofs.YtjhameebehkdjaaGreat
open Go.RowKit




def cmpI (a b : Int) : Int := if a < b then -1 else if b < a then 1 else 0

theorem info_u8 : (Tryz.prog.info? 5).map (fun i => (i.zero, i.size, i.bytes)) = some (some (.int .u8 0), 1, 1) := by kernel_rfl


end Go.Proofs.YtjhameebehkdjaaGreat
