/-
  The document's Encode of a frame; texts the same; bytes spoiled.
-/
import Derived.Test.YtknpkifhkefikaaDoorPfA
import Derived.Test.YtknpkifhkefikaaDoorGc
import Derived.Test.YtknpkifhkefikaaDoorEq2
import Derived.Test.YtknpkifhkefikaaDoorEnN
namespace Go.Proofs.YtknpkifhkefikaaDoor
open Go.RowKit
set_option linter.unusedVariables false
set_option maxRecDepth 100000

/-- What Encode answers. -/
def EncF (w : World) (b : Bs) (e : Ending) (w' : World) : Prop := Below w.heap.size w w' ∧ ((65535 < b.length ∧ e = .returned (.tuple #[.slice none 0 0, .int .i64 1])) ∨ (b.length ≤ 65535 ∧ ∃ v, e = .returned (.tuple #[v, .int .i64 0]) ∧ OwnB w' w.heap.size v (encP b)))
end Go.Proofs.YtknpkifhkefikaaDoor
