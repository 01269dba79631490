/-
  The tables, as the rows list them: a world in which they lie.
-/
import Derived.Test.YtknpkifhkefikaaDoorHy
import Derived.Test.YtknpkifhkefikaaDoorCards
import Derived.Test.YtknpkifhkefikaaDoorTie
import Derived.ProofKit
import Derived.OpenShut
import Derived.Deep.DeepHandedRow
import Derived.Lib.LaidTab
import Derived.JoinedCond
namespace Go.Proofs.YtknpkifhkefikaaDoor
open Go.ChangeShapes Go.WideShapes Go.ChangeAt Go.RowKit Go.Deep
set_option linter.unusedVariables false
set_option maxRecDepth 100000

def setTab (k : IntKind) (zs : List Int) : Obj → Obj
  | .cells _ t frozen => .cells (zs.map (Value.int k)).toArray t frozen
  | o => o
/-- A world for the witness: the settled one, the tables holding what their initialisers lay. -/
noncomputable def laidWorld (os : Os) : World :=
  { World.holding Tryd.prog os ⟨#[], #[], []⟩ with heap := ((World.holding Tryd.prog os ⟨#[], #[], []⟩).heap.modify 0 (setTab .i64 ([32768, 1024, 512, 256, 128] : List Int))) }
end Go.Proofs.YtknpkifhkefikaaDoor
