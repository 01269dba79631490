/-
  Lists of texts, and of numbers, that come in.
-/
import Derived.Test.YtjhmjokmjoldkaaGreatDoorOp
import Derived.Test.YtjhmjokmjoldkaaGreatDoorNt
namespace Go.Proofs.YtjhmjokmjoldkaaGreatDoor
open Go.ChangeShapes Go.WideShapes Go.ChangeAt Go.RowKit Go.Deep
set_option linter.unusedVariables false
set_option maxRecDepth 100000

section
variable {H : Type} {enc : TypeId × Value → H} {w : World} {held : Bool} {d : DataW H} {p : List MemPlace}
end
end Go.Proofs.YtjhmjokmjoldkaaGreatDoor
