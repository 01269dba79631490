/-
  Lists of records, of questions the same.
-/
import Derived.Test.YtgfahkgnblkhaaaGreatDoorWmB
import Derived.Laws.StructEq
import Derived.BigQuiet
namespace Go.Proofs.YtgfahkgnblkhaaaGreatDoor
open Go.RowKit
set_option linter.unusedVariables false
set_option maxRecDepth 100000

def rrZ : Array Value := #[.string ⟨#[]⟩, .int .i64 0, .int .i64 0, .int .i64 0, .slice none 0 0]
theorem rrZ_lit : rrZ = #[.string ⟨#[]⟩, .int .i64 0, .int .i64 0, .int .i64 0, .slice none 0 0] := rfl

end Go.Proofs.YtgfahkgnblkhaaaGreatDoor
