/-
  Lists of texts the same: slices.EqualFunc with bytes.Equal.
-/
import Derived.Test.YtknpkifhkefikaaDoorGb
namespace Go.Proofs.YtknpkifhkefikaaDoor
open Go.RowKit
set_option linter.unusedVariables false
set_option maxRecDepth 100000

end Go.Proofs.YtknpkifhkefikaaDoor
