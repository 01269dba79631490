/-
  The landed rdata: Make.
-/
import Derived.Test.YtbeggckkgaoacaaGf
import Derived.Test.YtbeggckkgaoacaaRdM
namespace Go.Proofs.Ytbeggckkgaoacaa
open Go.RowKit
set_option linter.unusedVariables false
set_option maxRecDepth 100000

theorem index5 (V : List Int) (h5 : V.length = 5) (k : Nat) (hk : k < V.length) (w : World) : (Instr.index 84 (.agg (V.map (Value.int .i64)).toArray) (.int .i64 k)).run Try.prog w = .ok (.int .i64 V[k]) w := by
  match V, h5 with
  | [a, b, c, d, e], _ =>
    have hk5 : k < 5 := hk
    match k, hk5 with
    | 0, _ => simp [Instr.index, run_underlying Try.underlying84, asIntOf, part, go_sem]
    | 1, _ => simp [Instr.index, run_underlying Try.underlying84, asIntOf, part, go_sem]
    | 2, _ => simp [Instr.index, run_underlying Try.underlying84, asIntOf, part, go_sem]
    | 3, _ => simp [Instr.index, run_underlying Try.underlying84, asIntOf, part, go_sem]
    | 4, _ => simp [Instr.index, run_underlying Try.underlying84, asIntOf, part, go_sem]

end Go.Proofs.Ytbeggckkgaoacaa
