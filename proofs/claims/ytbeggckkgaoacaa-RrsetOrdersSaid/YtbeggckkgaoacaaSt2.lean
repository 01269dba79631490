/-
  Texts told as the same: the statements' SameTexts.
-/
import Derived.Test.YtbeggckkgaoacaaGe
namespace Go.Proofs.Ytbeggckkgaoacaa
open Go.RowKit
set_option linter.unusedVariables false
set_option maxRecDepth 100000

set_option maxHeartbeats 400000 in
theorem sameTexts_any (A1 A2 : Option Addr) (L1 L2 : List Bs) (c1 c2 : Nat) (w : World) (h1 : Byss w A1 L1) (h2 : Byss w A2 L2) (hm : L1.length ≤ 9223372036854775807) :
    Calls Try.prog 25 #[.slice A1 L1.length c1, .slice A2 L2.length c2] w fun e w' => e = .returned (.bool (L1 == L2)) ∧ Below w.heap.size w w' := by
  have E := Lib.hid (EqualFB_any A1 A2 L1 L2 c1 c2 w h1 h2 hm)
  clear h1 h2 hm
  generalize L1.length = n1 at *
  generalize L2.length = n2 at *
  generalize (L1 == L2) = r at *
  go_enter Try.func25, Try.ntmps25
  go_wp2_with fail
  refine E.out.mono ?_
  rintro e w1 ⟨rfl, k1⟩
  go_wp2_with fail
  go_ret
  exact ⟨rfl, k1⟩
end Go.Proofs.Ytbeggckkgaoacaa
