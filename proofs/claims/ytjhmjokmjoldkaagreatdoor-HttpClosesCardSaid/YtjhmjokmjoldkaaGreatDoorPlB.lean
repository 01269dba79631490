/-
  Two calls behind each other below one base.
-/
import Derived.Test.YtjhmjokmjoldkaaGreatDoorRdE
import Derived.Test.YtjhmjokmjoldkaaGreatDoorNmW
import Derived.Test.YtjhmjokmjoldkaaGreatDoorNmJ
namespace Go.Proofs.YtjhmjokmjoldkaaGreatDoor
open Go.RowKit
theorem Below.next {B : Nat} {w w1 w2 : World} (h : Below B w w1) (hs : B ≤ w1.heap.size) (k : Below w1.heap.size w1 w2) : Below B w w2 ∧ B ≤ w2.heap.size := ⟨Below.trans h (k.mono hs), Nat.le_trans hs k.size⟩
end Go.Proofs.YtjhmjokmjoldkaaGreatDoor
