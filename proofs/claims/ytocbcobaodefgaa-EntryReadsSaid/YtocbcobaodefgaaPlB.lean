/-
  Two calls behind each other below one base.
-/
import Derived.Test.YtocbcobaodefgaaNmW
import Derived.Test.YtocbcobaodefgaaNmJ
namespace Go.Proofs.Ytocbcobaodefgaa
open Go.RowKit
theorem Below.next {B : Nat} {w w1 w2 : World} (h : Below B w w1) (hs : B ≤ w1.heap.size) (k : Below w1.heap.size w1 w2) : Below B w w2 ∧ B ≤ w2.heap.size := ⟨Below.trans h (k.mono hs), Nat.le_trans hs k.size⟩
theorem Bys.inside {w : World} {A : Option Addr} {l : Bs} (h : Bys w A l) : ∀ p, A = some p → 0 < l.length → p.block < w.heap.size := by
  intro p hp hn
  obtain ⟨g, off, hA, hc⟩ := h hn
  rw [hA] at hp
  injection hp with hp
  subst hp
  exact World.block_lt_of_cell? w _ (hc 0 hn)
end Go.Proofs.Ytocbcobaodefgaa
