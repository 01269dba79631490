/-
  Numbers that come in.
-/
import Derived.Test.YtjhmjokmjoldkaaGreatDoorMo
namespace Go.Proofs.YtjhmjokmjoldkaaGreatDoor
open Go.RowKit
set_option linter.unusedVariables false
set_option maxRecDepth 100000

/-- Numbers in memory. -/
def Nts (w : World) (A : Option Addr) (l : List Int) : Prop := 0 < l.length → ∃ g off, A = some ⟨g, off, none⟩ ∧ ∀ j (h : j < l.length), w.cell? ⟨g, off + j, none⟩ = some (.int .i64 l[j])
theorem Nts.on {w w1 : World} {A : Option Addr} {l : List Int} (h : Nts w A l) (hB : Below w.heap.size w w1) : Nts w1 A l := fun hl => by
  obtain ⟨g, off, hA, hc⟩ := h hl
  exact ⟨g, off, hA, fun j hj => cell_on (hc j hj) hB⟩
end Go.Proofs.YtjhmjokmjoldkaaGreatDoor
