/-
  The landed pool: the map of one connection.
-/
import Derived.Test.YtknpkifhkefikaaDoorPtB
import Derived.Maps.RangeWalk
namespace Go.Proofs.YtknpkifhkefikaaDoor
open Go.RowKit Go.Maps
set_option linter.unusedVariables false
set_option maxRecDepth 100000

theorem mapC_eq (gc : Nat) : mapC gc = .map [(.int .i64 1, .lit (.int .i64 gc))] := rfl
theorem mapC_size (gc : Nat) : Maps.size (mapC gc) = 1 := rfl
/-- Whichever key of the map comes, its element is the connection. -/
theorem mapC_elem {gc : Nat} {kl : Lit} {v : Value} {y : DataW Unit × List MemPlace} (hk : Maps.has (mapC gc) kl = true) (hv : ptrN v = some y) (hat : ∀ zd, (mapC gc).atKey kl zd = y.1) : v = .pointer (some ⟨gc, 0, none⟩) := by
  have h0 := hat .nil
  rw [mapC_eq] at h0 hk
  have hs : (Lit.int .i64 1).sameKey kl = true := by simpa [Maps.has] using hk
  have h1 : y.1 = .lit (.int .i64 gc) := by rw [← h0]; simp [DataW.atKey, hs]
  rcases ptrN_inv hv with ⟨rfl, e⟩ | ⟨b, rfl, e⟩
  · rw [e] at h1
    cases h1
  · rw [e] at h1
    injection h1 with h1
    injection h1 with _ h1
    have : b = gc := by omega
    rw [this]
end Go.Proofs.YtknpkifhkefikaaDoor
