/-
  The document's Can for data (layer 3).
-/
import Derived.Test.YtgfahkgnblkhaaaGreatDoorRdY
import Derived.Test.YtgfahkgnblkhaaaGreatDoorNmRa
namespace Go.Proofs.YtgfahkgnblkhaaaGreatDoor
open Go.RowKit
set_option linter.unusedVariables false
set_option maxRecDepth 100000

theorem soaC_none : soaC none = #[.string ⟨#[]⟩, .string ⟨#[]⟩, .int .i64 0, .int .i64 0, .int .i64 0, .int .i64 0, .int .i64 0] := rfl
theorem canD_far {t : Int} {l : Bs} (h : t < 0 ∨ 65535 < t ∨ 65535 < l.length) : canD t l = false := by unfold canD; rw [if_pos h]
theorem canD_in {t : Int} {l : Bs} (h : ¬ (t < 0 ∨ 65535 < t ∨ 65535 < l.length)) : canD t l = if t = 1 then l.length == 4
  else if t = 28 then l.length == 16
  else if t = 2 ∨ t = 5 ∨ t = 12 then can l
  else if t = 15 then decide (2 < l.length) && can (l.drop 2)
  else if t = 6 then (soa l).isSome
  else if t = 16 then texts l
  else if t = 41 then opts l
  else true := by unfold canD; rw [if_neg h]

end Go.Proofs.YtgfahkgnblkhaaaGreatDoor
