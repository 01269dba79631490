/-
  DERIVED. GIVEN WITH THE SEED: THE CARDS: each row of YtokhkkidpjfdkaaGreatDoorRows.lean that lists a variable, with what it lists TIED to the program's text (the seventh form; the later family's looks); each row that meets fmt, with fmt's text TOLD by the authors' own Lean function (tested against real Go, not proved from fmt's source: count such statements apart). THE CARD IS WHAT COUNTS. Prove the row's statement (the work); the ties are given (YtokhkkidpjfdkaaGreatDoorTie.lean); close each card by the builder's one call (the guide's Derived/Test/ToyasCard.lean, 'card_holds'). Laid BY PROGRAM, IN A SANDBOX (cutbox-door.mjs). By AI agents, Wed Nov 11 2026. No macro, syntax, notation, axiom, sorry.
-/
import Derived.Test.YtokhkkidpjfdkaaGreatDoorRows
import GoSem.ClaimSeven
namespace Go.Proofs.YtokhkkidpjfdkaaGreatDoor
namespace Rows

/-- THE TIED CARD OF 'ciceronelaw22.UpstreamNobody'. -/
def upstreamNobodyCard : Claim7 := { stood := { row := upstreamNobodyRow, standIns := [], harness := (true, "9f61dc66566b73d846572be6fb37ead9984c8d4d22ee93254fb54756f3a8e7a4"), looks := true }, kinds := [], alts := [], laidByText := true, laidKinds := [.data], laidTests := true, laidLooks := .later }
def UpstreamNobodyCardSaid : Prop := Claim7.holds Tryz.pinned (.plain (OpenSpec.ofChange upstreamNobodySpec)) upstreamNobodyCard

/-- THE SECOND FORM's CARD OF 'ciceronelaw22.UpstreamNobody'. -/
def upstreamNobodyUptoCard : Claim7 := { stood := { row := upstreamNobodyUptoRow, standIns := [], harness := (true, "9f61dc66566b73d846572be6fb37ead9984c8d4d22ee93254fb54756f3a8e7a4"), looks := true }, kinds := [], alts := [], laidByText := true, laidKinds := [.data], laidTests := true, laidLooks := .later }
def UpstreamNobodyUptoCardSaid : Prop := Claim7.holds Tryz.pinned (.plain (OpenSpec.upto upstreamNobodySpec)) upstreamNobodyUptoCard
end Rows
end Go.Proofs.YtokhkkidpjfdkaaGreatDoor
