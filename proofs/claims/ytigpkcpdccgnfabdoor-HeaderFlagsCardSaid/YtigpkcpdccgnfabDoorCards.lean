/-
  DERIVED. GIVEN WITH THE SEED: THE CARDS: each row of YtigpkcpdccgnfabDoorRows.lean that lists a variable, with what it lists TIED to the program's text (the seventh form; the later family's looks); each row that meets fmt, with fmt's text TOLD by the authors' own Lean function (tested against real Go, not proved from fmt's source: count such statements apart). THE CARD IS WHAT COUNTS. Prove the row's statement (the work); the ties are given (YtigpkcpdccgnfabDoorTie.lean); close each card by the builder's one call (the guide's Derived/Test/ToyasCard.lean, 'card_holds'). Laid BY PROGRAM, IN A SANDBOX (cutbox-door.mjs). By AI agents, Wed Nov 11 2026. No macro, syntax, notation, axiom, sorry.
-/
import Derived.Test.YtigpkcpdccgnfabDoorRows
import GoSem.ClaimSeven
namespace Go.Proofs.YtigpkcpdccgnfabDoor
namespace Rows

/-- THE TIED CARD OF 'ciceronelaw02.HeaderFlags'. -/
def headerFlagsCard : Claim7 := { stood := { row := headerFlagsRow, standIns := [], harness := (true, "970fa422d2bde57a2f1586371a604b4c80ec6bcaaf288708c42b4bab8b15c66a"), looks := false }, kinds := [], alts := [], laidByText := true, laidKinds := [.data], laidTests := true, laidLooks := .later }
def HeaderFlagsCardSaid : Prop := Claim7.holds Tryd.pinned (.plain (OpenSpec.ofChange headerFlagsSpec)) headerFlagsCard

/-- THE SECOND FORM's CARD OF 'ciceronelaw02.HeaderFlags'. -/
def headerFlagsUptoCard : Claim7 := { stood := { row := headerFlagsUptoRow, standIns := [], harness := (true, "970fa422d2bde57a2f1586371a604b4c80ec6bcaaf288708c42b4bab8b15c66a"), looks := false }, kinds := [], alts := [], laidByText := true, laidKinds := [.data], laidTests := true, laidLooks := .later }
def HeaderFlagsUptoCardSaid : Prop := Claim7.holds Tryd.pinned (.plain (OpenSpec.upto headerFlagsSpec)) headerFlagsUptoCard
end Rows
end Go.Proofs.YtigpkcpdccgnfabDoor
