/-
  DERIVED. GIVEN WITH THE SEED: THE CARDS: each row of YtgkfolgebkjjmaaGreatDoorRows.lean that lists a variable, with what it lists TIED to the program's text (the seventh form; the later family's looks); each row that meets fmt, with fmt's text TOLD by the authors' own Lean function (tested against real Go, not proved from fmt's source: count such statements apart). THE CARD IS WHAT COUNTS. Prove the row's statement (the work); the ties are given (YtgkfolgebkjjmaaGreatDoorTie.lean); close each card by the builder's one call (the guide's Derived/Test/ToyasCard.lean, 'card_holds'). Laid BY PROGRAM, IN A SANDBOX (cutbox-door.mjs). By AI agents, Wed Nov 11 2026. No macro, syntax, notation, axiom, sorry.
-/
import Derived.Test.YtgkfolgebkjjmaaGreatDoorRows
import GoSem.ClaimSeven
namespace Go.Proofs.YtgkfolgebkjjmaaGreatDoor
namespace Rows

/-- THE TIED CARD OF 'ciceronelaw13.HttpWrites'. -/
def httpWritesCard : Claim7 := { stood := { row := httpWritesRow, standIns := [], harness := (true, "b771ba9e4b579f1f370c574e759c3c81265e5563c422ef6cefa8abc77d1a328e"), looks := false }, kinds := [], alts := [], laidByText := true, laidKinds := [.data, .data, .data, .data, .pinned, .pinned], laidTests := true, laidLooks := .later }
def HttpWritesCardSaid : Prop := Claim7.holds Tryz.pinned (.plain (OpenSpec.ofChange httpWritesSpec)) httpWritesCard

/-- THE TIED CARD OF 'ciceronelaw13.HttpAsked'. -/
def httpAskedCard : Claim7 := { stood := { row := httpAskedRow, standIns := [], harness := (true, "b771ba9e4b579f1f370c574e759c3c81265e5563c422ef6cefa8abc77d1a328e"), looks := false }, kinds := [], alts := [], laidByText := true, laidKinds := [.data, .data, .data, .data, .pinned, .pinned], laidTests := true, laidLooks := .later }
def HttpAskedCardSaid : Prop := Claim7.holds Tryz.pinned (.plain (OpenSpec.ofChange httpAskedSpec)) httpAskedCard

/-- THE SECOND FORM's CARD OF 'ciceronelaw13.HttpWrites'. -/
def httpWritesUptoCard : Claim7 := { stood := { row := httpWritesUptoRow, standIns := [], harness := (true, "b771ba9e4b579f1f370c574e759c3c81265e5563c422ef6cefa8abc77d1a328e"), looks := false }, kinds := [], alts := [], laidByText := true, laidKinds := [.data, .data, .data, .data, .pinned, .pinned], laidTests := true, laidLooks := .later }
def HttpWritesUptoCardSaid : Prop := Claim7.holds Tryz.pinned (.plain (OpenSpec.upto httpWritesSpec)) httpWritesUptoCard

/-- THE SECOND FORM's CARD OF 'ciceronelaw13.HttpAsked'. -/
def httpAskedUptoCard : Claim7 := { stood := { row := httpAskedUptoRow, standIns := [], harness := (true, "b771ba9e4b579f1f370c574e759c3c81265e5563c422ef6cefa8abc77d1a328e"), looks := false }, kinds := [], alts := [], laidByText := true, laidKinds := [.data, .data, .data, .data, .pinned, .pinned], laidTests := true, laidLooks := .later }
def HttpAskedUptoCardSaid : Prop := Claim7.holds Tryz.pinned (.plain (OpenSpec.upto httpAskedSpec)) httpAskedUptoCard
end Rows
end Go.Proofs.YtgkfolgebkjjmaaGreatDoor
