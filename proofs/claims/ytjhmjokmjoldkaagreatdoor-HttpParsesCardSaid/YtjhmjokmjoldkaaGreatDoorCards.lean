/-
  DERIVED. GIVEN WITH THE SEED: THE CARDS: each row of YtjhmjokmjoldkaaGreatDoorRows.lean that lists a variable, with what it lists TIED to the program's text (the seventh form; the later family's looks); each row that meets fmt, with fmt's text TOLD by the authors' own Lean function (tested against real Go, not proved from fmt's source: count such statements apart). THE CARD IS WHAT COUNTS. Prove the row's statement (the work); the ties are given (YtjhmjokmjoldkaaGreatDoorTie.lean); close each card by the builder's one call (the guide's Derived/Test/ToyasCard.lean, 'card_holds'). Laid BY PROGRAM, IN A SANDBOX (cutbox-door.mjs). By AI agents, Wed Nov 11 2026. No macro, syntax, notation, axiom, sorry.
-/
import Derived.Test.YtjhmjokmjoldkaaGreatDoorRows
import GoSem.ClaimSeven
namespace Go.Proofs.YtjhmjokmjoldkaaGreatDoor
namespace Rows

/-- THE TIED CARD OF 'ciceronelaw13.HttpParses'. -/
def httpParsesCard : Claim7 := { stood := { row := httpParsesRow, standIns := [], harness := (true, "35481403284fbcc6f052519fdd4532727e0cdd13b2eec3f1d77356a77b08a386"), looks := false }, kinds := [], alts := [], laidByText := true, laidKinds := [.data, .data, .data, .data, .pinned, .pinned], laidTests := true, laidLooks := .later }
def HttpParsesCardSaid : Prop := Claim7.holds Tryz.pinned (.plain (OpenSpec.ofChange httpParsesSpec)) httpParsesCard

/-- THE TIED CARD OF 'ciceronelaw13.HttpCloses'. -/
def httpClosesCard : Claim7 := { stood := { row := httpClosesRow, standIns := [], harness := (true, "35481403284fbcc6f052519fdd4532727e0cdd13b2eec3f1d77356a77b08a386"), looks := false }, kinds := [], alts := [], laidByText := true, laidKinds := [.data, .data, .data, .data, .pinned, .pinned], laidTests := true, laidLooks := .later }
def HttpClosesCardSaid : Prop := Claim7.holds Tryz.pinned (.plain (OpenSpec.ofChange httpClosesSpec)) httpClosesCard

/-- THE SECOND FORM's CARD OF 'ciceronelaw13.HttpParses'. -/
def httpParsesUptoCard : Claim7 := { stood := { row := httpParsesUptoRow, standIns := [], harness := (true, "35481403284fbcc6f052519fdd4532727e0cdd13b2eec3f1d77356a77b08a386"), looks := false }, kinds := [], alts := [], laidByText := true, laidKinds := [.data, .data, .data, .data, .pinned, .pinned], laidTests := true, laidLooks := .later }
def HttpParsesUptoCardSaid : Prop := Claim7.holds Tryz.pinned (.plain (OpenSpec.upto httpParsesSpec)) httpParsesUptoCard

/-- THE SECOND FORM's CARD OF 'ciceronelaw13.HttpCloses'. -/
def httpClosesUptoCard : Claim7 := { stood := { row := httpClosesUptoRow, standIns := [], harness := (true, "35481403284fbcc6f052519fdd4532727e0cdd13b2eec3f1d77356a77b08a386"), looks := false }, kinds := [], alts := [], laidByText := true, laidKinds := [.data, .data, .data, .data, .pinned, .pinned], laidTests := true, laidLooks := .later }
def HttpClosesUptoCardSaid : Prop := Claim7.holds Tryz.pinned (.plain (OpenSpec.upto httpClosesSpec)) httpClosesUptoCard
end Rows
end Go.Proofs.YtjhmjokmjoldkaaGreatDoor
