/-
  DERIVED. GIVEN WITH THE SEED: THE CARDS: each row of YtgeedbehkfdebaaGreatDoorRows.lean that lists a variable, with what it lists TIED to the program's text (the seventh form; the later family's looks); each row that meets fmt, with fmt's text TOLD by the authors' own Lean function (tested against real Go, not proved from fmt's source: count such statements apart). THE CARD IS WHAT COUNTS. Prove the row's statement (the work); the ties are given (YtgeedbehkfdebaaGreatDoorTie.lean); close each card by the builder's one call (the guide's Derived/Test/ToyasCard.lean, 'card_holds'). Laid BY PROGRAM, IN A SANDBOX (cutbox-door.mjs). By AI agents, Wed Nov 11 2026. No macro, syntax, notation, axiom, sorry.
-/
import Derived.Test.YtgeedbehkfdebaaGreatDoorRows
import GoSem.ClaimSeven
namespace Go.Proofs.YtgeedbehkfdebaaGreatDoor
namespace Rows

/-- THE TIED CARD OF 'ciceronelaw13.HttpLives'. -/
def httpLivesCard : Claim7 := { stood := { row := httpLivesRow, standIns := [], harness := (true, "21a150fb7805d7925fa31c5421e1604535fe725026c7a80a92ecbe1fb55220cc"), looks := false }, kinds := [], alts := [], laidByText := true, laidKinds := [.data, .data, .data, .data, .pinned, .pinned], laidTests := true, laidLooks := .later }
def HttpLivesCardSaid : Prop := Claim7.holds Tryz.pinned (.plain (OpenSpec.ofChange httpLivesSpec)) httpLivesCard

/-- THE TIED CARD OF 'ciceronelaw13.HttpWrites'. -/
def httpWritesCard : Claim7 := { stood := { row := httpWritesRow, standIns := [], harness := (true, "21a150fb7805d7925fa31c5421e1604535fe725026c7a80a92ecbe1fb55220cc"), looks := false }, kinds := [], alts := [], laidByText := true, laidKinds := [.data, .data, .data, .data, .pinned, .pinned], laidTests := true, laidLooks := .later }
def HttpWritesCardSaid : Prop := Claim7.holds Tryz.pinned (.plain (OpenSpec.ofChange httpWritesSpec)) httpWritesCard

/-- THE TIED CARD OF 'ciceronelaw13.HttpParses'. -/
def httpParsesCard : Claim7 := { stood := { row := httpParsesRow, standIns := [], harness := (true, "21a150fb7805d7925fa31c5421e1604535fe725026c7a80a92ecbe1fb55220cc"), looks := false }, kinds := [], alts := [], laidByText := true, laidKinds := [.data, .data, .data, .data, .pinned, .pinned], laidTests := true, laidLooks := .later }
def HttpParsesCardSaid : Prop := Claim7.holds Tryz.pinned (.plain (OpenSpec.ofChange httpParsesSpec)) httpParsesCard

/-- THE TIED CARD OF 'ciceronelaw13.HttpAsked'. -/
def httpAskedCard : Claim7 := { stood := { row := httpAskedRow, standIns := [], harness := (true, "21a150fb7805d7925fa31c5421e1604535fe725026c7a80a92ecbe1fb55220cc"), looks := false }, kinds := [], alts := [], laidByText := true, laidKinds := [.data, .data, .data, .data, .pinned, .pinned], laidTests := true, laidLooks := .later }
def HttpAskedCardSaid : Prop := Claim7.holds Tryz.pinned (.plain (OpenSpec.ofChange httpAskedSpec)) httpAskedCard

/-- THE TIED CARD OF 'ciceronelaw13.HttpCloses'. -/
def httpClosesCard : Claim7 := { stood := { row := httpClosesRow, standIns := [], harness := (true, "21a150fb7805d7925fa31c5421e1604535fe725026c7a80a92ecbe1fb55220cc"), looks := false }, kinds := [], alts := [], laidByText := true, laidKinds := [.data, .data, .data, .data, .pinned, .pinned], laidTests := true, laidLooks := .later }
def HttpClosesCardSaid : Prop := Claim7.holds Tryz.pinned (.plain (OpenSpec.ofChange httpClosesSpec)) httpClosesCard

/-- THE TIED CARD OF 'ciceronelaw13.HttpNobody'. -/
def httpNobodyCard : Claim7 := { stood := { row := httpNobodyRow, standIns := [], harness := (true, "21a150fb7805d7925fa31c5421e1604535fe725026c7a80a92ecbe1fb55220cc"), looks := false }, kinds := [], alts := [], laidByText := true, laidKinds := [.data, .data, .data, .data, .pinned, .pinned], laidTests := true, laidLooks := .later }
def HttpNobodyCardSaid : Prop := Claim7.holds Tryz.pinned (.plain (OpenSpec.ofChange httpNobodySpec)) httpNobodyCard

/-- THE TIED CARD OF 'ciceronelaw14.StreamTalks'. -/
def streamTalksCard : Claim7 := { stood := { row := streamTalksRow, standIns := [], harness := (true, "21a150fb7805d7925fa31c5421e1604535fe725026c7a80a92ecbe1fb55220cc"), looks := false }, kinds := [], alts := [], laidByText := true, laidKinds := [.data, .data, .data, .data, .pinned], laidTests := true, laidLooks := .later }
def StreamTalksCardSaid : Prop := Claim7.holds Tryz.pinned (.plain (OpenSpec.ofChange streamTalksSpec)) streamTalksCard

/-- THE SECOND FORM's CARD OF 'ciceronelaw13.HttpLives'. -/
def httpLivesUptoCard : Claim7 := { stood := { row := httpLivesUptoRow, standIns := [], harness := (true, "21a150fb7805d7925fa31c5421e1604535fe725026c7a80a92ecbe1fb55220cc"), looks := false }, kinds := [], alts := [], laidByText := true, laidKinds := [.data, .data, .data, .data, .pinned, .pinned], laidTests := true, laidLooks := .later }
def HttpLivesUptoCardSaid : Prop := Claim7.holds Tryz.pinned (.plain (OpenSpec.upto httpLivesSpec)) httpLivesUptoCard

/-- THE SECOND FORM's CARD OF 'ciceronelaw13.HttpWrites'. -/
def httpWritesUptoCard : Claim7 := { stood := { row := httpWritesUptoRow, standIns := [], harness := (true, "21a150fb7805d7925fa31c5421e1604535fe725026c7a80a92ecbe1fb55220cc"), looks := false }, kinds := [], alts := [], laidByText := true, laidKinds := [.data, .data, .data, .data, .pinned, .pinned], laidTests := true, laidLooks := .later }
def HttpWritesUptoCardSaid : Prop := Claim7.holds Tryz.pinned (.plain (OpenSpec.upto httpWritesSpec)) httpWritesUptoCard

/-- THE SECOND FORM's CARD OF 'ciceronelaw13.HttpParses'. -/
def httpParsesUptoCard : Claim7 := { stood := { row := httpParsesUptoRow, standIns := [], harness := (true, "21a150fb7805d7925fa31c5421e1604535fe725026c7a80a92ecbe1fb55220cc"), looks := false }, kinds := [], alts := [], laidByText := true, laidKinds := [.data, .data, .data, .data, .pinned, .pinned], laidTests := true, laidLooks := .later }
def HttpParsesUptoCardSaid : Prop := Claim7.holds Tryz.pinned (.plain (OpenSpec.upto httpParsesSpec)) httpParsesUptoCard

/-- THE SECOND FORM's CARD OF 'ciceronelaw13.HttpAsked'. -/
def httpAskedUptoCard : Claim7 := { stood := { row := httpAskedUptoRow, standIns := [], harness := (true, "21a150fb7805d7925fa31c5421e1604535fe725026c7a80a92ecbe1fb55220cc"), looks := false }, kinds := [], alts := [], laidByText := true, laidKinds := [.data, .data, .data, .data, .pinned, .pinned], laidTests := true, laidLooks := .later }
def HttpAskedUptoCardSaid : Prop := Claim7.holds Tryz.pinned (.plain (OpenSpec.upto httpAskedSpec)) httpAskedUptoCard

/-- THE SECOND FORM's CARD OF 'ciceronelaw13.HttpCloses'. -/
def httpClosesUptoCard : Claim7 := { stood := { row := httpClosesUptoRow, standIns := [], harness := (true, "21a150fb7805d7925fa31c5421e1604535fe725026c7a80a92ecbe1fb55220cc"), looks := false }, kinds := [], alts := [], laidByText := true, laidKinds := [.data, .data, .data, .data, .pinned, .pinned], laidTests := true, laidLooks := .later }
def HttpClosesUptoCardSaid : Prop := Claim7.holds Tryz.pinned (.plain (OpenSpec.upto httpClosesSpec)) httpClosesUptoCard

/-- THE SECOND FORM's CARD OF 'ciceronelaw13.HttpNobody'. -/
def httpNobodyUptoCard : Claim7 := { stood := { row := httpNobodyUptoRow, standIns := [], harness := (true, "21a150fb7805d7925fa31c5421e1604535fe725026c7a80a92ecbe1fb55220cc"), looks := false }, kinds := [], alts := [], laidByText := true, laidKinds := [.data, .data, .data, .data, .pinned, .pinned], laidTests := true, laidLooks := .later }
def HttpNobodyUptoCardSaid : Prop := Claim7.holds Tryz.pinned (.plain (OpenSpec.upto httpNobodySpec)) httpNobodyUptoCard

/-- THE SECOND FORM's CARD OF 'ciceronelaw14.StreamTalks'. -/
def streamTalksUptoCard : Claim7 := { stood := { row := streamTalksUptoRow, standIns := [], harness := (true, "21a150fb7805d7925fa31c5421e1604535fe725026c7a80a92ecbe1fb55220cc"), looks := false }, kinds := [], alts := [], laidByText := true, laidKinds := [.data, .data, .data, .data, .pinned], laidTests := true, laidLooks := .later }
def StreamTalksUptoCardSaid : Prop := Claim7.holds Tryz.pinned (.plain (OpenSpec.upto streamTalksSpec)) streamTalksUptoCard
end Rows
end Go.Proofs.YtgeedbehkfdebaaGreatDoor
