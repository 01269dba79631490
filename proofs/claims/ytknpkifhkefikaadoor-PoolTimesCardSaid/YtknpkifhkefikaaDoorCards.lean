/-
  DERIVED. GIVEN WITH THE SEED: THE CARDS: each row of YtknpkifhkefikaaDoorRows.lean that lists a variable, with what it lists TIED to the program's text (the seventh form; the later family's looks); each row that meets fmt, with fmt's text TOLD by the authors' own Lean function (tested against real Go, not proved from fmt's source: count such statements apart). THE CARD IS WHAT COUNTS. Prove the row's statement (the work); the ties are given (YtknpkifhkefikaaDoorTie.lean); close each card by the builder's one call (the guide's Derived/Test/ToyasCard.lean, 'card_holds'). Laid BY PROGRAM, IN A SANDBOX (cutbox-door.mjs). By AI agents, Wed Nov 11 2026. No macro, syntax, notation, axiom, sorry.
-/
import Derived.Test.YtknpkifhkefikaaDoorRows
import GoSem.ClaimSeven
namespace Go.Proofs.YtknpkifhkefikaaDoor
namespace Rows

/-- THE TIED CARD OF 'ciceronelaw04.WireWrites'. -/
def wireWritesCard : Claim7 := { stood := { row := wireWritesRow, standIns := [], harness := (true, "7bb9fede107a30b47ab69061756a20339bd6a6c95b0a282ef193c20717c1f740"), looks := true }, kinds := [], alts := [], laidByText := true, laidKinds := [.data], laidTests := true, laidLooks := .later }
def WireWritesCardSaid : Prop := Claim7.holds Tryd.pinned (.plain (OpenSpec.ofChange wireWritesSpec)) wireWritesCard

/-- THE TIED CARD OF 'ciceronelaw04.WireBack'. -/
def wireBackCard : Claim7 := { stood := { row := wireBackRow, standIns := [], harness := (true, "7bb9fede107a30b47ab69061756a20339bd6a6c95b0a282ef193c20717c1f740"), looks := true }, kinds := [], alts := [], laidByText := true, laidKinds := [.data], laidTests := true, laidLooks := .later }
def WireBackCardSaid : Prop := Claim7.holds Tryd.pinned (.plain (OpenSpec.ofChange wireBackSpec)) wireBackCard

/-- THE TIED CARD OF 'ciceronelaw04.WireLoops'. -/
def wireLoopsCard : Claim7 := { stood := { row := wireLoopsRow, standIns := [], harness := (true, "7bb9fede107a30b47ab69061756a20339bd6a6c95b0a282ef193c20717c1f740"), looks := true }, kinds := [], alts := [], laidByText := true, laidKinds := [.data], laidTests := true, laidLooks := .later }
def WireLoopsCardSaid : Prop := Claim7.holds Tryd.pinned (.plain (OpenSpec.ofChange wireLoopsSpec)) wireLoopsCard

/-- THE TIED CARD OF 'ciceronelaw04.WireTrail'. -/
def wireTrailCard : Claim7 := { stood := { row := wireTrailRow, standIns := [], harness := (true, "7bb9fede107a30b47ab69061756a20339bd6a6c95b0a282ef193c20717c1f740"), looks := true }, kinds := [], alts := [], laidByText := true, laidKinds := [.data], laidTests := true, laidLooks := .later }
def WireTrailCardSaid : Prop := Claim7.holds Tryd.pinned (.plain (OpenSpec.ofChange wireTrailSpec)) wireTrailCard

/-- THE TIED CARD OF 'ciceronelaw17.PoolTimes'. -/
def poolTimesCard : Claim7 := { stood := { row := poolTimesRow, standIns := [], harness := (true, "7bb9fede107a30b47ab69061756a20339bd6a6c95b0a282ef193c20717c1f740"), looks := true }, kinds := [], alts := [], laidByText := true, laidKinds := [.data], laidTests := true, laidLooks := .later }
def PoolTimesCardSaid : Prop := Claim7.holds Tryd.pinned (.plain (OpenSpec.ofChange poolTimesSpec)) poolTimesCard

/-- THE SECOND FORM's CARD OF 'ciceronelaw04.WireWrites'. -/
def wireWritesUptoCard : Claim7 := { stood := { row := wireWritesUptoRow, standIns := [], harness := (true, "7bb9fede107a30b47ab69061756a20339bd6a6c95b0a282ef193c20717c1f740"), looks := true }, kinds := [], alts := [], laidByText := true, laidKinds := [.data], laidTests := true, laidLooks := .later }
def WireWritesUptoCardSaid : Prop := Claim7.holds Tryd.pinned (.plain (OpenSpec.upto wireWritesSpec)) wireWritesUptoCard

/-- THE SECOND FORM's CARD OF 'ciceronelaw04.WireBack'. -/
def wireBackUptoCard : Claim7 := { stood := { row := wireBackUptoRow, standIns := [], harness := (true, "7bb9fede107a30b47ab69061756a20339bd6a6c95b0a282ef193c20717c1f740"), looks := true }, kinds := [], alts := [], laidByText := true, laidKinds := [.data], laidTests := true, laidLooks := .later }
def WireBackUptoCardSaid : Prop := Claim7.holds Tryd.pinned (.plain (OpenSpec.upto wireBackSpec)) wireBackUptoCard

/-- THE SECOND FORM's CARD OF 'ciceronelaw04.WireLoops'. -/
def wireLoopsUptoCard : Claim7 := { stood := { row := wireLoopsUptoRow, standIns := [], harness := (true, "7bb9fede107a30b47ab69061756a20339bd6a6c95b0a282ef193c20717c1f740"), looks := true }, kinds := [], alts := [], laidByText := true, laidKinds := [.data], laidTests := true, laidLooks := .later }
def WireLoopsUptoCardSaid : Prop := Claim7.holds Tryd.pinned (.plain (OpenSpec.upto wireLoopsSpec)) wireLoopsUptoCard

/-- THE SECOND FORM's CARD OF 'ciceronelaw04.WireTrail'. -/
def wireTrailUptoCard : Claim7 := { stood := { row := wireTrailUptoRow, standIns := [], harness := (true, "7bb9fede107a30b47ab69061756a20339bd6a6c95b0a282ef193c20717c1f740"), looks := true }, kinds := [], alts := [], laidByText := true, laidKinds := [.data], laidTests := true, laidLooks := .later }
def WireTrailUptoCardSaid : Prop := Claim7.holds Tryd.pinned (.plain (OpenSpec.upto wireTrailSpec)) wireTrailUptoCard

/-- THE SECOND FORM's CARD OF 'ciceronelaw17.PoolTimes'. -/
def poolTimesUptoCard : Claim7 := { stood := { row := poolTimesUptoRow, standIns := [], harness := (true, "7bb9fede107a30b47ab69061756a20339bd6a6c95b0a282ef193c20717c1f740"), looks := true }, kinds := [], alts := [], laidByText := true, laidKinds := [.data], laidTests := true, laidLooks := .later }
def PoolTimesUptoCardSaid : Prop := Claim7.holds Tryd.pinned (.plain (OpenSpec.upto poolTimesSpec)) poolTimesUptoCard
end Rows
end Go.Proofs.YtknpkifhkefikaaDoor
