/-
  DERIVED. GIVEN WITH THE SEED: THE CARDS: each row of YtkpnhbjdpbjfjaaDoorRows.lean that lists a variable, with what it lists TIED to the program's text (the seventh form; the later family's looks); each row that meets fmt, with fmt's text TOLD by the authors' own Lean function (tested against real Go, not proved from fmt's source: count such statements apart). THE CARD IS WHAT COUNTS. Prove the row's statement (the work); the ties are given (YtkpnhbjdpbjfjaaDoorTie.lean); close each card by the builder's one call (the guide's Derived/Test/ToyasCard.lean, 'card_holds'). Laid BY PROGRAM, IN A SANDBOX (cutbox-door.mjs). By AI agents, Wed Nov 11 2026. No macro, syntax, notation, axiom, sorry.
-/
import Derived.Test.YtkpnhbjdpbjfjaaDoorRows
import GoSem.ClaimSeven
namespace Go.Proofs.YtkpnhbjdpbjfjaaDoor
namespace Rows

/-- THE TIED CARD OF 'ciceronelaw05.DigestTells'. -/
def digestTellsCard : Claim7 := { stood := { row := digestTellsRow, standIns := [], harness := (true, "e1f680365bb7c1df1563681da6d4d6121f542709d8e616fb595b6ca896acc620"), looks := false }, kinds := [], alts := [], laidByText := true, laidKinds := [.data], laidTests := true, laidLooks := .later }
def DigestTellsCardSaid : Prop := Claim7.holds Tryd.pinned (.plain (OpenSpec.ofChange digestTellsSpec)) digestTellsCard

/-- THE TIED CARD OF 'ciceronelaw05.DigestBlocks'. -/
def digestBlocksCard : Claim7 := { stood := { row := digestBlocksRow, standIns := [], harness := (true, "e1f680365bb7c1df1563681da6d4d6121f542709d8e616fb595b6ca896acc620"), looks := false }, kinds := [], alts := [], laidByText := true, laidKinds := [.data], laidTests := true, laidLooks := .later }
def DigestBlocksCardSaid : Prop := Claim7.holds Tryd.pinned (.plain (OpenSpec.ofChange digestBlocksSpec)) digestBlocksCard

/-- THE TIED CARD OF 'ciceronelaw07.SeglogFrames'. -/
def seglogFramesCard : Claim7 := { stood := { row := seglogFramesRow, standIns := [], harness := (true, "e1f680365bb7c1df1563681da6d4d6121f542709d8e616fb595b6ca896acc620"), looks := false }, kinds := [], alts := [], laidByText := true, laidKinds := [.data], laidTests := true, laidLooks := .later }
def SeglogFramesCardSaid : Prop := Claim7.holds Tryd.pinned (.plain (OpenSpec.ofChange seglogFramesSpec)) seglogFramesCard

/-- THE SECOND FORM's CARD OF 'ciceronelaw05.DigestTells'. -/
def digestTellsUptoCard : Claim7 := { stood := { row := digestTellsUptoRow, standIns := [], harness := (true, "e1f680365bb7c1df1563681da6d4d6121f542709d8e616fb595b6ca896acc620"), looks := false }, kinds := [], alts := [], laidByText := true, laidKinds := [.data], laidTests := true, laidLooks := .later }
def DigestTellsUptoCardSaid : Prop := Claim7.holds Tryd.pinned (.plain (OpenSpec.upto digestTellsSpec)) digestTellsUptoCard

/-- THE SECOND FORM's CARD OF 'ciceronelaw05.DigestBlocks'. -/
def digestBlocksUptoCard : Claim7 := { stood := { row := digestBlocksUptoRow, standIns := [], harness := (true, "e1f680365bb7c1df1563681da6d4d6121f542709d8e616fb595b6ca896acc620"), looks := false }, kinds := [], alts := [], laidByText := true, laidKinds := [.data], laidTests := true, laidLooks := .later }
def DigestBlocksUptoCardSaid : Prop := Claim7.holds Tryd.pinned (.plain (OpenSpec.upto digestBlocksSpec)) digestBlocksUptoCard

/-- THE SECOND FORM's CARD OF 'ciceronelaw07.SeglogFrames'. -/
def seglogFramesUptoCard : Claim7 := { stood := { row := seglogFramesUptoRow, standIns := [], harness := (true, "e1f680365bb7c1df1563681da6d4d6121f542709d8e616fb595b6ca896acc620"), looks := false }, kinds := [], alts := [], laidByText := true, laidKinds := [.data], laidTests := true, laidLooks := .later }
def SeglogFramesUptoCardSaid : Prop := Claim7.holds Tryd.pinned (.plain (OpenSpec.upto seglogFramesSpec)) seglogFramesUptoCard
end Rows
end Go.Proofs.YtkpnhbjdpbjfjaaDoor
