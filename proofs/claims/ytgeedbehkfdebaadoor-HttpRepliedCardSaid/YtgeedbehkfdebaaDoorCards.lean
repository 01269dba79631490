/-
  DERIVED. GIVEN WITH THE SEED: THE CARDS: each row of YtgeedbehkfdebaaDoorRows.lean that lists a variable, with what it lists TIED to the program's text (the seventh form; the later family's looks); each row that meets fmt, with fmt's text TOLD by the authors' own Lean function (tested against real Go, not proved from fmt's source: count such statements apart). THE CARD IS WHAT COUNTS. Prove the row's statement (the work); the ties are given (YtgeedbehkfdebaaDoorTie.lean); close each card by the builder's one call (the guide's Derived/Test/ToyasCard.lean, 'card_holds'). Laid BY PROGRAM, IN A SANDBOX (cutbox-door.mjs). By AI agents, Wed Nov 11 2026. No macro, syntax, notation, axiom, sorry.
-/
import Derived.Test.YtgeedbehkfdebaaDoorRows
import GoSem.ClaimSeven
namespace Go.Proofs.YtgeedbehkfdebaaDoor
namespace Rows

/-- THE TIED CARD OF 'ciceronelaw13.HttpReplied'. -/
def httpRepliedCard : Claim7 := { stood := { row := httpRepliedRow, standIns := [], harness := (true, "6710ca09eb829a2186d59536dfb425892146f5667f787e2021fd5715cc0ae78d"), looks := false }, kinds := [], alts := [], laidByText := true, laidKinds := [.data, .data, .data, .data, .pinned], laidTests := true, laidLooks := .later }
def HttpRepliedCardSaid : Prop := Claim7.holds Tryd.pinned (.plain (OpenSpec.ofChange httpRepliedSpec)) httpRepliedCard

/-- THE TIED CARD OF 'ciceronelaw13.HttpBad'. -/
def httpBadCard : Claim7 := { stood := { row := httpBadRow, standIns := [], harness := (true, "6710ca09eb829a2186d59536dfb425892146f5667f787e2021fd5715cc0ae78d"), looks := false }, kinds := [], alts := [], laidByText := true, laidKinds := [.data, .pinned, .pinned], laidTests := true, laidLooks := .later }
def HttpBadCardSaid : Prop := Claim7.holds Tryd.pinned (.plain (OpenSpec.ofChange httpBadSpec)) httpBadCard

/-- THE SECOND FORM's CARD OF 'ciceronelaw13.HttpReplied'. -/
def httpRepliedUptoCard : Claim7 := { stood := { row := httpRepliedUptoRow, standIns := [], harness := (true, "6710ca09eb829a2186d59536dfb425892146f5667f787e2021fd5715cc0ae78d"), looks := false }, kinds := [], alts := [], laidByText := true, laidKinds := [.data, .data, .data, .data, .pinned], laidTests := true, laidLooks := .later }
def HttpRepliedUptoCardSaid : Prop := Claim7.holds Tryd.pinned (.plain (OpenSpec.upto httpRepliedSpec)) httpRepliedUptoCard

/-- THE SECOND FORM's CARD OF 'ciceronelaw13.HttpBad'. -/
def httpBadUptoCard : Claim7 := { stood := { row := httpBadUptoRow, standIns := [], harness := (true, "6710ca09eb829a2186d59536dfb425892146f5667f787e2021fd5715cc0ae78d"), looks := false }, kinds := [], alts := [], laidByText := true, laidKinds := [.data, .pinned, .pinned], laidTests := true, laidLooks := .later }
def HttpBadUptoCardSaid : Prop := Claim7.holds Tryd.pinned (.plain (OpenSpec.upto httpBadSpec)) httpBadUptoCard
end Rows
end Go.Proofs.YtgeedbehkfdebaaDoor
