/-
  DERIVED. GIVEN WITH THE SEED: THE CARDS: each row of YtgfahkgnblkhaaaDoorRows.lean that lists a variable, with what it lists TIED to the program's text (the seventh form; the later family's looks); each row that meets fmt, with fmt's text TOLD by the authors' own Lean function (tested against real Go, not proved from fmt's source: count such statements apart). THE CARD IS WHAT COUNTS. Prove the row's statement (the work); the ties are given (YtgfahkgnblkhaaaDoorTie.lean); close each card by the builder's one call (the guide's Derived/Test/ToyasCard.lean, 'card_holds'). Laid BY PROGRAM, IN A SANDBOX (cutbox-door.mjs). By AI agents, Wed Nov 11 2026. No macro, syntax, notation, axiom, sorry.
-/
import Derived.Test.YtgfahkgnblkhaaaDoorRows
import GoSem.ClaimSeven
namespace Go.Proofs.YtgfahkgnblkhaaaDoor
namespace Rows

/-- THE TIED CARD OF 'ciceronelaw04.WireWrites'. -/
def wireWritesCard : Claim7 := { stood := { row := wireWritesRow, standIns := [], harness := (true, "eda1e6e16e6125216318956b0006ed4704beaed849ff466a930fad92e7259965"), looks := true }, kinds := [], alts := [], laidByText := true, laidKinds := [.data], laidTests := true, laidLooks := .later }
def WireWritesCardSaid : Prop := Claim7.holds Tryd.pinned (.plain (OpenSpec.ofChange wireWritesSpec)) wireWritesCard

/-- THE TIED CARD OF 'ciceronelaw04.WirePoints'. -/
def wirePointsCard : Claim7 := { stood := { row := wirePointsRow, standIns := [], harness := (true, "eda1e6e16e6125216318956b0006ed4704beaed849ff466a930fad92e7259965"), looks := true }, kinds := [], alts := [], laidByText := true, laidKinds := [.data], laidTests := true, laidLooks := .later }
def WirePointsCardSaid : Prop := Claim7.holds Tryd.pinned (.plain (OpenSpec.ofChange wirePointsSpec)) wirePointsCard

/-- THE TIED CARD OF 'ciceronelaw17.PoolTimes'. -/
def poolTimesCard : Claim7 := { stood := { row := poolTimesRow, standIns := [], harness := (true, "eda1e6e16e6125216318956b0006ed4704beaed849ff466a930fad92e7259965"), looks := true }, kinds := [], alts := [], laidByText := true, laidKinds := [.data], laidTests := true, laidLooks := .later }
def PoolTimesCardSaid : Prop := Claim7.holds Tryd.pinned (.plain (OpenSpec.ofChange poolTimesSpec)) poolTimesCard

/-- THE SECOND FORM's CARD OF 'ciceronelaw04.WireWrites'. -/
def wireWritesUptoCard : Claim7 := { stood := { row := wireWritesUptoRow, standIns := [], harness := (true, "eda1e6e16e6125216318956b0006ed4704beaed849ff466a930fad92e7259965"), looks := true }, kinds := [], alts := [], laidByText := true, laidKinds := [.data], laidTests := true, laidLooks := .later }
def WireWritesUptoCardSaid : Prop := Claim7.holds Tryd.pinned (.plain (OpenSpec.upto wireWritesSpec)) wireWritesUptoCard

/-- THE SECOND FORM's CARD OF 'ciceronelaw04.WirePoints'. -/
def wirePointsUptoCard : Claim7 := { stood := { row := wirePointsUptoRow, standIns := [], harness := (true, "eda1e6e16e6125216318956b0006ed4704beaed849ff466a930fad92e7259965"), looks := true }, kinds := [], alts := [], laidByText := true, laidKinds := [.data], laidTests := true, laidLooks := .later }
def WirePointsUptoCardSaid : Prop := Claim7.holds Tryd.pinned (.plain (OpenSpec.upto wirePointsSpec)) wirePointsUptoCard

/-- THE SECOND FORM's CARD OF 'ciceronelaw17.PoolTimes'. -/
def poolTimesUptoCard : Claim7 := { stood := { row := poolTimesUptoRow, standIns := [], harness := (true, "eda1e6e16e6125216318956b0006ed4704beaed849ff466a930fad92e7259965"), looks := true }, kinds := [], alts := [], laidByText := true, laidKinds := [.data], laidTests := true, laidLooks := .later }
def PoolTimesUptoCardSaid : Prop := Claim7.holds Tryd.pinned (.plain (OpenSpec.upto poolTimesSpec)) poolTimesUptoCard
end Rows
end Go.Proofs.YtgfahkgnblkhaaaDoor
