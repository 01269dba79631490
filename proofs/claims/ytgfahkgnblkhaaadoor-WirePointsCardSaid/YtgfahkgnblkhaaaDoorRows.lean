/-
  NARROWER THAN 'FOR EVERY INPUT', by the rows' own cells (each row's printed sentence says how): WireWrites: laid · WirePoints: laid · PoolTimes: laid.
  DERIVED. THE GIVEN ROWS OF THIS SEAT. 3 by the template 'for every input the law returns true; each argument reads behind the call as it read before'; 0 by the template 'total and deterministic' (their statements: YtgfahkgnblkhaaaDoorTotals.lean).
  GIVEN WITH THE SEED: the statements are not yours to turn. If you find one false, say at which input.
  Laid BY PROGRAM, IN A SANDBOX (cutbox-rows.mjs): the forced cells as the released guide's own fill.sh prints them over the translation eaa4cd04e1b644ff… (all of the seat's roots in one cut). By AI agents, Wed Nov 11 2026. No macro, syntax, notation, axiom, sorry.
-/
import Derived.Test.YtgfahkgnblkhaaaDoorChecked
import GoSem.Claim
import GoSem.ClaimJoined
import GoSem.ClaimMapViews
import Derived.JoinedTies
import Derived.KernelRfl
namespace Go.Proofs.YtgfahkgnblkhaaaDoor
/- THE CELL 'sum', in the pinned program and in every row, IS THE sha256 OF THE DUMP (.gsa) THAT YtgfahkgnblkhaaaDoorProg.lean LOADS. Nothing in Lean hashes anything: it is a label: what it is worth is what the hold of that sum in a sandbox is worth. -/
noncomputable def Tryd.pinned : Pinned := { name := "ytgfahkgnblkhaaadoor", sum := "eaa4cd04e1b644ffc35912bc54b5cae300b211d31e53b77cbd4cb7884fdea16b", checked := Tryd.checked }
namespace Rows
def none {H : Type} : Left H := { results := [], args := [] }

/- WHAT THE LISTED PACKAGE-LEVEL VARIABLES READ AS WHEN THE CALL BEGINS. Each datum BY PROGRAM (the guide's laid-datum.mjs) off the statement by which the dump's own 'gosem.cut.vars' lays the variable. In a bare row this is a premise. The card (YtgfahkgnblkhaaaDoorCards.lean) ties it to the program's text. -/
def laid_cicerone_header_masks {H : Type} : DataW H := .agg [.lit (.int .i64 32768), .lit (.int .i64 1024), .lit (.int .i64 512), .lit (.int .i64 256), .lit (.int .i64 128)]

/-- 'ciceronelaw04.WireWrites': WHATEVER THE INPUT: true; the input reads as it did. -/
def wireWritesSpec : ChangeSpec := { name := "wireWrites", fn := fun _ => fun
  | [d] => { results := [.lit (.bool true)], args := [d] }
  | _ => none }
def wireWritesRow : OpenClaim := { program := "ytgfahkgnblkhaaadoor", sum := "eaa4cd04e1b644ffc35912bc54b5cae300b211d31e53b77cbd4cb7884fdea16b", func := "cicerone/ciceronelaw04.WireWrites", spec := "wireWrites", unfollowed := true, recurses := true, named := ["cicerone/header.masks"], apart := false, laid := [("cicerone/header.masks", laid_cicerone_header_masks)] }
def WireWritesSaid : Prop := wireWritesRow.holds Tryd.pinned (OpenSpec.ofChange wireWritesSpec)

/-- ITS FALSE NEIGHBOUR: 'it returns false'. Refute it at one input. -/
def wireWritesWrong : ChangeSpec := { name := "wireWrites", fn := fun _ => fun
  | [d] => { results := [.lit (.bool false)], args := [d] }
  | _ => none }
def WireWritesWrongFalsely : Prop := wireWritesRow.holds Tryd.pinned (OpenSpec.ofChange wireWritesWrong)

/-- 'ciceronelaw04.WirePoints': WHATEVER THE INPUT: true; the input reads as it did. -/
def wirePointsSpec : ChangeSpec := { name := "wirePoints", fn := fun _ => fun
  | [d1, d2, d3] => { results := [.lit (.bool true)], args := [d1, d2, d3] }
  | _ => none }
def wirePointsRow : OpenClaim := { program := "ytgfahkgnblkhaaadoor", sum := "eaa4cd04e1b644ffc35912bc54b5cae300b211d31e53b77cbd4cb7884fdea16b", func := "cicerone/ciceronelaw04.WirePoints", spec := "wirePoints", named := ["cicerone/header.masks"], apart := false, laid := [("cicerone/header.masks", laid_cicerone_header_masks)] }
def WirePointsSaid : Prop := wirePointsRow.holds Tryd.pinned (OpenSpec.ofChange wirePointsSpec)

/-- ITS FALSE NEIGHBOUR: 'it returns false'. Refute it at one input. -/
def wirePointsWrong : ChangeSpec := { name := "wirePoints", fn := fun _ => fun
  | [d1, d2, d3] => { results := [.lit (.bool false)], args := [d1, d2, d3] }
  | _ => none }
def WirePointsWrongFalsely : Prop := wirePointsRow.holds Tryd.pinned (OpenSpec.ofChange wirePointsWrong)

/-- 'ciceronelaw17.PoolTimes': WHATEVER THE INPUT: true; the input reads as it did. -/
def poolTimesSpec : ChangeSpec := { name := "poolTimes", fn := fun _ => fun
  | [d1, d2, d3, d4] => { results := [.lit (.bool true)], args := [d1, d2, d3, d4] }
  | _ => none }
def poolTimesRow : OpenClaim := { program := "ytgfahkgnblkhaaadoor", sum := "eaa4cd04e1b644ffc35912bc54b5cae300b211d31e53b77cbd4cb7884fdea16b", func := "cicerone/ciceronelaw17.PoolTimes", spec := "poolTimes", unfollowed := true, recurses := true, named := ["cicerone/header.masks"], apart := false, laid := [("cicerone/header.masks", laid_cicerone_header_masks)] }
def PoolTimesSaid : Prop := poolTimesRow.holds Tryd.pinned (OpenSpec.ofChange poolTimesSpec)

/-- ITS FALSE NEIGHBOUR: 'it returns false'. Refute it at one input. -/
def poolTimesWrong : ChangeSpec := { name := "poolTimes", fn := fun _ => fun
  | [d1, d2, d3, d4] => { results := [.lit (.bool false)], args := [d1, d2, d3, d4] }
  | _ => none }
def PoolTimesWrongFalsely : Prop := poolTimesRow.holds Tryd.pinned (OpenSpec.ofChange poolTimesWrong)

/- THE SECOND FORM. 'bulk': how many values and letters a reading holds, each counted each time it is reached (what is shared counts as often as it is met; a slice's spare places count too). A statement '..UptoSaid' is the law's where the arguments, and the package variables that the reading takes, are together of bulk at most 1048576: NARROWER than '..Said'. Prove '..Said' where nothing that the law and all that it calls make is longer than what came in: it says more and counts as full. Else prove '..UptoSaid'. A law counts once. -/
mutual
def uptoBulk {H : Type} : DataW H → Nat
  | .lit (.string bytes) => bytes.length + 1
  | .lit _ => 1
  | .nil => 1
  | .ptr d => uptoBulk d + 1
  | .slice elems spare => uptoBulkAll elems + uptoBulkAll spare + 1
  | .agg parts => uptoBulkAll parts + 1
  | .iface _ d => uptoBulk d + 1
  | .map entries => uptoBulkEntries entries + 1
  | .held _ => 1
def uptoBulkAll {H : Type} : List (DataW H) → Nat
  | [] => 0
  | d :: r => uptoBulk d + uptoBulkAll r
def uptoBulkEntries {H : Type} : List (Lit × DataW H) → Nat
  | [] => 0
  | x :: r => uptoBulkEntry x + uptoBulkEntries r
def uptoBulkEntry {H : Type} : Lit × DataW H → Nat
  | (.string bytes, d) => bytes.length + uptoBulk d + 1
  | (_, d) => uptoBulk d + 1
 end
def uptoSmall : (H : Type) → List (DataW H) → Bool := fun _ ds => decide (uptoBulkAll ds ≤ 1048576)
def OpenSpec.upto (s : _root_.Go.ChangeSpec) : _root_.Go.OpenSpec := { _root_.Go.OpenSpec.ofChange s with cond := some uptoSmall }

/-- 'ciceronelaw04.WireWrites', WHERE WHAT IT READS IS OF BULK AT MOST 1048576: true; the input reads as it did. -/
def wireWritesUptoRow : OpenClaim := { program := "ytgfahkgnblkhaaadoor", sum := "eaa4cd04e1b644ffc35912bc54b5cae300b211d31e53b77cbd4cb7884fdea16b", func := "cicerone/ciceronelaw04.WireWrites", spec := "wireWrites", unfollowed := true, recurses := true, named := ["cicerone/header.masks"], apart := false, laid := [("cicerone/header.masks", laid_cicerone_header_masks)], narrowed := true }
def WireWritesUptoSaid : Prop := wireWritesUptoRow.holds Tryd.pinned (OpenSpec.upto wireWritesSpec)

/-- 'ciceronelaw04.WirePoints', WHERE WHAT IT READS IS OF BULK AT MOST 1048576: true; the input reads as it did. -/
def wirePointsUptoRow : OpenClaim := { program := "ytgfahkgnblkhaaadoor", sum := "eaa4cd04e1b644ffc35912bc54b5cae300b211d31e53b77cbd4cb7884fdea16b", func := "cicerone/ciceronelaw04.WirePoints", spec := "wirePoints", named := ["cicerone/header.masks"], apart := false, laid := [("cicerone/header.masks", laid_cicerone_header_masks)], narrowed := true }
def WirePointsUptoSaid : Prop := wirePointsUptoRow.holds Tryd.pinned (OpenSpec.upto wirePointsSpec)

/-- 'ciceronelaw17.PoolTimes', WHERE WHAT IT READS IS OF BULK AT MOST 1048576: true; the input reads as it did. -/
def poolTimesUptoRow : OpenClaim := { program := "ytgfahkgnblkhaaadoor", sum := "eaa4cd04e1b644ffc35912bc54b5cae300b211d31e53b77cbd4cb7884fdea16b", func := "cicerone/ciceronelaw17.PoolTimes", spec := "poolTimes", unfollowed := true, recurses := true, named := ["cicerone/header.masks"], apart := false, laid := [("cicerone/header.masks", laid_cicerone_header_masks)], narrowed := true }
def PoolTimesUptoSaid : Prop := poolTimesUptoRow.holds Tryd.pinned (OpenSpec.upto poolTimesSpec)

end Rows
end Go.Proofs.YtgfahkgnblkhaaaDoor
