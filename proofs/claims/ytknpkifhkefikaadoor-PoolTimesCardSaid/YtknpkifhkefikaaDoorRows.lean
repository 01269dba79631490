/-
  NARROWER THAN 'FOR EVERY INPUT', by the rows' own cells (each row's printed sentence says how): WireWrites: laid · WireBack: laid · WireLoops: laid · WireTrail: laid · PoolTimes: laid.
  DERIVED. THE GIVEN ROWS OF THIS SEAT. 5 by the template 'for every input the law returns true; each argument reads behind the call as it read before'; 0 by the template 'total and deterministic' (their statements: YtknpkifhkefikaaDoorTotals.lean).
  GIVEN WITH THE SEED: the statements are not yours to turn. If you find one false, say at which input.
  Laid BY PROGRAM, IN A SANDBOX (cutbox-rows.mjs): the forced cells as the released guide's own fill.sh prints them over the translation 75a6e78f3fba7f5b… (all of the seat's roots in one cut). By AI agents, Wed Nov 11 2026. No macro, syntax, notation, axiom, sorry.
-/
import Derived.Test.YtknpkifhkefikaaDoorChecked
import GoSem.Claim
import GoSem.ClaimJoined
import GoSem.ClaimMapViews
import Derived.JoinedTies
import Derived.KernelRfl
namespace Go.Proofs.YtknpkifhkefikaaDoor
/- THE CELL 'sum', in the pinned program and in every row, IS THE sha256 OF THE DUMP (.gsa) THAT YtknpkifhkefikaaDoorProg.lean LOADS. Nothing in Lean hashes anything: it is a label: what it is worth is what the hold of that sum in a sandbox is worth. -/
noncomputable def Tryd.pinned : Pinned := { name := "ytknpkifhkefikaadoor", sum := "75a6e78f3fba7f5b521c8fae2d782d553cc244728a0bf9cdbc6c0b3e9ff3f0bc", checked := Tryd.checked }
namespace Rows
def none {H : Type} : Left H := { results := [], args := [] }

/- WHAT THE LISTED PACKAGE-LEVEL VARIABLES READ AS WHEN THE CALL BEGINS. Each datum BY PROGRAM (the guide's laid-datum.mjs) off the statement by which the dump's own 'gosem.cut.vars' lays the variable. In a bare row this is a premise. The card (YtknpkifhkefikaaDoorCards.lean) ties it to the program's text. -/
def laid_cicerone_header_masks {H : Type} : DataW H := .agg [.lit (.int .i64 32768), .lit (.int .i64 1024), .lit (.int .i64 512), .lit (.int .i64 256), .lit (.int .i64 128)]

/-- 'ciceronelaw04.WireWrites': WHATEVER THE INPUT: true; the input reads as it did. -/
def wireWritesSpec : ChangeSpec := { name := "wireWrites", fn := fun _ => fun
  | [d] => { results := [.lit (.bool true)], args := [d] }
  | _ => none }
def wireWritesRow : OpenClaim := { program := "ytknpkifhkefikaadoor", sum := "75a6e78f3fba7f5b521c8fae2d782d553cc244728a0bf9cdbc6c0b3e9ff3f0bc", func := "cicerone/ciceronelaw04.WireWrites", spec := "wireWrites", unfollowed := true, recurses := true, named := ["cicerone/header.masks"], apart := false, laid := [("cicerone/header.masks", laid_cicerone_header_masks)] }
def WireWritesSaid : Prop := wireWritesRow.holds Tryd.pinned (OpenSpec.ofChange wireWritesSpec)

/-- ITS FALSE NEIGHBOUR: 'it returns false'. Refute it at one input. -/
def wireWritesWrong : ChangeSpec := { name := "wireWrites", fn := fun _ => fun
  | [d] => { results := [.lit (.bool false)], args := [d] }
  | _ => none }
def WireWritesWrongFalsely : Prop := wireWritesRow.holds Tryd.pinned (OpenSpec.ofChange wireWritesWrong)

/-- 'ciceronelaw04.WireBack': WHATEVER THE INPUT: true; the input reads as it did. -/
def wireBackSpec : ChangeSpec := { name := "wireBack", fn := fun _ => fun
  | [d] => { results := [.lit (.bool true)], args := [d] }
  | _ => none }
def wireBackRow : OpenClaim := { program := "ytknpkifhkefikaadoor", sum := "75a6e78f3fba7f5b521c8fae2d782d553cc244728a0bf9cdbc6c0b3e9ff3f0bc", func := "cicerone/ciceronelaw04.WireBack", spec := "wireBack", unfollowed := true, recurses := true, named := ["cicerone/header.masks"], apart := false, laid := [("cicerone/header.masks", laid_cicerone_header_masks)] }
def WireBackSaid : Prop := wireBackRow.holds Tryd.pinned (OpenSpec.ofChange wireBackSpec)

/-- ITS FALSE NEIGHBOUR: 'it returns false'. Refute it at one input. -/
def wireBackWrong : ChangeSpec := { name := "wireBack", fn := fun _ => fun
  | [d] => { results := [.lit (.bool false)], args := [d] }
  | _ => none }
def WireBackWrongFalsely : Prop := wireBackRow.holds Tryd.pinned (OpenSpec.ofChange wireBackWrong)

/-- 'ciceronelaw04.WireLoops': WHATEVER THE INPUT: true; the input reads as it did. -/
def wireLoopsSpec : ChangeSpec := { name := "wireLoops", fn := fun _ => fun
  | [d1, d2] => { results := [.lit (.bool true)], args := [d1, d2] }
  | _ => none }
def wireLoopsRow : OpenClaim := { program := "ytknpkifhkefikaadoor", sum := "75a6e78f3fba7f5b521c8fae2d782d553cc244728a0bf9cdbc6c0b3e9ff3f0bc", func := "cicerone/ciceronelaw04.WireLoops", spec := "wireLoops", unfollowed := true, recurses := true, named := ["cicerone/header.masks"], apart := false, laid := [("cicerone/header.masks", laid_cicerone_header_masks)] }
def WireLoopsSaid : Prop := wireLoopsRow.holds Tryd.pinned (OpenSpec.ofChange wireLoopsSpec)

/-- ITS FALSE NEIGHBOUR: 'it returns false'. Refute it at one input. -/
def wireLoopsWrong : ChangeSpec := { name := "wireLoops", fn := fun _ => fun
  | [d1, d2] => { results := [.lit (.bool false)], args := [d1, d2] }
  | _ => none }
def WireLoopsWrongFalsely : Prop := wireLoopsRow.holds Tryd.pinned (OpenSpec.ofChange wireLoopsWrong)

/-- 'ciceronelaw04.WireTrail': WHATEVER THE INPUT: true; the input reads as it did. -/
def wireTrailSpec : ChangeSpec := { name := "wireTrail", fn := fun _ => fun
  | [d1, d2] => { results := [.lit (.bool true)], args := [d1, d2] }
  | _ => none }
def wireTrailRow : OpenClaim := { program := "ytknpkifhkefikaadoor", sum := "75a6e78f3fba7f5b521c8fae2d782d553cc244728a0bf9cdbc6c0b3e9ff3f0bc", func := "cicerone/ciceronelaw04.WireTrail", spec := "wireTrail", unfollowed := true, recurses := true, named := ["cicerone/header.masks"], apart := false, laid := [("cicerone/header.masks", laid_cicerone_header_masks)] }
def WireTrailSaid : Prop := wireTrailRow.holds Tryd.pinned (OpenSpec.ofChange wireTrailSpec)

/-- ITS FALSE NEIGHBOUR: 'it returns false'. Refute it at one input. -/
def wireTrailWrong : ChangeSpec := { name := "wireTrail", fn := fun _ => fun
  | [d1, d2] => { results := [.lit (.bool false)], args := [d1, d2] }
  | _ => none }
def WireTrailWrongFalsely : Prop := wireTrailRow.holds Tryd.pinned (OpenSpec.ofChange wireTrailWrong)

/-- 'ciceronelaw17.PoolTimes': WHATEVER THE INPUT: true; the input reads as it did. -/
def poolTimesSpec : ChangeSpec := { name := "poolTimes", fn := fun _ => fun
  | [d1, d2, d3, d4] => { results := [.lit (.bool true)], args := [d1, d2, d3, d4] }
  | _ => none }
def poolTimesRow : OpenClaim := { program := "ytknpkifhkefikaadoor", sum := "75a6e78f3fba7f5b521c8fae2d782d553cc244728a0bf9cdbc6c0b3e9ff3f0bc", func := "cicerone/ciceronelaw17.PoolTimes", spec := "poolTimes", unfollowed := true, recurses := true, named := ["cicerone/header.masks"], apart := false, laid := [("cicerone/header.masks", laid_cicerone_header_masks)] }
def PoolTimesSaid : Prop := poolTimesRow.holds Tryd.pinned (OpenSpec.ofChange poolTimesSpec)

/-- ITS FALSE NEIGHBOUR: 'it returns false'. Refute it at one input. -/
def poolTimesWrong : ChangeSpec := { name := "poolTimes", fn := fun _ => fun
  | [d1, d2, d3, d4] => { results := [.lit (.bool false)], args := [d1, d2, d3, d4] }
  | _ => none }
def PoolTimesWrongFalsely : Prop := poolTimesRow.holds Tryd.pinned (OpenSpec.ofChange poolTimesWrong)

/- THE SECOND FORM. 'bulk': how many values and letters a reading holds, each counted each time it is reached (what is shared counts as often as it is met; a slice's spare places count too). A statement '..UptoSaid' is the law's where the arguments, and the package variables that the reading takes, are together of bulk at most 1048576: NARROWER than '..Said'. Prove '..Said' where nothing that the law and all that it calls make is longer than what came in: it says more and counts as full. Else prove '..UptoSaid'. A law counts once. -/
mutual
def uptoBulk {H : Type} : DataW H → Nat
  | .lit (.string bytes) => bytes.length + 1
  | .lit _ => 1
  | .nil => 1
  | .ptr d => uptoBulk d + 1
  | .slice elems spare => uptoBulkAll elems + uptoBulkAll spare + 1
  | .agg parts => uptoBulkAll parts + 1
  | .iface _ d => uptoBulk d + 1
  | .map entries => uptoBulkEntries entries + 1
  | .held _ => 1
def uptoBulkAll {H : Type} : List (DataW H) → Nat
  | [] => 0
  | d :: r => uptoBulk d + uptoBulkAll r
def uptoBulkEntries {H : Type} : List (Lit × DataW H) → Nat
  | [] => 0
  | x :: r => uptoBulkEntry x + uptoBulkEntries r
def uptoBulkEntry {H : Type} : Lit × DataW H → Nat
  | (.string bytes, d) => bytes.length + uptoBulk d + 1
  | (_, d) => uptoBulk d + 1
 end
def uptoSmall : (H : Type) → List (DataW H) → Bool := fun _ ds => decide (uptoBulkAll ds ≤ 1048576)
def OpenSpec.upto (s : _root_.Go.ChangeSpec) : _root_.Go.OpenSpec := { _root_.Go.OpenSpec.ofChange s with cond := some uptoSmall }

/-- 'ciceronelaw04.WireWrites', WHERE WHAT IT READS IS OF BULK AT MOST 1048576: true; the input reads as it did. -/
def wireWritesUptoRow : OpenClaim := { program := "ytknpkifhkefikaadoor", sum := "75a6e78f3fba7f5b521c8fae2d782d553cc244728a0bf9cdbc6c0b3e9ff3f0bc", func := "cicerone/ciceronelaw04.WireWrites", spec := "wireWrites", unfollowed := true, recurses := true, named := ["cicerone/header.masks"], apart := false, laid := [("cicerone/header.masks", laid_cicerone_header_masks)], narrowed := true }
def WireWritesUptoSaid : Prop := wireWritesUptoRow.holds Tryd.pinned (OpenSpec.upto wireWritesSpec)

/-- 'ciceronelaw04.WireBack', WHERE WHAT IT READS IS OF BULK AT MOST 1048576: true; the input reads as it did. -/
def wireBackUptoRow : OpenClaim := { program := "ytknpkifhkefikaadoor", sum := "75a6e78f3fba7f5b521c8fae2d782d553cc244728a0bf9cdbc6c0b3e9ff3f0bc", func := "cicerone/ciceronelaw04.WireBack", spec := "wireBack", unfollowed := true, recurses := true, named := ["cicerone/header.masks"], apart := false, laid := [("cicerone/header.masks", laid_cicerone_header_masks)], narrowed := true }
def WireBackUptoSaid : Prop := wireBackUptoRow.holds Tryd.pinned (OpenSpec.upto wireBackSpec)

/-- 'ciceronelaw04.WireLoops', WHERE WHAT IT READS IS OF BULK AT MOST 1048576: true; the input reads as it did. -/
def wireLoopsUptoRow : OpenClaim := { program := "ytknpkifhkefikaadoor", sum := "75a6e78f3fba7f5b521c8fae2d782d553cc244728a0bf9cdbc6c0b3e9ff3f0bc", func := "cicerone/ciceronelaw04.WireLoops", spec := "wireLoops", unfollowed := true, recurses := true, named := ["cicerone/header.masks"], apart := false, laid := [("cicerone/header.masks", laid_cicerone_header_masks)], narrowed := true }
def WireLoopsUptoSaid : Prop := wireLoopsUptoRow.holds Tryd.pinned (OpenSpec.upto wireLoopsSpec)

/-- 'ciceronelaw04.WireTrail', WHERE WHAT IT READS IS OF BULK AT MOST 1048576: true; the input reads as it did. -/
def wireTrailUptoRow : OpenClaim := { program := "ytknpkifhkefikaadoor", sum := "75a6e78f3fba7f5b521c8fae2d782d553cc244728a0bf9cdbc6c0b3e9ff3f0bc", func := "cicerone/ciceronelaw04.WireTrail", spec := "wireTrail", unfollowed := true, recurses := true, named := ["cicerone/header.masks"], apart := false, laid := [("cicerone/header.masks", laid_cicerone_header_masks)], narrowed := true }
def WireTrailUptoSaid : Prop := wireTrailUptoRow.holds Tryd.pinned (OpenSpec.upto wireTrailSpec)

/-- 'ciceronelaw17.PoolTimes', WHERE WHAT IT READS IS OF BULK AT MOST 1048576: true; the input reads as it did. -/
def poolTimesUptoRow : OpenClaim := { program := "ytknpkifhkefikaadoor", sum := "75a6e78f3fba7f5b521c8fae2d782d553cc244728a0bf9cdbc6c0b3e9ff3f0bc", func := "cicerone/ciceronelaw17.PoolTimes", spec := "poolTimes", unfollowed := true, recurses := true, named := ["cicerone/header.masks"], apart := false, laid := [("cicerone/header.masks", laid_cicerone_header_masks)], narrowed := true }
def PoolTimesUptoSaid : Prop := poolTimesUptoRow.holds Tryd.pinned (OpenSpec.upto poolTimesSpec)

end Rows
end Go.Proofs.YtknpkifhkefikaaDoor
