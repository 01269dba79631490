/-
  NARROWER THAN 'FOR EVERY INPUT', by the rows' own cells (each row's printed sentence says how): HeaderWrites: laid · HeaderReads: laid · HeaderBack: laid · HeaderOnce: laid.
  DERIVED. THE GIVEN ROWS OF THIS SEAT. 4 by the template 'for every input the law returns true; each argument reads behind the call as it read before'; 0 by the template 'total and deterministic' (their statements: YtigpkcpdccgnfaaDoorTotals.lean).
  GIVEN WITH THE SEED: the statements are not yours to turn. If you find one false, say at which input.
  Laid BY PROGRAM, IN A SANDBOX (cutbox-rows.mjs): the forced cells as the released guide's own fill.sh prints them over the translation 6fc31268283b347b… (all of the seat's roots in one cut). By AI agents, Wed Nov 11 2026. No macro, syntax, notation, axiom, sorry.
-/
import Derived.Test.YtigpkcpdccgnfaaDoorChecked
import GoSem.Claim
import GoSem.ClaimJoined
import GoSem.ClaimMapViews
import Derived.JoinedTies
import Derived.KernelRfl
namespace Go.Proofs.YtigpkcpdccgnfaaDoor
/- THE CELL 'sum', in the pinned program and in every row, IS THE sha256 OF THE DUMP (.gsa) THAT YtigpkcpdccgnfaaDoorProg.lean LOADS. Nothing in Lean hashes anything: it is a label: what it is worth is what the hold of that sum in a sandbox is worth. -/
noncomputable def Tryd.pinned : Pinned := { name := "ytigpkcpdccgnfaadoor", sum := "6fc31268283b347bc8eb4250437515155f172a55e28c0791dedccaf5fd28a13d", checked := Tryd.checked }
namespace Rows
def none {H : Type} : Left H := { results := [], args := [] }

/- WHAT THE LISTED PACKAGE-LEVEL VARIABLES READ AS WHEN THE CALL BEGINS. Each datum BY PROGRAM (the guide's laid-datum.mjs) off the statement by which the dump's own 'gosem.cut.vars' lays the variable. In a bare row this is a premise. The card (YtigpkcpdccgnfaaDoorCards.lean) ties it to the program's text. -/
def laid_cicerone_header_masks {H : Type} : DataW H := .agg [.lit (.int .i64 32768), .lit (.int .i64 1024), .lit (.int .i64 512), .lit (.int .i64 256), .lit (.int .i64 128)]

/-- 'ciceronelaw02.HeaderWrites': WHATEVER THE INPUT: true; the input reads as it did. -/
def headerWritesSpec : ChangeSpec := { name := "headerWrites", fn := fun _ => fun
  | [d1, d2] => { results := [.lit (.bool true)], args := [d1, d2] }
  | _ => none }
def headerWritesRow : OpenClaim := { program := "ytigpkcpdccgnfaadoor", sum := "6fc31268283b347bc8eb4250437515155f172a55e28c0791dedccaf5fd28a13d", func := "cicerone/ciceronelaw02.HeaderWrites", spec := "headerWrites", named := ["cicerone/header.masks"], apart := false, laid := [("cicerone/header.masks", laid_cicerone_header_masks)] }
def HeaderWritesSaid : Prop := headerWritesRow.holds Tryd.pinned (OpenSpec.ofChange headerWritesSpec)

/-- ITS FALSE NEIGHBOUR: 'it returns false'. Refute it at one input. -/
def headerWritesWrong : ChangeSpec := { name := "headerWrites", fn := fun _ => fun
  | [d1, d2] => { results := [.lit (.bool false)], args := [d1, d2] }
  | _ => none }
def HeaderWritesWrongFalsely : Prop := headerWritesRow.holds Tryd.pinned (OpenSpec.ofChange headerWritesWrong)

/-- 'ciceronelaw02.HeaderReads': WHATEVER THE INPUT: true; the input reads as it did. -/
def headerReadsSpec : ChangeSpec := { name := "headerReads", fn := fun _ => fun
  | [d] => { results := [.lit (.bool true)], args := [d] }
  | _ => none }
def headerReadsRow : OpenClaim := { program := "ytigpkcpdccgnfaadoor", sum := "6fc31268283b347bc8eb4250437515155f172a55e28c0791dedccaf5fd28a13d", func := "cicerone/ciceronelaw02.HeaderReads", spec := "headerReads", named := ["cicerone/header.masks"], apart := false, laid := [("cicerone/header.masks", laid_cicerone_header_masks)] }
def HeaderReadsSaid : Prop := headerReadsRow.holds Tryd.pinned (OpenSpec.ofChange headerReadsSpec)

/-- ITS FALSE NEIGHBOUR: 'it returns false'. Refute it at one input. -/
def headerReadsWrong : ChangeSpec := { name := "headerReads", fn := fun _ => fun
  | [d] => { results := [.lit (.bool false)], args := [d] }
  | _ => none }
def HeaderReadsWrongFalsely : Prop := headerReadsRow.holds Tryd.pinned (OpenSpec.ofChange headerReadsWrong)

/-- 'ciceronelaw02.HeaderBack': WHATEVER THE INPUT: true; the input reads as it did. -/
def headerBackSpec : ChangeSpec := { name := "headerBack", fn := fun _ => fun
  | [d1, d2, d3] => { results := [.lit (.bool true)], args := [d1, d2, d3] }
  | _ => none }
def headerBackRow : OpenClaim := { program := "ytigpkcpdccgnfaadoor", sum := "6fc31268283b347bc8eb4250437515155f172a55e28c0791dedccaf5fd28a13d", func := "cicerone/ciceronelaw02.HeaderBack", spec := "headerBack", named := ["cicerone/header.masks"], apart := false, laid := [("cicerone/header.masks", laid_cicerone_header_masks)] }
def HeaderBackSaid : Prop := headerBackRow.holds Tryd.pinned (OpenSpec.ofChange headerBackSpec)

/-- ITS FALSE NEIGHBOUR: 'it returns false'. Refute it at one input. -/
def headerBackWrong : ChangeSpec := { name := "headerBack", fn := fun _ => fun
  | [d1, d2, d3] => { results := [.lit (.bool false)], args := [d1, d2, d3] }
  | _ => none }
def HeaderBackWrongFalsely : Prop := headerBackRow.holds Tryd.pinned (OpenSpec.ofChange headerBackWrong)

/-- 'ciceronelaw02.HeaderOnce': WHATEVER THE INPUT: true; the input reads as it did. -/
def headerOnceSpec : ChangeSpec := { name := "headerOnce", fn := fun _ => fun
  | [d] => { results := [.lit (.bool true)], args := [d] }
  | _ => none }
def headerOnceRow : OpenClaim := { program := "ytigpkcpdccgnfaadoor", sum := "6fc31268283b347bc8eb4250437515155f172a55e28c0791dedccaf5fd28a13d", func := "cicerone/ciceronelaw02.HeaderOnce", spec := "headerOnce", named := ["cicerone/header.masks"], apart := false, laid := [("cicerone/header.masks", laid_cicerone_header_masks)] }
def HeaderOnceSaid : Prop := headerOnceRow.holds Tryd.pinned (OpenSpec.ofChange headerOnceSpec)

/-- ITS FALSE NEIGHBOUR: 'it returns false'. Refute it at one input. -/
def headerOnceWrong : ChangeSpec := { name := "headerOnce", fn := fun _ => fun
  | [d] => { results := [.lit (.bool false)], args := [d] }
  | _ => none }
def HeaderOnceWrongFalsely : Prop := headerOnceRow.holds Tryd.pinned (OpenSpec.ofChange headerOnceWrong)

/- THE SECOND FORM. 'bulk': how many values and letters a reading holds, each counted each time it is reached (what is shared counts as often as it is met; a slice's spare places count too). A statement '..UptoSaid' is the law's where the arguments, and the package variables that the reading takes, are together of bulk at most 1048576: NARROWER than '..Said'. Prove '..Said' where nothing that the law and all that it calls make is longer than what came in: it says more and counts as full. Else prove '..UptoSaid'. A law counts once. -/
mutual
def uptoBulk {H : Type} : DataW H → Nat
  | .lit (.string bytes) => bytes.length + 1
  | .lit _ => 1
  | .nil => 1
  | .ptr d => uptoBulk d + 1
  | .slice elems spare => uptoBulkAll elems + uptoBulkAll spare + 1
  | .agg parts => uptoBulkAll parts + 1
  | .iface _ d => uptoBulk d + 1
  | .map entries => uptoBulkEntries entries + 1
  | .held _ => 1
def uptoBulkAll {H : Type} : List (DataW H) → Nat
  | [] => 0
  | d :: r => uptoBulk d + uptoBulkAll r
def uptoBulkEntries {H : Type} : List (Lit × DataW H) → Nat
  | [] => 0
  | x :: r => uptoBulkEntry x + uptoBulkEntries r
def uptoBulkEntry {H : Type} : Lit × DataW H → Nat
  | (.string bytes, d) => bytes.length + uptoBulk d + 1
  | (_, d) => uptoBulk d + 1
 end
def uptoSmall : (H : Type) → List (DataW H) → Bool := fun _ ds => decide (uptoBulkAll ds ≤ 1048576)
def OpenSpec.upto (s : _root_.Go.ChangeSpec) : _root_.Go.OpenSpec := { _root_.Go.OpenSpec.ofChange s with cond := some uptoSmall }

/-- 'ciceronelaw02.HeaderWrites', WHERE WHAT IT READS IS OF BULK AT MOST 1048576: true; the input reads as it did. -/
def headerWritesUptoRow : OpenClaim := { program := "ytigpkcpdccgnfaadoor", sum := "6fc31268283b347bc8eb4250437515155f172a55e28c0791dedccaf5fd28a13d", func := "cicerone/ciceronelaw02.HeaderWrites", spec := "headerWrites", named := ["cicerone/header.masks"], apart := false, laid := [("cicerone/header.masks", laid_cicerone_header_masks)], narrowed := true }
def HeaderWritesUptoSaid : Prop := headerWritesUptoRow.holds Tryd.pinned (OpenSpec.upto headerWritesSpec)

/-- 'ciceronelaw02.HeaderReads', WHERE WHAT IT READS IS OF BULK AT MOST 1048576: true; the input reads as it did. -/
def headerReadsUptoRow : OpenClaim := { program := "ytigpkcpdccgnfaadoor", sum := "6fc31268283b347bc8eb4250437515155f172a55e28c0791dedccaf5fd28a13d", func := "cicerone/ciceronelaw02.HeaderReads", spec := "headerReads", named := ["cicerone/header.masks"], apart := false, laid := [("cicerone/header.masks", laid_cicerone_header_masks)], narrowed := true }
def HeaderReadsUptoSaid : Prop := headerReadsUptoRow.holds Tryd.pinned (OpenSpec.upto headerReadsSpec)

/-- 'ciceronelaw02.HeaderBack', WHERE WHAT IT READS IS OF BULK AT MOST 1048576: true; the input reads as it did. -/
def headerBackUptoRow : OpenClaim := { program := "ytigpkcpdccgnfaadoor", sum := "6fc31268283b347bc8eb4250437515155f172a55e28c0791dedccaf5fd28a13d", func := "cicerone/ciceronelaw02.HeaderBack", spec := "headerBack", named := ["cicerone/header.masks"], apart := false, laid := [("cicerone/header.masks", laid_cicerone_header_masks)], narrowed := true }
def HeaderBackUptoSaid : Prop := headerBackUptoRow.holds Tryd.pinned (OpenSpec.upto headerBackSpec)

/-- 'ciceronelaw02.HeaderOnce', WHERE WHAT IT READS IS OF BULK AT MOST 1048576: true; the input reads as it did. -/
def headerOnceUptoRow : OpenClaim := { program := "ytigpkcpdccgnfaadoor", sum := "6fc31268283b347bc8eb4250437515155f172a55e28c0791dedccaf5fd28a13d", func := "cicerone/ciceronelaw02.HeaderOnce", spec := "headerOnce", named := ["cicerone/header.masks"], apart := false, laid := [("cicerone/header.masks", laid_cicerone_header_masks)], narrowed := true }
def HeaderOnceUptoSaid : Prop := headerOnceUptoRow.holds Tryd.pinned (OpenSpec.upto headerOnceSpec)

end Rows
end Go.Proofs.YtigpkcpdccgnfaaDoor
