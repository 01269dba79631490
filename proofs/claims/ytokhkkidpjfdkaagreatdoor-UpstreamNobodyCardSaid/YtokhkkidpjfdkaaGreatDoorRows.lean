/-
  NARROWER THAN 'FOR EVERY INPUT', by the rows' own cells (each row's printed sentence says how): UpstreamNobody: laid.
  DERIVED. THE GIVEN ROWS OF THIS SEAT. 1 by the template 'for every input the law returns true; each argument reads behind the call as it read before'; 0 by the template 'total and deterministic' (their statements: YtokhkkidpjfdkaaGreatDoorTotals.lean).
  GIVEN WITH THE SEED: the statements are not yours to turn. If you find one false, say at which input.
  Laid BY PROGRAM, IN A SANDBOX (cutbox-rows.mjs): the forced cells as the released guide's own fill.sh prints them over the translation 3a4f813c9e57b0da… (all of the seat's roots in one cut). By AI agents, Wed Nov 11 2026. No macro, syntax, notation, axiom, sorry.
-/
import Derived.Test.YtokhkkidpjfdkaaGreatDoorChecked
import GoSem.Claim
import GoSem.ClaimJoined
import GoSem.ClaimMapViews
import Derived.JoinedTies
import Derived.KernelRfl
namespace Go.Proofs.YtokhkkidpjfdkaaGreatDoor
/- THE CELL 'sum', in the pinned program and in every row, IS THE sha256 OF THE DUMP (.gsa) THAT YtokhkkidpjfdkaaGreatDoorProg.lean LOADS. Nothing in Lean hashes anything: it is a label: what it is worth is what the hold of that sum in a sandbox is worth. -/
noncomputable def Tryz.pinned : Pinned := { name := "ytokhkkidpjfdkaagreatdoor", sum := "3a4f813c9e57b0dae027615d7f717afc41b759727dcb800faab3664640d2a139", checked := Tryz.checked }
namespace Rows
def none {H : Type} : Left H := { results := [], args := [] }

/- WHAT THE LISTED PACKAGE-LEVEL VARIABLES READ AS WHEN THE CALL BEGINS. Each datum BY PROGRAM (the guide's laid-datum.mjs) off the statement by which the dump's own 'gosem.cut.vars' lays the variable. In a bare row this is a premise. The card (YtokhkkidpjfdkaaGreatDoorCards.lean) ties it to the program's text. -/
def laid_cicerone_header_masks {H : Type} : DataW H := .agg [.lit (.int .i64 32768), .lit (.int .i64 1024), .lit (.int .i64 512), .lit (.int .i64 256), .lit (.int .i64 128)]

/-- 'ciceronelaw22.UpstreamNobody': WHATEVER THE INPUT: true; the input reads as it did. -/
def upstreamNobodySpec : ChangeSpec := { name := "upstreamNobody", fn := fun _ => fun
  | [d] => { results := [.lit (.bool true)], args := [d] }
  | _ => none }
def upstreamNobodyRow : OpenClaim := { program := "ytokhkkidpjfdkaagreatdoor", sum := "3a4f813c9e57b0dae027615d7f717afc41b759727dcb800faab3664640d2a139", func := "cicerone/ciceronelaw22.UpstreamNobody", spec := "upstreamNobody", unfollowed := true, recurses := true, named := ["cicerone/header.masks"], plainKeys := false, apart := false, laid := [("cicerone/header.masks", laid_cicerone_header_masks)] }
def UpstreamNobodySaid : Prop := upstreamNobodyRow.holds Tryz.pinned (OpenSpec.ofChange upstreamNobodySpec)

/-- ITS FALSE NEIGHBOUR: 'it returns false'. Refute it at one input. -/
def upstreamNobodyWrong : ChangeSpec := { name := "upstreamNobody", fn := fun _ => fun
  | [d] => { results := [.lit (.bool false)], args := [d] }
  | _ => none }
def UpstreamNobodyWrongFalsely : Prop := upstreamNobodyRow.holds Tryz.pinned (OpenSpec.ofChange upstreamNobodyWrong)

/- THE SECOND FORM. 'bulk': how many values and letters a reading holds, each counted each time it is reached (what is shared counts as often as it is met; a slice's spare places count too). A statement '..UptoSaid' is the law's where the arguments, and the package variables that the reading takes, are together of bulk at most 1048576: NARROWER than '..Said'. Prove '..Said' where nothing that the law and all that it calls make is longer than what came in: it says more and counts as full. Else prove '..UptoSaid'. A law counts once. -/
mutual
def uptoBulk {H : Type} : DataW H → Nat
  | .lit (.string bytes) => bytes.length + 1
  | .lit _ => 1
  | .nil => 1
  | .ptr d => uptoBulk d + 1
  | .slice elems spare => uptoBulkAll elems + uptoBulkAll spare + 1
  | .agg parts => uptoBulkAll parts + 1
  | .iface _ d => uptoBulk d + 1
  | .map entries => uptoBulkEntries entries + 1
  | .held _ => 1
def uptoBulkAll {H : Type} : List (DataW H) → Nat
  | [] => 0
  | d :: r => uptoBulk d + uptoBulkAll r
def uptoBulkEntries {H : Type} : List (Lit × DataW H) → Nat
  | [] => 0
  | x :: r => uptoBulkEntry x + uptoBulkEntries r
def uptoBulkEntry {H : Type} : Lit × DataW H → Nat
  | (.string bytes, d) => bytes.length + uptoBulk d + 1
  | (_, d) => uptoBulk d + 1
 end
def uptoSmall : (H : Type) → List (DataW H) → Bool := fun _ ds => decide (uptoBulkAll ds ≤ 1048576)
def OpenSpec.upto (s : _root_.Go.ChangeSpec) : _root_.Go.OpenSpec := { _root_.Go.OpenSpec.ofChange s with cond := some uptoSmall }

/-- 'ciceronelaw22.UpstreamNobody', WHERE WHAT IT READS IS OF BULK AT MOST 1048576: true; the input reads as it did. -/
def upstreamNobodyUptoRow : OpenClaim := { program := "ytokhkkidpjfdkaagreatdoor", sum := "3a4f813c9e57b0dae027615d7f717afc41b759727dcb800faab3664640d2a139", func := "cicerone/ciceronelaw22.UpstreamNobody", spec := "upstreamNobody", unfollowed := true, recurses := true, named := ["cicerone/header.masks"], plainKeys := false, apart := false, laid := [("cicerone/header.masks", laid_cicerone_header_masks)], narrowed := true }
def UpstreamNobodyUptoSaid : Prop := upstreamNobodyUptoRow.holds Tryz.pinned (OpenSpec.upto upstreamNobodySpec)

end Rows
end Go.Proofs.YtokhkkidpjfdkaaGreatDoor
