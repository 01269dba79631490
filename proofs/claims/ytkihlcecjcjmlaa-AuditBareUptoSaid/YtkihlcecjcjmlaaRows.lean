/-
  No cell of these rows narrows 'for every input' (looked for: loops, veiled, ifaces, maps, wideKeys, modest, calm, conditions, laid).
  DERIVED. THE GIVEN ROWS OF THIS SEAT. 3 by the template 'for every input the law returns true; each argument reads behind the call as it read before'; 0 by the template 'total and deterministic' (their statements: YtkihlcecjcjmlaaTotals.lean).
  GIVEN WITH THE SEED: the statements are not yours to turn. If you find one false, say at which input.
  Laid BY PROGRAM, IN A SANDBOX (cutbox-rows.mjs): the forced cells as the released guide's own fill.sh prints them over the translation 72009c0b4fd81b6a… (all of the seat's roots in one cut). By AI agents, Wed Nov 11 2026. No macro, syntax, notation, axiom, sorry.
-/
import Derived.Test.YtkihlcecjcjmlaaChecked
import GoSem.Claim
import GoSem.ClaimJoined
import GoSem.ClaimMapViews
import Derived.JoinedTies
import Derived.KernelRfl
namespace Go.Proofs.Ytkihlcecjcjmlaa
/- THE CELL 'sum', in the pinned program and in every row, IS THE sha256 OF THE DUMP (.gsa) THAT YtkihlcecjcjmlaaProg.lean LOADS. Nothing in Lean hashes anything: it is a label: what it is worth is what the hold of that sum in a sandbox is worth. -/
noncomputable def Try.pinned : Pinned := { name := "ytkihlcecjcjmlaa", sum := "72009c0b4fd81b6a51294ed2386c6ec74fb74152d9102d54a24065716a6068bc", checked := Try.checked }
namespace Rows
def none {H : Type} : Left H := { results := [], args := [] }

/-- 'ciceronelaw24.AuditPairs': WHATEVER THE INPUT: true; the input reads as it did. -/
def auditPairsSpec : ChangeSpec := { name := "auditPairs", fn := fun _ => fun
  | [d] => { results := [.lit (.bool true)], args := [d] }
  | _ => none }
def auditPairsRow : OpenClaim := { program := "ytkihlcecjcjmlaa", sum := "72009c0b4fd81b6a51294ed2386c6ec74fb74152d9102d54a24065716a6068bc", func := "cicerone/ciceronelaw24.AuditPairs", spec := "auditPairs", plainKeys := false, apart := false }
def AuditPairsSaid : Prop := auditPairsRow.holds Try.pinned (OpenSpec.ofChange auditPairsSpec)

/-- ITS FALSE NEIGHBOUR: 'it returns false'. Refute it at one input. -/
def auditPairsWrong : ChangeSpec := { name := "auditPairs", fn := fun _ => fun
  | [d] => { results := [.lit (.bool false)], args := [d] }
  | _ => none }
def AuditPairsWrongFalsely : Prop := auditPairsRow.holds Try.pinned (OpenSpec.ofChange auditPairsWrong)

/-- 'ciceronelaw24.AuditBare': WHATEVER THE INPUT: true; the input reads as it did. -/
def auditBareSpec : ChangeSpec := { name := "auditBare", fn := fun _ => fun
  | [d1, d2] => { results := [.lit (.bool true)], args := [d1, d2] }
  | _ => none }
def auditBareRow : OpenClaim := { program := "ytkihlcecjcjmlaa", sum := "72009c0b4fd81b6a51294ed2386c6ec74fb74152d9102d54a24065716a6068bc", func := "cicerone/ciceronelaw24.AuditBare", spec := "auditBare", unfollowed := true, recurses := true, plainKeys := false, apart := false }
def AuditBareSaid : Prop := auditBareRow.holds Try.pinned (OpenSpec.ofChange auditBareSpec)

/-- ITS FALSE NEIGHBOUR: 'it returns false'. Refute it at one input. -/
def auditBareWrong : ChangeSpec := { name := "auditBare", fn := fun _ => fun
  | [d1, d2] => { results := [.lit (.bool false)], args := [d1, d2] }
  | _ => none }
def AuditBareWrongFalsely : Prop := auditBareRow.holds Try.pinned (OpenSpec.ofChange auditBareWrong)

/-- 'ciceronelaw24.AuditOnce': WHATEVER THE INPUT: true; the input reads as it did. -/
def auditOnceSpec : ChangeSpec := { name := "auditOnce", fn := fun _ => fun
  | [d1, d2] => { results := [.lit (.bool true)], args := [d1, d2] }
  | _ => none }
def auditOnceRow : OpenClaim := { program := "ytkihlcecjcjmlaa", sum := "72009c0b4fd81b6a51294ed2386c6ec74fb74152d9102d54a24065716a6068bc", func := "cicerone/ciceronelaw24.AuditOnce", spec := "auditOnce", plainKeys := false, apart := false }
def AuditOnceSaid : Prop := auditOnceRow.holds Try.pinned (OpenSpec.ofChange auditOnceSpec)

/-- ITS FALSE NEIGHBOUR: 'it returns false'. Refute it at one input. -/
def auditOnceWrong : ChangeSpec := { name := "auditOnce", fn := fun _ => fun
  | [d1, d2] => { results := [.lit (.bool false)], args := [d1, d2] }
  | _ => none }
def AuditOnceWrongFalsely : Prop := auditOnceRow.holds Try.pinned (OpenSpec.ofChange auditOnceWrong)

/- THE SECOND FORM. 'bulk': how many values and letters a reading holds, each counted each time it is reached (what is shared counts as often as it is met; a slice's spare places count too). A statement '..UptoSaid' is the law's where the arguments, and the package variables that the reading takes, are together of bulk at most 1048576: NARROWER than '..Said'. Prove '..Said' where nothing that the law and all that it calls make is longer than what came in: it says more and counts as full. Else prove '..UptoSaid'. A law counts once. -/
mutual
def uptoBulk {H : Type} : DataW H → Nat
  | .lit (.string bytes) => bytes.length + 1
  | .lit _ => 1
  | .nil => 1
  | .ptr d => uptoBulk d + 1
  | .slice elems spare => uptoBulkAll elems + uptoBulkAll spare + 1
  | .agg parts => uptoBulkAll parts + 1
  | .iface _ d => uptoBulk d + 1
  | .map entries => uptoBulkEntries entries + 1
  | .held _ => 1
def uptoBulkAll {H : Type} : List (DataW H) → Nat
  | [] => 0
  | d :: r => uptoBulk d + uptoBulkAll r
def uptoBulkEntries {H : Type} : List (Lit × DataW H) → Nat
  | [] => 0
  | x :: r => uptoBulkEntry x + uptoBulkEntries r
def uptoBulkEntry {H : Type} : Lit × DataW H → Nat
  | (.string bytes, d) => bytes.length + uptoBulk d + 1
  | (_, d) => uptoBulk d + 1
 end
def uptoSmall : (H : Type) → List (DataW H) → Bool := fun _ ds => decide (uptoBulkAll ds ≤ 1048576)
def OpenSpec.upto (s : _root_.Go.ChangeSpec) : _root_.Go.OpenSpec := { _root_.Go.OpenSpec.ofChange s with cond := some uptoSmall }

/-- 'ciceronelaw24.AuditPairs', WHERE WHAT IT READS IS OF BULK AT MOST 1048576: true; the input reads as it did. -/
def auditPairsUptoRow : OpenClaim := { program := "ytkihlcecjcjmlaa", sum := "72009c0b4fd81b6a51294ed2386c6ec74fb74152d9102d54a24065716a6068bc", func := "cicerone/ciceronelaw24.AuditPairs", spec := "auditPairs", plainKeys := false, apart := false, narrowed := true }
def AuditPairsUptoSaid : Prop := auditPairsUptoRow.holds Try.pinned (OpenSpec.upto auditPairsSpec)

/-- 'ciceronelaw24.AuditBare', WHERE WHAT IT READS IS OF BULK AT MOST 1048576: true; the input reads as it did. -/
def auditBareUptoRow : OpenClaim := { program := "ytkihlcecjcjmlaa", sum := "72009c0b4fd81b6a51294ed2386c6ec74fb74152d9102d54a24065716a6068bc", func := "cicerone/ciceronelaw24.AuditBare", spec := "auditBare", unfollowed := true, recurses := true, plainKeys := false, apart := false, narrowed := true }
def AuditBareUptoSaid : Prop := auditBareUptoRow.holds Try.pinned (OpenSpec.upto auditBareSpec)

/-- 'ciceronelaw24.AuditOnce', WHERE WHAT IT READS IS OF BULK AT MOST 1048576: true; the input reads as it did. -/
def auditOnceUptoRow : OpenClaim := { program := "ytkihlcecjcjmlaa", sum := "72009c0b4fd81b6a51294ed2386c6ec74fb74152d9102d54a24065716a6068bc", func := "cicerone/ciceronelaw24.AuditOnce", spec := "auditOnce", plainKeys := false, apart := false, narrowed := true }
def AuditOnceUptoSaid : Prop := auditOnceUptoRow.holds Try.pinned (OpenSpec.upto auditOnceSpec)

end Rows
end Go.Proofs.Ytkihlcecjcjmlaa
