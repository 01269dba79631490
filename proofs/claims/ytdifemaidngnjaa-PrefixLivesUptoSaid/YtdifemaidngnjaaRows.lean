/-
  No cell of these rows narrows 'for every input' (looked for: loops, veiled, ifaces, maps, wideKeys, modest, calm, conditions, laid).
  DERIVED. THE GIVEN ROWS OF THIS SEAT. 6 by the template 'for every input the law returns true; each argument reads behind the call as it read before'; 0 by the template 'total and deterministic' (their statements: YtdifemaidngnjaaTotals.lean).
  GIVEN WITH THE SEED: the statements are not yours to turn. If you find one false, say at which input.
  Laid BY PROGRAM, IN A SANDBOX (cutbox-rows.mjs): the forced cells as the released guide's own fill.sh prints them over the translation b2c510a33c34104d… (all of the seat's roots in one cut). By AI agents, Wed Nov 11 2026. No macro, syntax, notation, axiom, sorry.
-/
import Derived.Test.YtdifemaidngnjaaChecked
import GoSem.Claim
import GoSem.ClaimJoined
import GoSem.ClaimMapViews
import Derived.JoinedTies
import Derived.KernelRfl
namespace Go.Proofs.Ytdifemaidngnjaa
/- THE CELL 'sum', in the pinned program and in every row, IS THE sha256 OF THE DUMP (.gsa) THAT YtdifemaidngnjaaProg.lean LOADS. Nothing in Lean hashes anything: it is a label: what it is worth is what the hold of that sum in a sandbox is worth. -/
noncomputable def Try.pinned : Pinned := { name := "ytdifemaidngnjaa", sum := "b2c510a33c34104d44e61e2a1ad061825a61071ef98d77fef05e40277bc985f3", checked := Try.checked }
namespace Rows
def none {H : Type} : Left H := { results := [], args := [] }

/-- 'ciceronelaw11.PrefixLives': WHATEVER THE INPUT: true; the input reads as it did. -/
def prefixLivesSpec : ChangeSpec := { name := "prefixLives", fn := fun _ => fun
  | [d] => { results := [.lit (.bool true)], args := [d] }
  | _ => none }
def prefixLivesRow : OpenClaim := { program := "ytdifemaidngnjaa", sum := "b2c510a33c34104d44e61e2a1ad061825a61071ef98d77fef05e40277bc985f3", func := "cicerone/ciceronelaw11.PrefixLives", spec := "prefixLives", unfollowed := true, recurses := true, apart := false }
def PrefixLivesSaid : Prop := prefixLivesRow.holds Try.pinned (OpenSpec.ofChange prefixLivesSpec)

/-- ITS FALSE NEIGHBOUR: 'it returns false'. Refute it at one input. -/
def prefixLivesWrong : ChangeSpec := { name := "prefixLives", fn := fun _ => fun
  | [d] => { results := [.lit (.bool false)], args := [d] }
  | _ => none }
def PrefixLivesWrongFalsely : Prop := prefixLivesRow.holds Try.pinned (OpenSpec.ofChange prefixLivesWrong)

/-- 'ciceronelaw11.PrefixWrites': WHATEVER THE INPUT: true; the input reads as it did. -/
def prefixWritesSpec : ChangeSpec := { name := "prefixWrites", fn := fun _ => fun
  | [d] => { results := [.lit (.bool true)], args := [d] }
  | _ => none }
def prefixWritesRow : OpenClaim := { program := "ytdifemaidngnjaa", sum := "b2c510a33c34104d44e61e2a1ad061825a61071ef98d77fef05e40277bc985f3", func := "cicerone/ciceronelaw11.PrefixWrites", spec := "prefixWrites", apart := false }
def PrefixWritesSaid : Prop := prefixWritesRow.holds Try.pinned (OpenSpec.ofChange prefixWritesSpec)

/-- ITS FALSE NEIGHBOUR: 'it returns false'. Refute it at one input. -/
def prefixWritesWrong : ChangeSpec := { name := "prefixWrites", fn := fun _ => fun
  | [d] => { results := [.lit (.bool false)], args := [d] }
  | _ => none }
def PrefixWritesWrongFalsely : Prop := prefixWritesRow.holds Try.pinned (OpenSpec.ofChange prefixWritesWrong)

/-- 'ciceronelaw11.PrefixBack': WHATEVER THE INPUT: true; the input reads as it did. -/
def prefixBackSpec : ChangeSpec := { name := "prefixBack", fn := fun _ => fun
  | [d1, d2] => { results := [.lit (.bool true)], args := [d1, d2] }
  | _ => none }
def prefixBackRow : OpenClaim := { program := "ytdifemaidngnjaa", sum := "b2c510a33c34104d44e61e2a1ad061825a61071ef98d77fef05e40277bc985f3", func := "cicerone/ciceronelaw11.PrefixBack", spec := "prefixBack", unfollowed := true, recurses := true, apart := false }
def PrefixBackSaid : Prop := prefixBackRow.holds Try.pinned (OpenSpec.ofChange prefixBackSpec)

/-- ITS FALSE NEIGHBOUR: 'it returns false'. Refute it at one input. -/
def prefixBackWrong : ChangeSpec := { name := "prefixBack", fn := fun _ => fun
  | [d1, d2] => { results := [.lit (.bool false)], args := [d1, d2] }
  | _ => none }
def PrefixBackWrongFalsely : Prop := prefixBackRow.holds Try.pinned (OpenSpec.ofChange prefixBackWrong)

/-- 'ciceronelaw11.PrefixNobody': WHATEVER THE INPUT: true; the input reads as it did. -/
def prefixNobodySpec : ChangeSpec := { name := "prefixNobody", fn := fun _ => fun
  | [d] => { results := [.lit (.bool true)], args := [d] }
  | _ => none }
def prefixNobodyRow : OpenClaim := { program := "ytdifemaidngnjaa", sum := "b2c510a33c34104d44e61e2a1ad061825a61071ef98d77fef05e40277bc985f3", func := "cicerone/ciceronelaw11.PrefixNobody", spec := "prefixNobody", unfollowed := true, recurses := true, apart := false }
def PrefixNobodySaid : Prop := prefixNobodyRow.holds Try.pinned (OpenSpec.ofChange prefixNobodySpec)

/-- ITS FALSE NEIGHBOUR: 'it returns false'. Refute it at one input. -/
def prefixNobodyWrong : ChangeSpec := { name := "prefixNobody", fn := fun _ => fun
  | [d] => { results := [.lit (.bool false)], args := [d] }
  | _ => none }
def PrefixNobodyWrongFalsely : Prop := prefixNobodyRow.holds Try.pinned (OpenSpec.ofChange prefixNobodyWrong)

/-- 'ciceronelaw11.PrefixWaits': WHATEVER THE INPUT: true; the input reads as it did. -/
def prefixWaitsSpec : ChangeSpec := { name := "prefixWaits", fn := fun _ => fun
  | [d1, d2] => { results := [.lit (.bool true)], args := [d1, d2] }
  | _ => none }
def prefixWaitsRow : OpenClaim := { program := "ytdifemaidngnjaa", sum := "b2c510a33c34104d44e61e2a1ad061825a61071ef98d77fef05e40277bc985f3", func := "cicerone/ciceronelaw11.PrefixWaits", spec := "prefixWaits", apart := false }
def PrefixWaitsSaid : Prop := prefixWaitsRow.holds Try.pinned (OpenSpec.ofChange prefixWaitsSpec)

/-- ITS FALSE NEIGHBOUR: 'it returns false'. Refute it at one input. -/
def prefixWaitsWrong : ChangeSpec := { name := "prefixWaits", fn := fun _ => fun
  | [d1, d2] => { results := [.lit (.bool false)], args := [d1, d2] }
  | _ => none }
def PrefixWaitsWrongFalsely : Prop := prefixWaitsRow.holds Try.pinned (OpenSpec.ofChange prefixWaitsWrong)

/-- 'ciceronelaw12.ChunkLives': WHATEVER THE INPUT: true; the input reads as it did. -/
def chunkLivesSpec : ChangeSpec := { name := "chunkLives", fn := fun _ => fun
  | [d1, d2] => { results := [.lit (.bool true)], args := [d1, d2] }
  | _ => none }
def chunkLivesRow : OpenClaim := { program := "ytdifemaidngnjaa", sum := "b2c510a33c34104d44e61e2a1ad061825a61071ef98d77fef05e40277bc985f3", func := "cicerone/ciceronelaw12.ChunkLives", spec := "chunkLives", apart := false }
def ChunkLivesSaid : Prop := chunkLivesRow.holds Try.pinned (OpenSpec.ofChange chunkLivesSpec)

/-- ITS FALSE NEIGHBOUR: 'it returns false'. Refute it at one input. -/
def chunkLivesWrong : ChangeSpec := { name := "chunkLives", fn := fun _ => fun
  | [d1, d2] => { results := [.lit (.bool false)], args := [d1, d2] }
  | _ => none }
def ChunkLivesWrongFalsely : Prop := chunkLivesRow.holds Try.pinned (OpenSpec.ofChange chunkLivesWrong)

/- THE SECOND FORM. 'bulk': how many values and letters a reading holds, each counted each time it is reached (what is shared counts as often as it is met; a slice's spare places count too). A statement '..UptoSaid' is the law's where the arguments, and the package variables that the reading takes, are together of bulk at most 1048576: NARROWER than '..Said'. Prove '..Said' where nothing that the law and all that it calls make is longer than what came in: it says more and counts as full. Else prove '..UptoSaid'. A law counts once. -/
mutual
def uptoBulk {H : Type} : DataW H → Nat
  | .lit (.string bytes) => bytes.length + 1
  | .lit _ => 1
  | .nil => 1
  | .ptr d => uptoBulk d + 1
  | .slice elems spare => uptoBulkAll elems + uptoBulkAll spare + 1
  | .agg parts => uptoBulkAll parts + 1
  | .iface _ d => uptoBulk d + 1
  | .map entries => uptoBulkEntries entries + 1
  | .held _ => 1
def uptoBulkAll {H : Type} : List (DataW H) → Nat
  | [] => 0
  | d :: r => uptoBulk d + uptoBulkAll r
def uptoBulkEntries {H : Type} : List (Lit × DataW H) → Nat
  | [] => 0
  | x :: r => uptoBulkEntry x + uptoBulkEntries r
def uptoBulkEntry {H : Type} : Lit × DataW H → Nat
  | (.string bytes, d) => bytes.length + uptoBulk d + 1
  | (_, d) => uptoBulk d + 1
 end
def uptoSmall : (H : Type) → List (DataW H) → Bool := fun _ ds => decide (uptoBulkAll ds ≤ 1048576)
def OpenSpec.upto (s : _root_.Go.ChangeSpec) : _root_.Go.OpenSpec := { _root_.Go.OpenSpec.ofChange s with cond := some uptoSmall }

/-- 'ciceronelaw11.PrefixLives', WHERE WHAT IT READS IS OF BULK AT MOST 1048576: true; the input reads as it did. -/
def prefixLivesUptoRow : OpenClaim := { program := "ytdifemaidngnjaa", sum := "b2c510a33c34104d44e61e2a1ad061825a61071ef98d77fef05e40277bc985f3", func := "cicerone/ciceronelaw11.PrefixLives", spec := "prefixLives", unfollowed := true, recurses := true, apart := false, narrowed := true }
def PrefixLivesUptoSaid : Prop := prefixLivesUptoRow.holds Try.pinned (OpenSpec.upto prefixLivesSpec)

/-- 'ciceronelaw11.PrefixWrites', WHERE WHAT IT READS IS OF BULK AT MOST 1048576: true; the input reads as it did. -/
def prefixWritesUptoRow : OpenClaim := { program := "ytdifemaidngnjaa", sum := "b2c510a33c34104d44e61e2a1ad061825a61071ef98d77fef05e40277bc985f3", func := "cicerone/ciceronelaw11.PrefixWrites", spec := "prefixWrites", apart := false, narrowed := true }
def PrefixWritesUptoSaid : Prop := prefixWritesUptoRow.holds Try.pinned (OpenSpec.upto prefixWritesSpec)

/-- 'ciceronelaw11.PrefixBack', WHERE WHAT IT READS IS OF BULK AT MOST 1048576: true; the input reads as it did. -/
def prefixBackUptoRow : OpenClaim := { program := "ytdifemaidngnjaa", sum := "b2c510a33c34104d44e61e2a1ad061825a61071ef98d77fef05e40277bc985f3", func := "cicerone/ciceronelaw11.PrefixBack", spec := "prefixBack", unfollowed := true, recurses := true, apart := false, narrowed := true }
def PrefixBackUptoSaid : Prop := prefixBackUptoRow.holds Try.pinned (OpenSpec.upto prefixBackSpec)

/-- 'ciceronelaw11.PrefixNobody', WHERE WHAT IT READS IS OF BULK AT MOST 1048576: true; the input reads as it did. -/
def prefixNobodyUptoRow : OpenClaim := { program := "ytdifemaidngnjaa", sum := "b2c510a33c34104d44e61e2a1ad061825a61071ef98d77fef05e40277bc985f3", func := "cicerone/ciceronelaw11.PrefixNobody", spec := "prefixNobody", unfollowed := true, recurses := true, apart := false, narrowed := true }
def PrefixNobodyUptoSaid : Prop := prefixNobodyUptoRow.holds Try.pinned (OpenSpec.upto prefixNobodySpec)

/-- 'ciceronelaw11.PrefixWaits', WHERE WHAT IT READS IS OF BULK AT MOST 1048576: true; the input reads as it did. -/
def prefixWaitsUptoRow : OpenClaim := { program := "ytdifemaidngnjaa", sum := "b2c510a33c34104d44e61e2a1ad061825a61071ef98d77fef05e40277bc985f3", func := "cicerone/ciceronelaw11.PrefixWaits", spec := "prefixWaits", apart := false, narrowed := true }
def PrefixWaitsUptoSaid : Prop := prefixWaitsUptoRow.holds Try.pinned (OpenSpec.upto prefixWaitsSpec)

/-- 'ciceronelaw12.ChunkLives', WHERE WHAT IT READS IS OF BULK AT MOST 1048576: true; the input reads as it did. -/
def chunkLivesUptoRow : OpenClaim := { program := "ytdifemaidngnjaa", sum := "b2c510a33c34104d44e61e2a1ad061825a61071ef98d77fef05e40277bc985f3", func := "cicerone/ciceronelaw12.ChunkLives", spec := "chunkLives", apart := false, narrowed := true }
def ChunkLivesUptoSaid : Prop := chunkLivesUptoRow.holds Try.pinned (OpenSpec.upto chunkLivesSpec)

end Rows
end Go.Proofs.Ytdifemaidngnjaa
