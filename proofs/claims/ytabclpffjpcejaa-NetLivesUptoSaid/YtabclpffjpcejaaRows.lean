/-
  No cell of these rows narrows 'for every input' (looked for: loops, veiled, ifaces, maps, wideKeys, modest, calm, conditions, laid).
  DERIVED. THE GIVEN ROWS OF THIS SEAT. 9 by the template 'for every input the law returns true; each argument reads behind the call as it read before'; 0 by the template 'total and deterministic' (their statements: YtabclpffjpcejaaTotals.lean).
  GIVEN WITH THE SEED: the statements are not yours to turn. If you find one false, say at which input.
  Laid BY PROGRAM, IN A SANDBOX (cutbox-rows.mjs): the forced cells as the released guide's own fill.sh prints them over the translation c0ddec92023a9402… (all of the seat's roots in one cut). By AI agents, Wed Nov 11 2026. No macro, syntax, notation, axiom, sorry.
-/
import Derived.Test.YtabclpffjpcejaaChecked
import GoSem.Claim
import GoSem.ClaimJoined
import GoSem.ClaimMapViews
import Derived.JoinedTies
import Derived.KernelRfl
namespace Go.Proofs.Ytabclpffjpcejaa
/- THE CELL 'sum', in the pinned program and in every row, IS THE sha256 OF THE DUMP (.gsa) THAT YtabclpffjpcejaaProg.lean LOADS. Nothing in Lean hashes anything: it is a label: what it is worth is what the hold of that sum in a sandbox is worth. -/
noncomputable def Try.pinned : Pinned := { name := "ytabclpffjpcejaa", sum := "c0ddec92023a940214133cd2a05193da2c3f40007c2c62530c9aab6ecc525920", checked := Try.checked }
namespace Rows
def none {H : Type} : Left H := { results := [], args := [] }

/-- 'ciceronelaw15.NetLives': WHATEVER THE INPUT: true; the input reads as it did. -/
def netLivesSpec : ChangeSpec := { name := "netLives", fn := fun _ => fun
  | [d] => { results := [.lit (.bool true)], args := [d] }
  | _ => none }
def netLivesRow : OpenClaim := { program := "ytabclpffjpcejaa", sum := "c0ddec92023a940214133cd2a05193da2c3f40007c2c62530c9aab6ecc525920", func := "cicerone/ciceronelaw15.NetLives", spec := "netLives", unfollowed := true, recurses := true, apart := false }
def NetLivesSaid : Prop := netLivesRow.holds Try.pinned (OpenSpec.ofChange netLivesSpec)

/-- ITS FALSE NEIGHBOUR: 'it returns false'. Refute it at one input. -/
def netLivesWrong : ChangeSpec := { name := "netLives", fn := fun _ => fun
  | [d] => { results := [.lit (.bool false)], args := [d] }
  | _ => none }
def NetLivesWrongFalsely : Prop := netLivesRow.holds Try.pinned (OpenSpec.ofChange netLivesWrong)

/-- 'ciceronelaw15.NetCarries': WHATEVER THE INPUT: true; the input reads as it did. -/
def netCarriesSpec : ChangeSpec := { name := "netCarries", fn := fun _ => fun
  | [d1, d2, d3] => { results := [.lit (.bool true)], args := [d1, d2, d3] }
  | _ => none }
def netCarriesRow : OpenClaim := { program := "ytabclpffjpcejaa", sum := "c0ddec92023a940214133cd2a05193da2c3f40007c2c62530c9aab6ecc525920", func := "cicerone/ciceronelaw15.NetCarries", spec := "netCarries", apart := false }
def NetCarriesSaid : Prop := netCarriesRow.holds Try.pinned (OpenSpec.ofChange netCarriesSpec)

/-- ITS FALSE NEIGHBOUR: 'it returns false'. Refute it at one input. -/
def netCarriesWrong : ChangeSpec := { name := "netCarries", fn := fun _ => fun
  | [d1, d2, d3] => { results := [.lit (.bool false)], args := [d1, d2, d3] }
  | _ => none }
def NetCarriesWrongFalsely : Prop := netCarriesRow.holds Try.pinned (OpenSpec.ofChange netCarriesWrong)

/-- 'ciceronelaw15.NetNobody': WHATEVER THE INPUT: true; the input reads as it did. -/
def netNobodySpec : ChangeSpec := { name := "netNobody", fn := fun _ => fun
  | [d] => { results := [.lit (.bool true)], args := [d] }
  | _ => none }
def netNobodyRow : OpenClaim := { program := "ytabclpffjpcejaa", sum := "c0ddec92023a940214133cd2a05193da2c3f40007c2c62530c9aab6ecc525920", func := "cicerone/ciceronelaw15.NetNobody", spec := "netNobody", unfollowed := true, recurses := true, apart := false }
def NetNobodySaid : Prop := netNobodyRow.holds Try.pinned (OpenSpec.ofChange netNobodySpec)

/-- ITS FALSE NEIGHBOUR: 'it returns false'. Refute it at one input. -/
def netNobodyWrong : ChangeSpec := { name := "netNobody", fn := fun _ => fun
  | [d] => { results := [.lit (.bool false)], args := [d] }
  | _ => none }
def NetNobodyWrongFalsely : Prop := netNobodyRow.holds Try.pinned (OpenSpec.ofChange netNobodyWrong)

/-- 'ciceronelaw15.NetNumbers': WHATEVER THE INPUT: true; the input reads as it did. -/
def netNumbersSpec : ChangeSpec := { name := "netNumbers", fn := fun _ => fun
  | [d1, d2] => { results := [.lit (.bool true)], args := [d1, d2] }
  | _ => none }
def netNumbersRow : OpenClaim := { program := "ytabclpffjpcejaa", sum := "c0ddec92023a940214133cd2a05193da2c3f40007c2c62530c9aab6ecc525920", func := "cicerone/ciceronelaw15.NetNumbers", spec := "netNumbers", unfollowed := true, recurses := true, apart := false }
def NetNumbersSaid : Prop := netNumbersRow.holds Try.pinned (OpenSpec.ofChange netNumbersSpec)

/-- ITS FALSE NEIGHBOUR: 'it returns false'. Refute it at one input. -/
def netNumbersWrong : ChangeSpec := { name := "netNumbers", fn := fun _ => fun
  | [d1, d2] => { results := [.lit (.bool false)], args := [d1, d2] }
  | _ => none }
def NetNumbersWrongFalsely : Prop := netNumbersRow.holds Try.pinned (OpenSpec.ofChange netNumbersWrong)

/-- 'ciceronelaw16.RateLives': WHATEVER THE INPUT: true; the input reads as it did. -/
def rateLivesSpec : ChangeSpec := { name := "rateLives", fn := fun _ => fun
  | [d1, d2, d3] => { results := [.lit (.bool true)], args := [d1, d2, d3] }
  | _ => none }
def rateLivesRow : OpenClaim := { program := "ytabclpffjpcejaa", sum := "c0ddec92023a940214133cd2a05193da2c3f40007c2c62530c9aab6ecc525920", func := "cicerone/ciceronelaw16.RateLives", spec := "rateLives", inPlace := ["math.archFloor", "math.Float64bits", "math.Float64frombits", "math.archTrunc"], unfollowed := true, recurses := true, apart := false }
def RateLivesSaid : Prop := rateLivesRow.holds Try.pinned (OpenSpec.ofChange rateLivesSpec)

/-- ITS FALSE NEIGHBOUR: 'it returns false'. Refute it at one input. -/
def rateLivesWrong : ChangeSpec := { name := "rateLives", fn := fun _ => fun
  | [d1, d2, d3] => { results := [.lit (.bool false)], args := [d1, d2, d3] }
  | _ => none }
def RateLivesWrongFalsely : Prop := rateLivesRow.holds Try.pinned (OpenSpec.ofChange rateLivesWrong)

/-- 'ciceronelaw16.RateBounds': WHATEVER THE INPUT: true; the input reads as it did. -/
def rateBoundsSpec : ChangeSpec := { name := "rateBounds", fn := fun _ => fun
  | [d1, d2] => { results := [.lit (.bool true)], args := [d1, d2] }
  | _ => none }
def rateBoundsRow : OpenClaim := { program := "ytabclpffjpcejaa", sum := "c0ddec92023a940214133cd2a05193da2c3f40007c2c62530c9aab6ecc525920", func := "cicerone/ciceronelaw16.RateBounds", spec := "rateBounds", inPlace := ["math.archFloor", "math.Float64bits", "math.Float64frombits", "math.archTrunc"], apart := false }
def RateBoundsSaid : Prop := rateBoundsRow.holds Try.pinned (OpenSpec.ofChange rateBoundsSpec)

/-- ITS FALSE NEIGHBOUR: 'it returns false'. Refute it at one input. -/
def rateBoundsWrong : ChangeSpec := { name := "rateBounds", fn := fun _ => fun
  | [d1, d2] => { results := [.lit (.bool false)], args := [d1, d2] }
  | _ => none }
def RateBoundsWrongFalsely : Prop := rateBoundsRow.holds Try.pinned (OpenSpec.ofChange rateBoundsWrong)

/-- 'ciceronelaw16.RateBest': WHATEVER THE INPUT: true; the input reads as it did. -/
def rateBestSpec : ChangeSpec := { name := "rateBest", fn := fun _ => fun
  | [d1, d2, d3] => { results := [.lit (.bool true)], args := [d1, d2, d3] }
  | _ => none }
def rateBestRow : OpenClaim := { program := "ytabclpffjpcejaa", sum := "c0ddec92023a940214133cd2a05193da2c3f40007c2c62530c9aab6ecc525920", func := "cicerone/ciceronelaw16.RateBest", spec := "rateBest", inPlace := ["math.archFloor", "math.Float64bits", "math.Float64frombits", "math.archTrunc"], unfollowed := true, recurses := true, apart := false }
def RateBestSaid : Prop := rateBestRow.holds Try.pinned (OpenSpec.ofChange rateBestSpec)

/-- ITS FALSE NEIGHBOUR: 'it returns false'. Refute it at one input. -/
def rateBestWrong : ChangeSpec := { name := "rateBest", fn := fun _ => fun
  | [d1, d2, d3] => { results := [.lit (.bool false)], args := [d1, d2, d3] }
  | _ => none }
def RateBestWrongFalsely : Prop := rateBestRow.holds Try.pinned (OpenSpec.ofChange rateBestWrong)

/-- 'ciceronelaw16.RateDraws': WHATEVER THE INPUT: true; the input reads as it did. -/
def rateDrawsSpec : ChangeSpec := { name := "rateDraws", fn := fun _ => fun
  | [d1, d2] => { results := [.lit (.bool true)], args := [d1, d2] }
  | _ => none }
def rateDrawsRow : OpenClaim := { program := "ytabclpffjpcejaa", sum := "c0ddec92023a940214133cd2a05193da2c3f40007c2c62530c9aab6ecc525920", func := "cicerone/ciceronelaw16.RateDraws", spec := "rateDraws", unfollowed := true, recurses := true, apart := false }
def RateDrawsSaid : Prop := rateDrawsRow.holds Try.pinned (OpenSpec.ofChange rateDrawsSpec)

/-- ITS FALSE NEIGHBOUR: 'it returns false'. Refute it at one input. -/
def rateDrawsWrong : ChangeSpec := { name := "rateDraws", fn := fun _ => fun
  | [d1, d2] => { results := [.lit (.bool false)], args := [d1, d2] }
  | _ => none }
def RateDrawsWrongFalsely : Prop := rateDrawsRow.holds Try.pinned (OpenSpec.ofChange rateDrawsWrong)

/-- 'ciceronelaw16.RateNobody': WHATEVER THE INPUT: true; the input reads as it did. -/
def rateNobodySpec : ChangeSpec := { name := "rateNobody", fn := fun _ => fun
  | [d] => { results := [.lit (.bool true)], args := [d] }
  | _ => none }
def rateNobodyRow : OpenClaim := { program := "ytabclpffjpcejaa", sum := "c0ddec92023a940214133cd2a05193da2c3f40007c2c62530c9aab6ecc525920", func := "cicerone/ciceronelaw16.RateNobody", spec := "rateNobody", inPlace := ["math.archFloor", "math.Float64bits", "math.Float64frombits", "math.archTrunc"], unfollowed := true, recurses := true, apart := false }
def RateNobodySaid : Prop := rateNobodyRow.holds Try.pinned (OpenSpec.ofChange rateNobodySpec)

/-- ITS FALSE NEIGHBOUR: 'it returns false'. Refute it at one input. -/
def rateNobodyWrong : ChangeSpec := { name := "rateNobody", fn := fun _ => fun
  | [d] => { results := [.lit (.bool false)], args := [d] }
  | _ => none }
def RateNobodyWrongFalsely : Prop := rateNobodyRow.holds Try.pinned (OpenSpec.ofChange rateNobodyWrong)

/- THE SECOND FORM. 'bulk': how many values and letters a reading holds, each counted each time it is reached (what is shared counts as often as it is met; a slice's spare places count too). A statement '..UptoSaid' is the law's where the arguments, and the package variables that the reading takes, are together of bulk at most 1048576: NARROWER than '..Said'. Prove '..Said' where nothing that the law and all that it calls make is longer than what came in: it says more and counts as full. Else prove '..UptoSaid'. A law counts once. -/
mutual
def uptoBulk {H : Type} : DataW H → Nat
  | .lit (.string bytes) => bytes.length + 1
  | .lit _ => 1
  | .nil => 1
  | .ptr d => uptoBulk d + 1
  | .slice elems spare => uptoBulkAll elems + uptoBulkAll spare + 1
  | .agg parts => uptoBulkAll parts + 1
  | .iface _ d => uptoBulk d + 1
  | .map entries => uptoBulkEntries entries + 1
  | .held _ => 1
def uptoBulkAll {H : Type} : List (DataW H) → Nat
  | [] => 0
  | d :: r => uptoBulk d + uptoBulkAll r
def uptoBulkEntries {H : Type} : List (Lit × DataW H) → Nat
  | [] => 0
  | x :: r => uptoBulkEntry x + uptoBulkEntries r
def uptoBulkEntry {H : Type} : Lit × DataW H → Nat
  | (.string bytes, d) => bytes.length + uptoBulk d + 1
  | (_, d) => uptoBulk d + 1
 end
def uptoSmall : (H : Type) → List (DataW H) → Bool := fun _ ds => decide (uptoBulkAll ds ≤ 1048576)
def OpenSpec.upto (s : _root_.Go.ChangeSpec) : _root_.Go.OpenSpec := { _root_.Go.OpenSpec.ofChange s with cond := some uptoSmall }

/-- 'ciceronelaw15.NetLives', WHERE WHAT IT READS IS OF BULK AT MOST 1048576: true; the input reads as it did. -/
def netLivesUptoRow : OpenClaim := { program := "ytabclpffjpcejaa", sum := "c0ddec92023a940214133cd2a05193da2c3f40007c2c62530c9aab6ecc525920", func := "cicerone/ciceronelaw15.NetLives", spec := "netLives", unfollowed := true, recurses := true, apart := false, narrowed := true }
def NetLivesUptoSaid : Prop := netLivesUptoRow.holds Try.pinned (OpenSpec.upto netLivesSpec)

/-- 'ciceronelaw15.NetCarries', WHERE WHAT IT READS IS OF BULK AT MOST 1048576: true; the input reads as it did. -/
def netCarriesUptoRow : OpenClaim := { program := "ytabclpffjpcejaa", sum := "c0ddec92023a940214133cd2a05193da2c3f40007c2c62530c9aab6ecc525920", func := "cicerone/ciceronelaw15.NetCarries", spec := "netCarries", apart := false, narrowed := true }
def NetCarriesUptoSaid : Prop := netCarriesUptoRow.holds Try.pinned (OpenSpec.upto netCarriesSpec)

/-- 'ciceronelaw15.NetNobody', WHERE WHAT IT READS IS OF BULK AT MOST 1048576: true; the input reads as it did. -/
def netNobodyUptoRow : OpenClaim := { program := "ytabclpffjpcejaa", sum := "c0ddec92023a940214133cd2a05193da2c3f40007c2c62530c9aab6ecc525920", func := "cicerone/ciceronelaw15.NetNobody", spec := "netNobody", unfollowed := true, recurses := true, apart := false, narrowed := true }
def NetNobodyUptoSaid : Prop := netNobodyUptoRow.holds Try.pinned (OpenSpec.upto netNobodySpec)

/-- 'ciceronelaw15.NetNumbers', WHERE WHAT IT READS IS OF BULK AT MOST 1048576: true; the input reads as it did. -/
def netNumbersUptoRow : OpenClaim := { program := "ytabclpffjpcejaa", sum := "c0ddec92023a940214133cd2a05193da2c3f40007c2c62530c9aab6ecc525920", func := "cicerone/ciceronelaw15.NetNumbers", spec := "netNumbers", unfollowed := true, recurses := true, apart := false, narrowed := true }
def NetNumbersUptoSaid : Prop := netNumbersUptoRow.holds Try.pinned (OpenSpec.upto netNumbersSpec)

/-- 'ciceronelaw16.RateLives', WHERE WHAT IT READS IS OF BULK AT MOST 1048576: true; the input reads as it did. -/
def rateLivesUptoRow : OpenClaim := { program := "ytabclpffjpcejaa", sum := "c0ddec92023a940214133cd2a05193da2c3f40007c2c62530c9aab6ecc525920", func := "cicerone/ciceronelaw16.RateLives", spec := "rateLives", inPlace := ["math.archFloor", "math.Float64bits", "math.Float64frombits", "math.archTrunc"], unfollowed := true, recurses := true, apart := false, narrowed := true }
def RateLivesUptoSaid : Prop := rateLivesUptoRow.holds Try.pinned (OpenSpec.upto rateLivesSpec)

/-- 'ciceronelaw16.RateBounds', WHERE WHAT IT READS IS OF BULK AT MOST 1048576: true; the input reads as it did. -/
def rateBoundsUptoRow : OpenClaim := { program := "ytabclpffjpcejaa", sum := "c0ddec92023a940214133cd2a05193da2c3f40007c2c62530c9aab6ecc525920", func := "cicerone/ciceronelaw16.RateBounds", spec := "rateBounds", inPlace := ["math.archFloor", "math.Float64bits", "math.Float64frombits", "math.archTrunc"], apart := false, narrowed := true }
def RateBoundsUptoSaid : Prop := rateBoundsUptoRow.holds Try.pinned (OpenSpec.upto rateBoundsSpec)

/-- 'ciceronelaw16.RateBest', WHERE WHAT IT READS IS OF BULK AT MOST 1048576: true; the input reads as it did. -/
def rateBestUptoRow : OpenClaim := { program := "ytabclpffjpcejaa", sum := "c0ddec92023a940214133cd2a05193da2c3f40007c2c62530c9aab6ecc525920", func := "cicerone/ciceronelaw16.RateBest", spec := "rateBest", inPlace := ["math.archFloor", "math.Float64bits", "math.Float64frombits", "math.archTrunc"], unfollowed := true, recurses := true, apart := false, narrowed := true }
def RateBestUptoSaid : Prop := rateBestUptoRow.holds Try.pinned (OpenSpec.upto rateBestSpec)

/-- 'ciceronelaw16.RateDraws', WHERE WHAT IT READS IS OF BULK AT MOST 1048576: true; the input reads as it did. -/
def rateDrawsUptoRow : OpenClaim := { program := "ytabclpffjpcejaa", sum := "c0ddec92023a940214133cd2a05193da2c3f40007c2c62530c9aab6ecc525920", func := "cicerone/ciceronelaw16.RateDraws", spec := "rateDraws", unfollowed := true, recurses := true, apart := false, narrowed := true }
def RateDrawsUptoSaid : Prop := rateDrawsUptoRow.holds Try.pinned (OpenSpec.upto rateDrawsSpec)

/-- 'ciceronelaw16.RateNobody', WHERE WHAT IT READS IS OF BULK AT MOST 1048576: true; the input reads as it did. -/
def rateNobodyUptoRow : OpenClaim := { program := "ytabclpffjpcejaa", sum := "c0ddec92023a940214133cd2a05193da2c3f40007c2c62530c9aab6ecc525920", func := "cicerone/ciceronelaw16.RateNobody", spec := "rateNobody", inPlace := ["math.archFloor", "math.Float64bits", "math.Float64frombits", "math.archTrunc"], unfollowed := true, recurses := true, apart := false, narrowed := true }
def RateNobodyUptoSaid : Prop := rateNobodyUptoRow.holds Try.pinned (OpenSpec.upto rateNobodySpec)

end Rows
end Go.Proofs.Ytabclpffjpcejaa
