/-
  name.Can, name.Count, and one label of a name.
-/
import Derived.Test.YtjhameebehkdjaaGreatNmS
import Derived.Handy
import Derived.Deep.QuietTactic
import Derived.BigQuiet
import Derived.IntWalk
namespace Go.Proofs.YtjhameebehkdjaaGreat
open Go.RowKit
set_option linter.unusedVariables false
set_option maxRecDepth 100000




theorem st_at {L : List Bs} {i : Nat} (h : i < L.length) : st L (i + 1) = st L i + 1 + (L[i]).length := by
  unfold st
  rw [List.take_succ_eq_append_getElem h, enc_snoc]

/-- A name's bytes from the i-th label on. -/
theorem drop_st (L : List Bs) (i : Nat) : (join L).drop (st L i) = join (L.drop i) := by
  have e : enc L = enc (L.take i) ++ enc (L.drop i) := by rw [← enc_append, List.take_append_drop]
  unfold join st
  rw [e, List.append_assoc, List.drop_left]

theorem label_bytes {L : List Bs} {i : Nat} (h : i < L.length) : ((join L).drop (st L i + 1)).take (st L (i + 1) - (st L i + 1)) = L[i] := by
  rw [← List.drop_drop, drop_st, List.drop_eq_getElem_cons h, st_at h]
  unfold join enc
  simp only [List.cons_append, List.drop_succ_cons, List.drop_zero]
  rw [show st L i + 1 + (L[i]).length - (st L i + 1) = (L[i]).length by omega, List.append_assoc, List.take_left]

theorem st_le {L : List Bs} {i : Nat} (h : i ≤ L.length) : st L i < (join L).length := by
  have := congrArg List.length (drop_st L i)
  simp [join] at this ⊢
  omega

theorem slice_label {l : Bs} {L : List Bs} {i : Nat} (hj : l = join L) (hi : i < L.length) (wx : World) : (Instr.slice 9 (.string (bs l)) (some (.int .i64 ((st L i : Int) + 1))) (some (.int .u8 (st L (i + 1)))) none).run Tryz.prog wx = .ok (.string (bs (L[i]))) wx := by
  subst hj
  have h1 := st_at hi
  have h2 := st_le (L := L) (i := i + 1) (by omega)
  rw [run_slice_string wx 9 _ _ _ _ _ Tryz.underlying9 (by omega) (by omega) (by rw [bs_size]; omega), bs_extract]
  rw [show ((st L i : Int) + 1).toNat = st L i + 1 by omega, Int.toNat_natCast, label_bytes hi]


end Go.Proofs.YtjhameebehkdjaaGreat
