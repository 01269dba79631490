/-
  The document's Can and Labels.
-/
import Derived.Test.YtjhameebehkdjaaGreatNmJ
import Derived.Test.YtjhameebehkdjaaGreatNmS
import Derived.Test.YtjhameebehkdjaaGreatNmC
import Derived.Test.YtjhameebehkdjaaGreatNmD
namespace Go.Proofs.YtjhameebehkdjaaGreat
open Go.RowKit
set_option linter.unusedVariables false
set_option maxRecDepth 100000


/-- What is told of a slice of strings that the call made. -/
def StrsPost (w : World) (L : List Bs) (e : Ending) (w' : World) : Prop := ∃ A c, e = .returned (.slice A L.length c) ∧ Strs w' A L ∧ L.length ≤ c ∧ Below w.heap.size w w'

theorem join_cons (x : Bs) (M : List Bs) : join (x :: M) = UInt8.ofNat x.length :: (x ++ join M) := by simp [join, enc]
theorem byte_at_st {L : List Bs} {i : Nat} (h : i < L.length) (h63 : (L[i]).length ≤ 63) : ∃ hb : st L i < (join L).length, ((join L)[st L i]).toNat = (L[i]).length := by
  have hb := st_le (L := L) (i := i) (by omega)
  refine ⟨hb, ?_⟩
  have e := drop_st L i
  rw [List.drop_eq_getElem_cons h, join_cons, List.drop_eq_getElem_cons hb] at e
  injection e with e _
  rw [e]
  simp; omega
theorem byte_at_end (L : List Bs) : ∃ hb : st L L.length < (join L).length, ((join L)[st L L.length]).toNat = 0 := by
  have hb := st_le (L := L) (i := L.length) (by omega)
  refine ⟨hb, ?_⟩
  have e := drop_st L L.length
  rw [List.drop_length, List.drop_eq_getElem_cons hb, show join [] = [0] from rfl] at e
  injection e with e _
  rw [e]; rfl


theorem slice_label2 {l : Bs} {L : List Bs} {i : Nat} (hj : l = join L) (hi : i < L.length) (wx : World) : (Instr.slice 9 (.string (bs l)) (some (.int .i64 ((st L i : Int) + 1))) (some (.int .i64 ((st L i : Int) + 1 + (L[i]).length))) none).run Tryz.prog wx = .ok (.string (bs (L[i]))) wx := by
  subst hj
  have h1 := st_at hi
  have h2 := st_le (L := L) (i := i + 1) (by omega)
  rw [show (st L i : Int) + 1 + (L[i]).length = (st L (i + 1) : Int) by rw [h1]; omega]
  rw [run_slice_string wx 9 _ _ _ _ _ Tryz.underlying9 (by omega) (by omega) (by rw [bs_size]; omega), bs_extract]
  rw [show ((st L i : Int) + 1).toNat = st L i + 1 by omega, Int.toNat_natCast, label_bytes hi]



end Go.Proofs.YtjhameebehkdjaaGreat
