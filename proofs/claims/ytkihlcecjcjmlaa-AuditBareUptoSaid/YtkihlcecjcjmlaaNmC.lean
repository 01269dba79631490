/-
  name.Can, name.Count, and one label of a name.
-/
import Derived.Test.YtkihlcecjcjmlaaNmS
import Derived.Handy
import Derived.Deep.QuietTactic
import Derived.BigQuiet
import Derived.IntWalk
namespace Go.Proofs.Ytkihlcecjcjmlaa
open Go.RowKit
set_option linter.unusedVariables false
set_option maxRecDepth 100000

theorem new_row (w : World) (C : Array Value) : ((w.alloc (Obj.cells C 76 (0, 0))).heap[w.heap.size]? = some (.cells C 76 (0, 0))) := row_new _ rfl
theorem kept_row {w : World} {g : Nat} {C C' : Array Value} {t : TypeId} (h : w.heap[g]? = some (.cells C t (0, 0))) : (w.setRow g C').heap[g]? = some (.cells C' t (0, 0)) := setRow_heap _ _ _ _ _ _ h

set_option maxHeartbeats 1000000 in
theorem Can_any (l : Bs) (w : World) : Calls Try.prog 17 #[.string (bs l)] w fun e w' => e = .returned (.bool (can l)) ∧ Below w.heap.size w w' := by
  obtain ⟨ip, hi, hz, hs⟩ := info_pl
  go_enter Try.func17, Try.ntmps17
  go_wp2_with fail
  refine (split_any l w).mono ?_
  rintro e w1 ⟨C, rfl, hC, h1, _, hB⟩
  go_wp2_with (first
    | (refine wpList_alloc_at rfl 76 rfl ip zeroPl hi hz ?_)
    | (refine wpList_store_row rfl 76 (.tmp 3) (.tmp 8) rfl w1.heap.size C rfl rfl 76 zeroPl (new_row _ _) (pl_size hC) (zero_size.trans hC.symm) h1 ?_))
  go_ret
  exact ⟨rfl, Below.setRow (Below.alloc hB hB.size _) hB.size _⟩

set_option maxHeartbeats 1000000 in
theorem Count_any (l : Bs) (w : World) : Calls Try.prog 25 #[.string (bs l)] w fun e w' => e = .returned (.int .i64 (labels l).length) ∧ Below w.heap.size w w' := by
  obtain ⟨ip, hi, hz, hs⟩ := info_pl
  go_enter Try.func25, Try.ntmps25
  go_wp2_with fail
  refine (split_any l w).mono ?_
  rintro e w1 ⟨C, rfl, hC, h1, hP, hB⟩
  cases hc : can l
  · go_wp2_with (first
      | (refine wpList_alloc_at rfl 76 rfl ip zeroPl hi hz ?_)
      | (refine wpList_store_row rfl 76 (.tmp 3) (.tmp 8) rfl w1.heap.size C rfl rfl 76 zeroPl (new_row _ _) (pl_size hC) (zero_size.trans hC.symm) h1 ?_))
    go_ret
    exact ⟨by rw [labels_no hc]; rfl, Below.setRow (Below.alloc hB hB.size _) hB.size _⟩
  · have hp := hP hc
    have c1 : ((w1.alloc (Obj.cells zeroPl 76 (0, 0))).setRow w1.heap.size C).cell? ⟨w1.heap.size, 128, none⟩ = some (.int .i64 (labels l).length) := (cell_of_row _ _ _ _ _ _ (kept_row (new_row w1 zeroPl))).trans hp.count
    go_wp2_with (first
      | (refine wpList_alloc_at rfl 76 rfl ip zeroPl hi hz ?_)
      | (refine wpList_store_row rfl 76 (.tmp 3) (.tmp 8) rfl w1.heap.size C rfl rfl 76 zeroPl (new_row _ _) (pl_size hC) (zero_size.trans hC.symm) h1 ?_))
    go_ret
    exact ⟨rfl, Below.setRow (Below.alloc hB hB.size _) hB.size _⟩

theorem st_at {L : List Bs} {i : Nat} (h : i < L.length) : st L (i + 1) = st L i + 1 + (L[i]).length := by
  unfold st
  rw [List.take_succ_eq_append_getElem h, enc_snoc]

/-- A name's bytes from the i-th label on. -/
theorem drop_st (L : List Bs) (i : Nat) : (join L).drop (st L i) = join (L.drop i) := by
  have e : enc L = enc (L.take i) ++ enc (L.drop i) := by rw [← enc_append, List.take_append_drop]
  unfold join st
  rw [e, List.append_assoc, List.drop_left]

theorem label_bytes {L : List Bs} {i : Nat} (h : i < L.length) : ((join L).drop (st L i + 1)).take (st L (i + 1) - (st L i + 1)) = L[i] := by
  rw [← List.drop_drop, drop_st, List.drop_eq_getElem_cons h, st_at h]
  unfold join enc
  simp only [List.cons_append, List.drop_succ_cons, List.drop_zero]
  rw [show st L i + 1 + (L[i]).length - (st L i + 1) = (L[i]).length by omega, List.append_assoc, List.take_left]

theorem st_le {L : List Bs} {i : Nat} (h : i ≤ L.length) : st L i < (join L).length := by
  have := congrArg List.length (drop_st L i)
  simp [join] at this ⊢
  omega

theorem slice_label {l : Bs} {L : List Bs} {i : Nat} (hj : l = join L) (hi : i < L.length) (wx : World) : (Instr.slice 9 (.string (bs l)) (some (.int .i64 ((st L i : Int) + 1))) (some (.int .u8 (st L (i + 1)))) none).run Try.prog wx = .ok (.string (bs (L[i]))) wx := by
  subst hj
  have h1 := st_at hi
  have h2 := st_le (L := L) (i := i + 1) (by omega)
  rw [run_slice_string wx 9 _ _ _ _ _ Try.underlying9 (by omega) (by omega) (by rw [bs_size]; omega), bs_extract]
  rw [show ((st L i : Int) + 1).toNat = st L i + 1 by omega, Int.toNat_natCast, label_bytes hi]


end Go.Proofs.Ytkihlcecjcjmlaa
