/-
  The document's Can and Labels.
-/
import Derived.Test.YtgfahkgnblkhaaaDoorNmJ
import Derived.Test.YtgfahkgnblkhaaaDoorNmS
import Derived.Test.YtgfahkgnblkhaaaDoorNmC
import Derived.Test.YtgfahkgnblkhaaaDoorNmD
namespace Go.Proofs.YtgfahkgnblkhaaaDoor
open Go.RowKit
set_option linter.unusedVariables false
set_option maxRecDepth 100000

set_option maxHeartbeats 1000000 in
theorem rCan_any (l : Bs) (w : World) : Calls Tryd.prog 15 #[.string (bs l)] w fun e w' => e = .returned (.bool (can l)) ∧ w = w' := by
  have hsz := bs_size l
  by_cases hlong : 255 < l.length
  · rw [can_long hlong]
    have h : (255 : Int) < (l.length : Int) := by omega
    go_enter Tryd.func15, Tryd.ntmps15
    go_wp2_with fail
    go_ret
    exact ⟨rfl, rfl⟩
  · have hl : (l.length : Int) ≤ 255 := by omega
    have hcan : can l = (labs l).isSome := by unfold can; simp; omega
    rw [hcan]
    clear hcan hlong
    go_enter Tryd.func15, Tryd.ntmps15
    go_wp2_with fail
    go_loop [3] (fun v => ∃ n : Nat, v = .int .i64 n ∧ n ≤ 400 ∧ Hid ((labs l).isSome = (labs (l.drop n)).isSome)) (fun v => 400 - (intOf v).toNat)
    case atStart => exact ⟨0, rfl, by omega, Lib.hid rfl⟩
    case round =>
      obtain ⟨n, rfl, hn, hS⟩ := hrel
      by_cases hlt : n < l.length
      · have hk := byte_lt l n hlt
        obtain ⟨k, hkd⟩ : ∃ k, k = (l[n]).toNat := ⟨_, rfl⟩
        have hix : ∀ wx : World, (Instr.index 9 (.string (bs l)) (.int .i64 n)).run Tryd.prog wx = .ok (.int .u8 k) wx := fun wx => by
          rw [run_index_string _ _ _ _ _ Tryd.underlying9, dif_pos (by rw [bs_size]; omega), hkd]
          rfl
        have hat := labs_at hlt
        rw [← hkd] at hk hat
        have HA := Lib.hid hat
        clear hkd hat
        have hlt' : (n : Int) < (l.length : Int) := by omega
        by_cases h0 : k = 0
        · have hb : ((k : Int) == 0) = true := by simp [h0]
          have hfin : (labs l).isSome = ((n : Int) == (l.length : Int) - 1) := by
            rw [hS.out, HA.out, if_pos h0]
            by_cases he : l.drop (n + 1) = []
            · rw [if_pos he]
              have := List.drop_eq_nil_iff.1 he
              simp; omega
            · rw [if_neg he]
              have : ¬ l.length ≤ n + 1 := fun h => he (List.drop_eq_nil_of_le h)
              simp; omega
          have HF := Lib.hid hfin
          clear HA hS hfin h0
          go_wp2_with fail
          go_ret
          exact ⟨by rw [HF.out]; rfl, rfl⟩
        · have hb : ((k : Int) == 0) = false := by simp [h0]
          by_cases h6 : (63 : Int) < (k : Int)
          · have hfin : (labs l).isSome = false := by
              rw [hS.out, HA.out, if_neg h0, if_pos (by omega)]; rfl
            have HF := Lib.hid hfin
            clear HA hS hfin h0
            go_wp2_with fail
            go_ret
            exact ⟨by rw [HF.out]; rfl, rfl⟩
          · have hnx : (labs l).isSome = (labs (l.drop (n + (1 + k)))).isSome := by
              rw [hS.out, HA.out, if_neg h0, if_neg (by omega), show n + (1 + k) = n + 1 + k by omega]
              simp
            have HF := Lib.hid hnx
            clear HA hS hnx h0
            go_wp2_with fail
            go_round
            case rel => exact ⟨n + (1 + k), by congr 1, by omega, HF⟩
            case measure => simp [intOf]; omega
      · have hfin : (labs l).isSome = false := by
          rw [hS.out, labs_short (by omega)]; rfl
        have HF := Lib.hid hfin
        clear hS hfin
        go_wp2_with fail
        go_ret
        exact ⟨by rw [HF.out]; rfl, rfl⟩

/-- What is told of a slice of strings that the call made. -/
def StrsPost (w : World) (L : List Bs) (e : Ending) (w' : World) : Prop := ∃ A c, e = .returned (.slice A L.length c) ∧ Strs w' A L ∧ L.length ≤ c ∧ Below w.heap.size w w'

theorem join_cons (x : Bs) (M : List Bs) : join (x :: M) = UInt8.ofNat x.length :: (x ++ join M) := by simp [join, enc]
theorem byte_at_st {L : List Bs} {i : Nat} (h : i < L.length) (h63 : (L[i]).length ≤ 63) : ∃ hb : st L i < (join L).length, ((join L)[st L i]).toNat = (L[i]).length := by
  have hb := st_le (L := L) (i := i) (by omega)
  refine ⟨hb, ?_⟩
  have e := drop_st L i
  rw [List.drop_eq_getElem_cons h, join_cons, List.drop_eq_getElem_cons hb] at e
  injection e with e _
  rw [e]
  simp; omega
theorem byte_at_end (L : List Bs) : ∃ hb : st L L.length < (join L).length, ((join L)[st L L.length]).toNat = 0 := by
  have hb := st_le (L := L) (i := L.length) (by omega)
  refine ⟨hb, ?_⟩
  have e := drop_st L L.length
  rw [List.drop_length, List.drop_eq_getElem_cons hb, show join [] = [0] from rfl] at e
  injection e with e _
  rw [e]; rfl


theorem slice_label2 {l : Bs} {L : List Bs} {i : Nat} (hj : l = join L) (hi : i < L.length) (wx : World) : (Instr.slice 9 (.string (bs l)) (some (.int .i64 ((st L i : Int) + 1))) (some (.int .i64 ((st L i : Int) + 1 + (L[i]).length))) none).run Tryd.prog wx = .ok (.string (bs (L[i]))) wx := by
  subst hj
  have h1 := st_at hi
  have h2 := st_le (L := L) (i := i + 1) (by omega)
  rw [show (st L i : Int) + 1 + (L[i]).length = (st L (i + 1) : Int) by rw [h1]; omega]
  rw [run_slice_string wx 9 _ _ _ _ _ Tryd.underlying9 (by omega) (by omega) (by rw [bs_size]; omega), bs_extract]
  rw [show ((st L i : Int) + 1).toNat = st L i + 1 by omega, Int.toNat_natCast, label_bytes hi]



end Go.Proofs.YtgfahkgnblkhaaaDoor
