/-
  The document's Can and Labels.
-/
import Derived.Test.YtocbcobaodefgaaNmJ
import Derived.Test.YtocbcobaodefgaaNmS
import Derived.Test.YtocbcobaodefgaaNmC
import Derived.Test.YtocbcobaodefgaaNmD
namespace Go.Proofs.Ytocbcobaodefgaa
open Go.RowKit
set_option linter.unusedVariables false
set_option maxRecDepth 100000

set_option maxHeartbeats 1000000 in
theorem rCan_any (l : Bs) (w : World) : Calls Try.prog 62 #[.string (bs l)] w fun e w' => e = .returned (.bool (can l)) ∧ w = w' := by
  have hsz := bs_size l
  by_cases hlong : 255 < l.length
  · rw [can_long hlong]
    have h : (255 : Int) < (l.length : Int) := by omega
    go_enter Try.func62, Try.ntmps62
    go_wp2_with fail
    go_ret
    exact ⟨rfl, rfl⟩
  · have hl : (l.length : Int) ≤ 255 := by omega
    have hcan : can l = (labs l).isSome := by unfold can; simp; omega
    rw [hcan]
    clear hcan hlong
    go_enter Try.func62, Try.ntmps62
    go_wp2_with fail
    go_loop [3] (fun v => ∃ n : Nat, v = .int .i64 n ∧ n ≤ 400 ∧ Hid ((labs l).isSome = (labs (l.drop n)).isSome)) (fun v => 400 - (intOf v).toNat)
    case atStart => exact ⟨0, rfl, by omega, Lib.hid rfl⟩
    case round =>
      obtain ⟨n, rfl, hn, hS⟩ := hrel
      by_cases hlt : n < l.length
      · have hk := byte_lt l n hlt
        obtain ⟨k, hkd⟩ : ∃ k, k = (l[n]).toNat := ⟨_, rfl⟩
        have hix : ∀ wx : World, (Instr.index 9 (.string (bs l)) (.int .i64 n)).run Try.prog wx = .ok (.int .u8 k) wx := fun wx => by
          rw [run_index_string _ _ _ _ _ Try.underlying9, dif_pos (by rw [bs_size]; omega), hkd]
          rfl
        have hat := labs_at hlt
        rw [← hkd] at hk hat
        have HA := Lib.hid hat
        clear hkd hat
        have hlt' : (n : Int) < (l.length : Int) := by omega
        by_cases h0 : k = 0
        · have hb : ((k : Int) == 0) = true := by simp [h0]
          have hfin : (labs l).isSome = ((n : Int) == (l.length : Int) - 1) := by
            rw [hS.out, HA.out, if_pos h0]
            by_cases he : l.drop (n + 1) = []
            · rw [if_pos he]
              have := List.drop_eq_nil_iff.1 he
              simp; omega
            · rw [if_neg he]
              have : ¬ l.length ≤ n + 1 := fun h => he (List.drop_eq_nil_of_le h)
              simp; omega
          have HF := Lib.hid hfin
          clear HA hS hfin h0
          go_wp2_with fail
          go_ret
          exact ⟨by rw [HF.out]; rfl, rfl⟩
        · have hb : ((k : Int) == 0) = false := by simp [h0]
          by_cases h6 : (63 : Int) < (k : Int)
          · have hfin : (labs l).isSome = false := by
              rw [hS.out, HA.out, if_neg h0, if_pos (by omega)]; rfl
            have HF := Lib.hid hfin
            clear HA hS hfin h0
            go_wp2_with fail
            go_ret
            exact ⟨by rw [HF.out]; rfl, rfl⟩
          · have hnx : (labs l).isSome = (labs (l.drop (n + (1 + k)))).isSome := by
              rw [hS.out, HA.out, if_neg h0, if_neg (by omega), show n + (1 + k) = n + 1 + k by omega]
              simp
            have HF := Lib.hid hnx
            clear HA hS hnx h0
            go_wp2_with fail
            go_round
            case rel => exact ⟨n + (1 + k), by congr 1, by omega, HF⟩
            case measure => simp [intOf]; omega
      · have hfin : (labs l).isSome = false := by
          rw [hS.out, labs_short (by omega)]; rfl
        have HF := Lib.hid hfin
        clear hS hfin
        go_wp2_with fail
        go_ret
        exact ⟨by rw [HF.out]; rfl, rfl⟩

/-- What is told of a slice of strings that the call made. -/
def StrsPost (w : World) (L : List Bs) (e : Ending) (w' : World) : Prop := ∃ A c, e = .returned (.slice A L.length c) ∧ Strs w' A L ∧ L.length ≤ c ∧ Below w.heap.size w w'

theorem join_cons (x : Bs) (M : List Bs) : join (x :: M) = UInt8.ofNat x.length :: (x ++ join M) := by simp [join, enc]
theorem byte_at_st {L : List Bs} {i : Nat} (h : i < L.length) (h63 : (L[i]).length ≤ 63) : ∃ hb : st L i < (join L).length, ((join L)[st L i]).toNat = (L[i]).length := by
  have hb := st_le (L := L) (i := i) (by omega)
  refine ⟨hb, ?_⟩
  have e := drop_st L i
  rw [List.drop_eq_getElem_cons h, join_cons, List.drop_eq_getElem_cons hb] at e
  injection e with e _
  rw [e]
  simp; omega
theorem byte_at_end (L : List Bs) : ∃ hb : st L L.length < (join L).length, ((join L)[st L L.length]).toNat = 0 := by
  have hb := st_le (L := L) (i := L.length) (by omega)
  refine ⟨hb, ?_⟩
  have e := drop_st L L.length
  rw [List.drop_length, List.drop_eq_getElem_cons hb, show join [] = [0] from rfl] at e
  injection e with e _
  rw [e]; rfl

theorem Labels_no (l : Bs) (w : World) (h : can l = false) : Calls Try.prog 110 #[.string (bs l)] w (StrsPost w (labels l)) := by
  rw [labels_no h]
  have C := Lib.hid (rCan_any l w)
  rw [h] at C
  clear h
  go_enter Try.func110, Try.ntmps110
  go_wp2_with fail
  refine C.out.mono ?_
  rintro e w1 ⟨rfl, rfl⟩
  go_wp2_with fail
  go_ret
  exact ⟨none, 0, rfl, fun h => absurd h (by simp), by simp, Below.refl _ _⟩

theorem slice_label2 {l : Bs} {L : List Bs} {i : Nat} (hj : l = join L) (hi : i < L.length) (wx : World) : (Instr.slice 9 (.string (bs l)) (some (.int .i64 ((st L i : Int) + 1))) (some (.int .i64 ((st L i : Int) + 1 + (L[i]).length))) none).run Try.prog wx = .ok (.string (bs (L[i]))) wx := by
  subst hj
  have h1 := st_at hi
  have h2 := st_le (L := L) (i := i + 1) (by omega)
  rw [show (st L i : Int) + 1 + (L[i]).length = (st L (i + 1) : Int) by rw [h1]; omega]
  rw [run_slice_string wx 9 _ _ _ _ _ Try.underlying9 (by omega) (by omega) (by rw [bs_size]; omega), bs_extract]
  rw [show ((st L i : Int) + 1).toNat = st L i + 1 by omega, Int.toNat_natCast, label_bytes hi]

set_option maxHeartbeats 2000000 in
set_option maxRecDepth 100000 in
theorem Labels_yes (l : Bs) (w : World) (h : can l = true) : Calls Try.prog 110 #[.string (bs l)] w (StrsPost w (labels l)) := by
  obtain ⟨i0, hi, hz0, hz1, hz2⟩ := info_parts info_str
  have hsz := bs_size l
  have C := Lib.hid (rCan_any l w)
  rw [h] at C
  obtain ⟨hl, _, hj, hL⟩ := can_out h
  have hcn := can_count h
  clear h
  have HL := Lib.hid hL
  have HJ := Lib.hid hj
  clear hj hL
  generalize labels l = L at *
  go_enter Try.func110, Try.ntmps110
  go_wp2_with fail
  refine C.out.mono ?_
  rintro e w1 ⟨rfl, rfl⟩
  clear C
  go_wp2_with fail
  go_loopw [3, 4] (fun v i wr => ∃ k : Nat, k ≤ L.length ∧ i = .int .i64 (st L k) ∧ wr.ownsRow w.heap.size 9 1 v k ((L.take k).map fun x => .string (bs x)) ∧ Below w.heap.size w wr) (fun _ i _ => 400 - (intOf i).toNat)
  case atStart => exact ⟨0, by omega, rfl, ⟨rfl, .inl ⟨rfl, rfl⟩⟩, Below.refl _ _⟩
  case round =>
    obtain ⟨k, hk, rfl, hown, hB⟩ := hrel
    by_cases hlt : k < L.length
    · obtain ⟨hb, hbv⟩ := byte_at_st hlt (HL.out _ (List.getElem_mem hlt)).2
      have hlab := HL.out _ (List.getElem_mem hlt)
      have hbl : st L k < l.length := by rw [HJ.out]; exact hb
      have hbv' : ((l[st L k]).toNat : Int) = (L[k]).length := by
        have := HJ.out
        subst this
        exact congrArg Nat.cast hbv
      have hix : ∀ wx : World, (Instr.index 9 (.string (bs l)) (.int .i64 (st L k))).run Try.prog wx = .ok (.int .u8 (L[k]).length) wx := fun wx => by
        rw [run_index_string _ _ _ _ _ Try.underlying9, dif_pos (by rw [bs_size]; omega)]
        rw [← hbv']
        rfl
      have hsl := slice_label2 HJ.out hlt
      have hst := st_at hlt
      have hst2 := st_le (L := L) (i := k + 1) (by omega)
      rw [← HJ.out] at hst2
      have htk : (L.take (k + 1)).map (fun x => Value.string (bs x)) = (L.take k).map (fun x => Value.string (bs x)) ++ [.string (bs L[k])] := by
        rw [List.take_succ_eq_append_getElem hlt, List.map_append]; rfl
      obtain ⟨x, hx⟩ : ∃ x, x = L[k] := ⟨_, rfl⟩
      rw [← hx] at hix hsl hst htk hlab hbv'
      obtain ⟨p, hp⟩ : ∃ p, p = st L k := ⟨_, rfl⟩
      rw [← hp] at hix hsl hst hbl
      rw [← hp]
      have hlab1 := hlab.1
      have hlab2 := hlab.2
      have hne : ((x.length : Int) != 0) = true := by simp; intro h; subst h; simp at hlab1
      have HT := Lib.hid htk
      have HS := Lib.hid hst
      have hpl : (p : Int) < (l.length : Int) := by omega
      have hpe : p + 1 + x.length < l.length := by omega
      clear hbv hbv' htk hst hlab hx hst2 hp
      have hsize := hB.size
      go_wp2_with (at_builtin; refine wpList_append_own _ rfl _ _ 101 rfl w.heap.size 9 i0 (.string ⟨#[]⟩) 1 16 Try.underlying101 hi hz0 hz1 hz2 rfl (by decide) _ _ _ rfl (hown.alloc _) ⟨wr.heap.size, 0, none⟩ 1 1 [.string (bs x)] rfl rfl ?c1 ?c2 ?c3 ?c4 ?c5 ?_)
      case c1 => exact World.news_of_block (cs := #[.string (bs x)]) (t := 9) (fr := (0, 0)) (row_new _ rfl)
      case c2 => simp [Value.oneCell']
      case c3 => unfold maxLen; omega
      case c4 => omega
      case c5 => simp; omega
      intro v' w1 hown1 hgrow _
      have hB1 : Below w.heap.size w w1 := Below.grown (Below.alloc hB hB.size _) hgrow (by simp; omega) (fun g e => (hown.lt g e).1)
      clear hgrow hB hown
      go_wp2_with fail
      go_roundw
      case rel => exact ⟨k + 1, by omega, by rw [HS.out]; congr 1; omega, by rw [HT.out, List.map_take]; exact hown1, hB1⟩
      case measure => simp [intOf]; omega
    · obtain rfl : k = L.length := by omega
      obtain ⟨hb, hbv⟩ := byte_at_end L
      have hbl : st L L.length < l.length := by rw [HJ.out]; exact hb
      have hix : ∀ wx : World, (Instr.index 9 (.string (bs l)) (.int .i64 (st L L.length))).run Try.prog wx = .ok (.int .u8 0) wx := fun wx => by
        rw [run_index_string _ _ _ _ _ Try.underlying9, dif_pos (by rw [bs_size]; omega)]
        have := HJ.out
        subst this
        exact congrArg (fun z : Nat => Result.ok (Value.int .u8 (z : Int)) wx) hbv
      obtain ⟨A', c', rfl, hc'⟩ : ∃ A' c', u3 = .slice A' L.length c' ∧ L.length ≤ c' := by
        rcases hown.2 with ⟨rfl, h0⟩ | ⟨g, cap, _, rfl, _, _, hc, _⟩
        · exact ⟨none, 0, by rw [h0], by omega⟩
        · exact ⟨_, _, rfl, hc⟩
      rw [List.take_length] at hown
      have hST := (own_strs hown).2
      have hpl : (st L L.length : Int) < (l.length : Int) := by omega
      clear hbv hb hown
      generalize st L L.length = p at *
      go_wp2_with fail
      go_ret
      exact ⟨A', c', rfl, hST, hc', hB⟩

theorem Labels_any (l : Bs) (w : World) : Calls Try.prog 110 #[.string (bs l)] w (StrsPost w (labels l)) := by
  cases h : can l
  · exact Labels_no l w h
  · exact Labels_yes l w h

end Go.Proofs.Ytocbcobaodefgaa
