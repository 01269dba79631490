/-
  The landed Group.
-/
import Derived.Test.YtbeggckkgaoacaaGrE
import Derived.Test.YtbeggckkgaoacaaGrF
import Derived.Test.YtbeggckkgaoacaaLs
import Derived.Test.YtbeggckkgaoacaaEnQ
namespace Go.Proofs.Ytbeggckkgaoacaa
open Go.RowKit
set_option linter.unusedVariables false
set_option maxRecDepth 100000

theorem canRR_len {r : Rr} (h : canRR r = true) : r.d.length ≤ 65535 ∧ r.n.length ≤ 255 := by
  unfold canRR at h
  simp only [Bool.and_eq_true] at h
  exact ⟨canD_len h.2.2.2, (can_out h.1).1⟩
theorem group_mem {L : List Rr} {g : List Rr} (h : g ∈ groupsP L) : 0 < g.length ∧ g.length ≤ L.length ∧ ∀ r ∈ g, r ∈ L := by
  obtain ⟨i, hi, rfl⟩ := List.mem_iff_getElem.1 h
  have hh := groups_head L i (by rw [groups_len] at hi; exact hi)
  refine ⟨?_, group_le i hi, fun r hr => ?_⟩
  · rcases hg : (groupsP L)[i] with _ | ⟨x, y⟩
    · rw [hg] at hh; simp at hh
    · simp
  · simp only [groupsP, List.getElem_map, List.mem_filter] at hr
    exact hr.1
theorem sizedP {rk now : Int} {g : List Rr} {L : List Rr} (h0 : 0 < g.length) (hl : g.length ≤ 2000000000000) (h : ∀ r ∈ g, canRR r = true) : Sized (setP rk now g) := by
  match g, h0 with
  | f :: r, _ =>
    have hf := canRR_len (h f (by simp))
    refine ⟨by show f.n.length ≤ _; omega, by show ([] : Bs).length ≤ _; simp, fun x hx => ?_, ?_⟩
    · have hx : x ∈ orderP ((f :: r).map (·.d)) := hx
      rw [mem_order] at hx
      obtain ⟨q, hq, rfl⟩ := List.mem_map.1 hx
      have := canRR_len (h q hq)
      omega
    · have := order_len ((f :: r).map (·.d))
      rw [List.length_map] at this
      show (orderP ((f :: r).map (·.d))).length ≤ _
      omega

set_option maxHeartbeats 4000000 in
set_option maxRecDepth 100000 in
theorem group_any (A : Option Addr) (L : List Rr) (c : Nat) (rank now : Int) (w : World) (hS : Rs w A L) (hl : (L.length + 1) * 96 ≤ 140737488351232) :
    Calls Try.prog 10 #[.slice A L.length c, .int .i64 rank, .int .i64 now] w fun e w' => ∃ v, e = .returned v ∧ OwnS w' w.heap.size v (groupP rank now L) ∧ Below w.heap.size w w' := by
  obtain ⟨n, hn⟩ : ∃ n, n = L.length := ⟨_, rfl⟩
  rw [← hn]
  rw [← hn] at hl
  have HN := Lib.hid hn
  have HS := Lib.hid hS
  clear hn hS
  go_enter Try.func10, Try.ntmps10
  go_wp2_with fail
  go_loopw [7, 16] (fun v7 v16 wr => ∃ k : Nat, v16 = .int .i64 k ∧ k ≤ n ∧ Hid (OwnG w wr w.heap.size v7 ((L.take k).filter canRR)) ∧ Below w.heap.size w wr) (fun _ v16 _ => n - (intOf v16).toNat)
  case atStart => exact ⟨0, rfl, by omega, Lib.hid (OwnG.nil _ _ _), Below.refl _ _⟩
  case round =>
    obtain ⟨k, rfl, hk, HG, hB⟩ := hrel
    rename World => wr
    by_cases hlt : k < n
    · have hlt' : (k : Int) < (n : Int) := by omega
      have kL : k < L.length := by have := HN.out; omega
      obtain ⟨g1, o1, rfl, hc1⟩ := id HS.out (by omega)
      obtain ⟨a1, d1, D1, R1⟩ := hc1 k kL
      have R1' := range_on R1 hB
      have htk : L.take (k + 1) = L.take k ++ [L[k]] := List.take_succ_eq_append_getElem kL
      have hfl : ((L.take k).filter canRR).length ≤ k := Nat.le_trans (List.length_filter_le _ _) (by rw [List.length_take]; omega)
      have hft : (L.take (k + 1)).filter canRR = (L.take k).filter canRR ++ (if canRR L[k] then [L[k]] else []) := by rw [htk, List.filter_append]; congr 1; simp [List.filter_cons]
      generalize (L.take k).filter canRR = acc at *
      generalize L[k] = x at *
      have hsz := hB.size
      have i1 : Hid ((Try.prog.info? 39).map (·.size) = some (rrC x a1 d1).size) := Lib.hid info_rr
      have j1 : Hid ((Try.prog.info? 39).map (·.size) = some (rrL x a1 d1).length) := Lib.hid info_rr
      have one1 := Lib.hid (rr_one x a1 d1)
      have z1 : Hid ((rrZ).size = (rrC x a1 d1).size) := Lib.hid rfl
      have rZ := row_new (w := wr) (k := wr.heap.size) (.cells rrZ 39 (0, 0)) rfl
      have r5 := setRow_heap _ _ _ (rrC x a1 d1) _ _ rZ
      have q1 : Below wr.heap.size wr ((wr.alloc (.cells rrZ 39)).setRow wr.heap.size (rrC x a1 d1)) := Below.setRow (Below.alloc (Below.refl _ _) (Nat.le_refl _) _) (Nat.le_refl _) _
      rw [rrZ_lit] at rZ r5 q1 z1
      obtain ⟨W1, hW1⟩ : ∃ W1, W1 = (wr.alloc (.cells #[.string ⟨#[]⟩, .int .i64 0, .int .i64 0, .int .i64 0, .slice none 0 0] 39)).setRow wr.heap.size (rrC x a1 d1) := ⟨_, rfl⟩
      rw [← hW1] at r5 q1
      have HW1 := Lib.hid hW1
      have CR := Lib.hid (canRR_any x a1 d1 W1 ((D1.on hB).on q1))
      have HG1 := Lib.hid (HG.out.keptE (grown_of_below q1 none) (elsewhere_none _ _))
      have HB1 := Lib.hid (Below.trans hB (q1.mono hsz))
      have R5 := Lib.hid r5
      have HD1 := Lib.hid D1
      have HFT := Lib.hid hft
      have HLB : Hid ((acc.length + 1) * 64 ≤ 140737488355328) := Lib.hid (by omega)
      obtain ⟨C, hC⟩ : ∃ C, C = rrC x a1 d1 := ⟨_, rfl⟩
      obtain ⟨l1, hl1⟩ : ∃ l1, l1 = rrL x a1 d1 := ⟨_, rfl⟩
      have hCl : C = l1.toArray := by rw [hC, hl1]; rfl
      rw [← hl1] at R1' j1
      rw [← hC] at i1 one1 z1 HW1 R5 CR
      have HCL := Lib.hid hCl
      have HC := Lib.hid hC
      clear hW1 hc1 D1 R1 htk hfl hft q1 r5 hB hC hl1 hCl HG
      go_wp2_with (first
        | (refine wpList_load_mid rfl 39 (.tmp 18) rfl g1 (o1 + k * 5) rfl l1 _ R1' Try.underlying39 rfl j1.out ?_; rw [← HCL.out])
        | (refine wpList_store_row rfl 39 (.tmp 9) (.tmp 19) rfl wr.heap.size C rfl rfl 39 _ rZ i1.out (by first | exact z1.out | exact z1.out.symm) one1.out ?_; rw [← HW1.out])
        | (refine wpList_load_row rfl 39 (.tmp 9) rfl wr.heap.size rfl 39 _ (0, 0) _ R5.out Try.underlying39 rfl i1.out ?_)
        | fail)
      refine CR.out.mono ?_
      rintro e w2 ⟨rfl, b2⟩
      have HG2 := Lib.hid (HG1.out.keptE (grown_of_below b2 none) (elsewhere_none _ _))
      have HB2 := Lib.hid (Below.trans HB1.out (b2.mono HB1.out.size))
      have R52 := Lib.hid ((b2.block _ (Array.getElem?_eq_some_iff.1 R5.out).1).trans R5.out)
      clear b2 HG1 HB1 R5 CR HW1 rZ R1'
      cases hcx : canRR x with
      | false =>
        have HF : Hid ((L.take (k + 1)).filter canRR = acc) := Lib.hid (by rw [HFT.out, hcx]; simp)
        clear HFT
        go_wp2_with fail
        go_roundw
        case rel => exact ⟨k + 1, by go_num, by omega, (by rw [HF.out]; exact HG2), HB2.out⟩
        case measure => simp [intOf]; omega
      | true =>
        have HF : Hid ((L.take (k + 1)).filter canRR = acc ++ [x]) := Lib.hid (by rw [HFT.out, hcx]; simp)
        have hCl : C = #[.string (bs x.n), .int .i64 x.t, .int .i64 x.c, .int .i64 x.ttl, .slice a1 x.d.length d1] := HC.out
        rw [hCl] at R52 i1
        clear HFT hCl
        go_wp2_with (first
          | (refine wpList_load_row rfl 39 (.tmp 9) rfl wr.heap.size rfl 39 _ (0, 0) _ R52.out Try.underlying39 rfl i1.out ?_)
          | (at_builtin; refine wpList_snocG rfl _ _ rfl w w.heap.size _ acc rfl HG2.out rfl x a1 d1 _ rfl HD1.out HLB.out HB2.out.size ?_)
          | fail)
        intro v' w3 g3 b3
        have HG3 := Lib.hid g3
        have HB3 := Lib.hid (Below.trans HB2.out b3)
        clear g3 b3 HG2 HB2 R52
        go_wp2_with fail
        go_roundw
        case rel => exact ⟨k + 1, by go_num, by omega, (by rw [HF.out]; exact HG3), HB3.out⟩
        case measure => simp [intOf]; omega
    · have hlt' : ¬ (k : Int) < (n : Int) := by omega
      obtain rfl : k = n := by omega
      have hG := HG.out
      rw [HN.out, List.take_length] at hG
      have hfl : (L.filter canRR).length ≤ k := by rw [HN.out]; exact List.length_filter_le _ _
      have hcan : ∀ r ∈ L.filter canRR, canRR r = true := fun r hr => (List.mem_filter.1 hr).2
      obtain ⟨Y, hY⟩ : ∃ Y, Y = L.filter canRR := ⟨_, rfl⟩
      have hgp : groupP rank now L = ((groupsP Y).map (setP rank now)).filter canS := by rw [hY]; rfl
      rw [← hY] at hG hfl hcan
      obtain ⟨A7, c7, rfl, hrs, -, -⟩ := hG.form hB
      have GR := Lib.hid (groups_any A7 Y c7 wr hrs (by omega) (fun r hr => canD_lenR (hcan r hr)))
      have hml : (groupsP Y).length ≤ k := by rw [groups_len]; exact Nat.le_trans (firsts_len Y) hfl
      have hmem := @group_mem Y
      have HB := Lib.hid hB
      have HCAN := Lib.hid hcan
      have HFY := Lib.hid hfl
      have HGP := Lib.hid hgp
      have HMEM := Lib.hid (fun g => @hmem g)
      clear hG hfl hcan hY hgp hrs HG hmem hB
      go_wp2_with fail
      refine GR.out.mono ?_
      rintro e w2 ⟨v2, vs, rfl, o2, G2, b2⟩
      obtain ⟨M, hM⟩ : ∃ M, M = groupsP Y := ⟨_, rfl⟩
      rw [← hM] at o2 G2 hml HMEM HGP
      obtain ⟨m, hm⟩ : ∃ m, m = M.length := ⟨_, rfl⟩
      rw [← hm] at o2 hml
      obtain ⟨A2, c2, rfl, hmc, hcm⟩ := own_form o2
      have hc2 : c2 ≤ 9223372036854775807 := by unfold maxLen at hcm; omega
      have HM := Lib.hid hm
      have H2 := Lib.hid o2
      have HG2 := Lib.hid G2
      have HB2 := Lib.hid (Below.trans HB.out (b2.mono HB.out.size))
      have HBB := Lib.hid b2
      clear GR o2 G2 b2 hm hcm hM
      go_wp2_with fail
      go_loopw [10, 30] (fun v10 v30 ws => ∃ j : Nat, v30 = .int .i64 j ∧ j ≤ m ∧ Hid (OwnS ws w2.heap.size v10 (((M.take j).map (setP rank now)).filter canS)) ∧ Below w2.heap.size w2 ws) (fun _ v30 _ => m - (intOf v30).toNat)
      case atStart => exact ⟨0, rfl, by omega, Lib.hid (OwnS.nil _ _), Below.refl _ _⟩
      case round =>
        obtain ⟨j, rfl, hj, HO, hB2⟩ := hrel
        rename World => ws
        by_cases hlt2 : j < m
        · have hlt2' : (j : Int) < (m : Int) := by omega
          have jM : j < M.length := by have := HM.out; omega
          obtain ⟨vj, hvj, ogj⟩ := HG2.out.get jM
          obtain ⟨hp0, hp1, hp2⟩ := HMEM.out M[j] (List.getElem_mem jM)
          obtain ⟨Aj, cj, rfl, hrsj, -, -⟩ := ogj.form HBB.out
          obtain ⟨g2, rfl⟩ : ∃ g2, A2 = some ⟨g2, 0, none⟩ := by
            rcases H2.out.2 with ⟨_, h0⟩ | ⟨g, cap, cur, h1, _⟩
            · omega
            · injection h1 with h1; exact ⟨g, h1⟩
          have cjc := cell_on ((rowL_cell H2.out hlt2).1.trans hvj) hB2
          have hacc : (((M.take j).map (setP rank now)).filter canS).length ≤ j := Nat.le_trans (List.length_filter_le _ _) (by rw [List.length_map, List.length_take]; omega)
          have htk : M.take (j + 1) = M.take j ++ [M[j]] := List.take_succ_eq_append_getElem jM
          have hnx : ((M.take (j + 1)).map (setP rank now)).filter canS = ((M.take j).map (setP rank now)).filter canS ++ (if canS (setP rank now M[j]) then [setP rank now M[j]] else []) := by rw [htk, List.map_append, List.filter_append]; congr 1; simp [List.filter_cons]
          have hYl : (M[j]).length ≤ 2000000000000 := by have := HFY.out; omega
          have hsz := sizedP (rk := rank) (now := now) (L := Y) hp0 hYl (fun r hr => HCAN.out r (hp2 r hr))
          have SO := Lib.hid (setOf_any Aj M[j] cj rank now ws (hrsj.on hB2) hp0 (by omega) (fun r hr => by have := (canRR_len (HCAN.out r (hp2 r hr))).1; omega))
          generalize ((M.take j).map (setP rank now)).filter canS = acc at *
          generalize setP rank now M[j] = S at *
          obtain ⟨nj, hnj⟩ : ∃ nj, nj = (M[j]).length := ⟨_, rfl⟩
          rw [← hnj] at cjc SO
          have HNX := Lib.hid hnx
          have HSZ := Lib.hid hsz
          have HB3 := Lib.hid hB2
          have HLB : Hid ((acc.length + 1) * 96 ≤ 140737488355328) := Lib.hid (by omega)
          clear hvj ogj hp0 hp1 hp2 hrsj hacc htk hnx hYl hsz hnj hB2
          go_wp2_with fail
          refine SO.out.mono ?_
          rintro e w4 ⟨A4, c4, rfl, ow4, b4⟩
          have HO4 := HO.out.below b4
          have bb4 := Below.trans HB3.out (b4.mono HB3.out.size)
          have ow4' := ow4.mono HB3.out.size
          obtain ⟨D, hD⟩ : ∃ D, D = stC S A4 c4 := ⟨_, rfl⟩
          have I4 : Hid ((Try.prog.info? 29).map (·.size) = some D.size) := Lib.hid (by rw [hD]; exact info_st)
          have O4 : Hid (D.all (·.oneCell') = true) := Lib.hid (by rw [hD]; exact st_one _ _ _)
          have Z4 : Hid ((#[.string ⟨#[]⟩, .int .i64 0, .int .i64 0, .int .i64 0, .int .i64 0, .int .i64 0, .string ⟨#[]⟩, .slice none 0 0] : Array Value).size = D.size) := Lib.hid (by rw [hD]; rfl)
          have rZ4 := row_new (w := w4) (k := w4.heap.size) (.cells #[.string ⟨#[]⟩, .int .i64 0, .int .i64 0, .int .i64 0, .int .i64 0, .int .i64 0, .string ⟨#[]⟩, .slice none 0 0] 29 (0, 0)) rfl
          have r4 := setRow_heap _ _ _ D _ _ rZ4
          have q4 : Below w4.heap.size w4 ((w4.alloc (.cells #[.string ⟨#[]⟩, .int .i64 0, .int .i64 0, .int .i64 0, .int .i64 0, .int .i64 0, .string ⟨#[]⟩, .slice none 0 0] 29)).setRow w4.heap.size D) := Below.setRow (Below.alloc (Below.refl _ _) (Nat.le_refl _) _) (Nat.le_refl _) _
          obtain ⟨W5, hW5⟩ : ∃ W5, W5 = (w4.alloc (.cells #[.string ⟨#[]⟩, .int .i64 0, .int .i64 0, .int .i64 0, .int .i64 0, .int .i64 0, .string ⟨#[]⟩, .slice none 0 0] 29)).setRow w4.heap.size D := ⟨_, rfl⟩
          rw [← hW5] at r4 q4
          have ow5 := ow4'.below q4
          have by5 : Byss W5 A4 S.ds := by
            obtain ⟨A', c', e, h, -⟩ := ow5.byss
            injection e with e1 _ _
            subst e1
            exact h.byss
          have CN := Lib.hid (Can8_any S A4 c4 W5 by5 HSZ.out)
          rw [← hD] at CN
          have HW5 := Lib.hid hW5
          have R4 := Lib.hid r4
          have HO5 := Lib.hid (HO4.below q4)
          have HL5 := Lib.hid ow5
          have HB5 := Lib.hid (Below.trans bb4 (q4.mono bb4.size))
          have HDD := Lib.hid hD
          clear HO SO HO4 bb4 ow4 ow4' b4 hD r4 q4 hW5 ow5 by5
          rw [← HDD.out]
          go_wp2_with (first
            | (refine wpList_store_row rfl 29 (.tmp 13) (.tmp 37) rfl w4.heap.size D rfl rfl 29 _ rZ4 I4.out (by first | exact Z4.out | exact Z4.out.symm) O4.out ?_; rw [← HW5.out])
            | (refine wpList_load_row rfl 29 (.tmp 13) rfl w4.heap.size rfl 29 _ (0, 0) _ R4.out Try.underlying29 rfl I4.out ?_)
            | fail)
          refine CN.out.mono ?_
          rintro e w6 ⟨rfl, b6⟩
          have HO6 := Lib.hid (HO5.out.below b6)
          have HL6 := Lib.hid (HL5.out.below b6)
          have HB6 := Lib.hid (Below.trans HB5.out (b6.mono HB5.out.size))
          have R6 := Lib.hid ((b6.block _ (Array.getElem?_eq_some_iff.1 R4.out).1).trans R4.out)
          clear b6 HO5 HL5 HB5 R4 CN HW5 rZ4
          cases hcs : canS S with
          | false =>
            have HF : Hid (((M.take (j + 1)).map (setP rank now)).filter canS = acc) := Lib.hid (by rw [HNX.out, hcs]; simp)
            clear HNX
            go_wp2_with fail
            go_roundw
            case rel => exact ⟨j + 1, by go_num, by omega, (by rw [HF.out]; exact HO6), HB6.out⟩
            case measure => simp [intOf]; omega
          | true =>
            have HF : Hid (((M.take (j + 1)).map (setP rank now)).filter canS = acc ++ [S]) := Lib.hid (by rw [HNX.out, hcs]; simp)
            have hDl : D = #[.string (bs S.n), .int .i64 S.t, .int .i64 S.c, .int .i64 S.rk, .int .i64 S.kd, .int .i64 S.ex, .string (bs S.z), .slice A4 S.ds.length c4] := HDD.out
            rw [hDl] at R6 I4
            have HBW : Hid (w2.heap.size ≤ w6.heap.size) := Lib.hid HB6.out.size
            clear HNX hDl
            go_wp2_with (first
              | (refine wpList_load_row rfl 29 (.tmp 13) rfl w4.heap.size rfl 29 _ (0, 0) _ R6.out Try.underlying29 rfl I4.out ?_)
              | (at_builtin; refine wpList_snocS rfl _ _ rfl w2.heap.size _ acc rfl HO6.out rfl S A4 c4 _ rfl HL6.out HLB.out HBW.out ?_)
              | fail)
            intro v7 w7 o7 b7
            have HO7 := Lib.hid o7
            have b27 : Below w2.heap.size w2 w7 := Below.trans HB6.out b7
            have HB7 := Lib.hid b27
            clear o7 b7 b27 HO6 HL6 HB6 R6 HBW
            go_wp2_with fail
            go_roundw
            case rel => exact ⟨j + 1, by go_num, by omega, (by rw [HF.out]; exact HO7), HB7.out⟩
            case measure => simp [intOf]; omega
        · have hlt2' : ¬ (j : Int) < (m : Int) := by omega
          obtain rfl : j = m := by omega
          have hO := HO.out
          rw [HM.out, List.take_length, ← HGP.out] at hO
          have HF := Lib.hid (hO.mono HB2.out.size)
          have HBF := Lib.hid (Below.trans HB2.out (hB2.mono HB2.out.size))
          clear HO hO HG2 H2 hB2
          go_wp2_with fail
          go_ret
          exact ⟨_, rfl, HF.out, HBF.out⟩
end Go.Proofs.Ytbeggckkgaoacaa
