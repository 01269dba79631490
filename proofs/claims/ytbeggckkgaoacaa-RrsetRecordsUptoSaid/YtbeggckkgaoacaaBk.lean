/-
  The walk of RrsetBack.
-/
import Derived.Test.YtbeggckkgaoacaaBkA
import Derived.Deep.RegionHeld3
namespace Go.Proofs.Ytbeggckkgaoacaa
open Go.RowKit
set_option linter.unusedVariables false
set_option maxRecDepth 100000

theorem OwnO.rs {w : World} {B : Nat} {A : Option Addr} {n c : Nat} {R : List Rr} (h : OwnO w B (.slice A n c) R) : Rs w A R := fun hn => by
  obtain ⟨g, c0, a0, d0, e0, -, -, -, -⟩ := h.at hn
  injection e0 with e0 e0b e0c
  subst e0
  refine ⟨g, 0, rfl, fun j hj => ?_⟩
  obtain ⟨g1, c1, a1, d1, e1, -, -, hr, ho⟩ := h.at hj
  injection e1 with e1 e1b e1c
  injection e1 with e1
  injection e1 with e1
  subst e1
  obtain ⟨A', c', e, hb, hle, hmx, hnil⟩ := ho.bysT
  injection e with e2 e3 e4
  subst e2 e4
  exact ⟨a1, d1, ⟨hb.1, hle, by unfold maxLen at hmx; omega, hnil⟩, by rw [Nat.zero_add]; exact hr⟩

attribute [local go_sem ↓] exec_loadSt
set_option maxHeartbeats 4000000 in
set_option maxRecDepth 100000 in
theorem RrsetBack_any (A : Option Addr) (L : List Rr) (c : Nat) (now later : Int) (w : World) (hS : Rs w A L) (hk : L.length ≤ c ∧ c ≤ 9223372036854775807) :
    Calls Try.prog 7 #[.slice A L.length c, .int .i64 now, .int .i64 later] w fun e w' => e = .returned (.bool true) ∧ Below w.heap.size w w' := by
  obtain ⟨k1, k2⟩ := hk
  obtain ⟨M, hM⟩ : ∃ M, M = L.take 30 := ⟨_, rfl⟩
  have hMS : Rs w A M := by rw [hM]; exact rs_take hS 30
  obtain ⟨n, hn⟩ : ∃ n, n = L.length := ⟨_, rfl⟩
  obtain ⟨m, hm⟩ : ∃ m, m = M.length := ⟨_, rfl⟩
  have hmn : m = min n 30 := by rw [hm, hM, List.length_take, hn, Nat.min_comm]
  have hmi : (min (n : Int) 30) = (m : Int) := by omega
  rw [← hn] at k1 ⊢
  have m1 : m ≤ 30 := by omega
  have m2 : m ≤ c := by omega
  have HM := Lib.hid hm
  have HS := Lib.hid hMS
  clear hS hM hMS hn hm hmn
  go_enter Try.func7, Try.ntmps7
  go_wp2_with fail
  have hN := rem_of now 1000000 (by omega) (by omega)
  have hG := rem_of later 100000 (by omega) (by omega)
  generalize wrap64 ((IntKind.u64.wrap now).tmod 1000000) = N at *
  generalize IntKind.u64.wrap now = z1 at *
  generalize Int.tmod z1 1000000 = z3 at *
  obtain ⟨n0, n1⟩ := hN
  have HG := Lib.hid (group_any A M c 3 N w HS.out (by rw [← HM.out]; omega))
  rw [← HM.out] at HG
  refine HG.out.mono ?_
  rintro e w2 ⟨v2, rfl, o2, b2⟩
  have hfact := fun s (h : s ∈ groupP 3 N M) => (⟨group_fact h, fun at' (h1 : N ≤ at') (h2 : at' ≤ 1099511541376) (h3 : at' < s.ex) => back_plain h n0 h1 h2 h3⟩ : (_ ∧ _) ∧ (∀ at' : Int, N ≤ at' → at' ≤ 1099511541376 → at' < s.ex → groupP 3 at' (recsP s at') = [s]))
  have hmost := @group_most 3 N M
  rw [← HM.out] at hmost
  obtain ⟨P, hP⟩ : ∃ P, P = groupP 3 N M := ⟨_, rfl⟩
  rw [← hP] at o2 hfact hmost
  obtain ⟨p, hp⟩ : ∃ p, p = P.length := ⟨_, rfl⟩
  rw [← hp] at hmost
  obtain ⟨A2, c2, rfl, hpc, hcm⟩ := o2.form
  rw [← hp] at hpc o2 ⊢
  have hck : clockN N = N := by unfold clockN; omega
  rw [hck] at hfact
  have HF := Lib.hid hfact
  have HP := Lib.hid hp
  have H2 := Lib.hid o2
  have HB2 := Lib.hid b2
  have HGB := Lib.hid hG
  clear HG o2 b2 hfact hp hP HS hG
  go_wp2_with fail
  go_loopw [24] (fun v24 wr => ∃ j : Nat, v24 = .int .i64 j ∧ j ≤ p ∧ Below w2.heap.size w2 wr) (fun v24 _ => p - (intOf v24).toNat)
  case atStart => exact ⟨0, rfl, by omega, Below.refl _ _⟩
  case round =>
    obtain ⟨j, rfl, hj, hB⟩ := hrel
    rename World => wr
    by_cases hlt : j < p
    · have hlt' : (j : Int) < (p : Int) := by omega
      have jP : j < P.length := by have := HP.out; omega
      have ho := H2.out.below hB
      rw [HP.out] at ho
      obtain ⟨g, cc, a, d, e1, -, -, hr, hol⟩ := ho.at jP
      injection e1 with e1 e1b e1c
      subst e1
      clear e1b e1c
      obtain ⟨⟨f1, f2, f3, f4, f5⟩, hback⟩ := HF.out P[j] (List.getElem_mem jP)
      generalize P[j] = s at *
      rw [← HM.out] at f3
      have i1 : Hid ((Try.prog.info? 29).map (·.size) = some (stC s a d).size) := Lib.hid info_st
      have j1 : Hid ((Try.prog.info? 29).map (·.size) = some (stL s a d).length) := Lib.hid info_st
      have one1 := Lib.hid (st_one s a d)
      have z1' : Hid ((stZ).size = (stC s a d).size) := Lib.hid rfl
      have rZ := row_new (w := wr) (k := wr.heap.size) (.cells stZ 29 (0, 0)) rfl
      have r5 := setRow_heap _ _ _ (stC s a d) _ _ rZ
      have q1 : Below wr.heap.size wr ((wr.alloc (.cells stZ 29)).setRow wr.heap.size (stC s a d)) := Below.setRow (Below.alloc (Below.refl _ _) (Nat.le_refl _) _) (Nat.le_refl _) _
      rw [stZ_lit] at rZ r5 q1 z1'
      obtain ⟨W1, hW1⟩ : ∃ W1, W1 = (wr.alloc (.cells #[.string ⟨#[]⟩, .int .i64 0, .int .i64 0, .int .i64 0, .int .i64 0, .int .i64 0, .string ⟨#[]⟩, .slice none 0 0] 29)).setRow wr.heap.size (stC s a d) := ⟨_, rfl⟩
      rw [← hW1] at r5 q1
      have HW1 := Lib.hid hW1
      obtain ⟨-, -, -, -, -, cx5, -, -⟩ := st_cell r5
      obtain ⟨G, hGe⟩ : ∃ G, G = N + wrap64 ((IntKind.u64.wrap later).tmod 100000) := ⟨_, rfl⟩
      have hGb := HGB.out
      have hNG : IntKind.i64.wrap (N + wrap64 ((IntKind.u64.wrap later).tmod 100000)) = G := by rw [hGe]; exact IntWalk.i64_in _ (by omega)
      have g0 : N ≤ G := by omega
      have g1 : G ≤ 1100000 := by omega
      have by1 : Byss W1 a s.ds := by
        obtain ⟨A', c', e, h, -⟩ := (hol.below q1).byss
        injection e with e1 e1b e1c
        subst e1
        exact h.byss
      have RC := Lib.hid (records_any s a d G W1 by1 (by omega) (fun x hx => by have := f4 x hx; omega) (by omega))
      obtain ⟨rl, rt⟩ := @recs_fact s G (by omega) (by omega)
      have hstale : s.ex ≤ G → recsP s G = [] := fun h => recsP_stale (by unfold freshN; rw [show clockN G = G by unfold clockN; omega]; simpa using h)
      have hlive : ¬ s.ex ≤ G → groupP 3 G (recsP s G) = [s] := fun h => hback G g0 (by omega) (by omega)
      have HST := Lib.hid hstale
      have HLV := Lib.hid hlive
      have R5 := Lib.hid r5
      have HBY := Lib.hid by1
      have HBW := Lib.hid (Below.trans hB (q1.mono hB.size))
      have S5 := Lib.hid (show W1.heap[wr.heap.size]? = some (.cells (stC s a d) 29 (0, 0)) from r5)
      obtain ⟨C, hC⟩ : ∃ C, C = stC s a d := ⟨_, rfl⟩
      obtain ⟨l1, hl1⟩ : ∃ l1, l1 = stL s a d := ⟨_, rfl⟩
      have hCl : C = l1.toArray := by rw [hC, hl1]; rfl
      rw [← hl1] at hr j1
      rw [← hC] at i1 one1 z1' HW1 R5 RC
      have HCL := Lib.hid hCl
      have HCC := Lib.hid hC
      clear hW1 r5 q1 hC hl1 hCl hB ho hol f4 by1 rt HF hback hstale hlive hGe hGb HGB
      go_wp2_with (first
        | (refine wpList_load_mid rfl 29 (.tmp 26) rfl g (j * 8) rfl l1 _ hr Try.underlying29 rfl j1.out ?_; rw [← HCL.out])
        | (refine wpList_store_row rfl 29 (.tmp 8) (.tmp 27) rfl wr.heap.size C rfl rfl 29 _ rZ i1.out (by first | exact z1'.out | exact z1'.out.symm) one1.out ?_; rw [← HW1.out])
        | (refine wpList_load_row rfl 29 (.tmp 8) rfl wr.heap.size rfl 29 _ (0, 0) _ R5.out Try.underlying29 rfl i1.out ?_)
        | fail)
      refine RC.out.mono ?_
      rintro e w3 ⟨v3, rfl, o3, b3⟩
      have cx5' := cell_on cx5 b3
      have HB3 := Lib.hid (Below.trans HBW.out (b3.mono HBW.out.size))
      obtain ⟨A3, c3, rfl, hqc, hcq⟩ := o3.form
      by_cases hex : s.ex ≤ G
      · rw [HST.out hex] at o3 hqc ⊢
        clear RC o3 b3 cx5 R5 HW1 HBW rZ hr HLV HST hqc
        generalize s.ex = ex at *
        go_wp2_with fail
        go_roundw
        case rel => exact ⟨j + 1, by go_num, by omega, HB3.out⟩
        case measure => simp [intOf]; omega
      · have GA := Lib.hid (group_any A3 (recsP s G) c3 3 G w3 o3.rs (by omega))
        rw [HLV.out (by omega)] at GA
        obtain ⟨q, hq⟩ : ∃ q, q = (recsP s G).length := ⟨_, rfl⟩
        rw [← hq] at GA hqc ⊢
        have r8 := (b3.block _ (Array.getElem?_eq_some_iff.1 S5.out).1).trans S5.out
        have S8 := Lib.hid r8
        have BY8 := Lib.hid (HBY.out.on b3)
        clear RC o3 b3 cx5 R5 HW1 HBW rZ hr HLV HST hq rl
        have hex' : ¬ s.ex ≤ G := hex
        have HSE : Hid (∀ W : World, W.heap[wr.heap.size]? = some (.cells (stC s a d) 29 (0, 0)) → W.cell? ⟨wr.heap.size, 5, none⟩ = some (.int .i64 s.ex)) := Lib.hid (fun W h => (st_cell h).2.2.2.2.2.1)
        go_wp2_with fail
        refine GA.out.mono ?_
        rintro e w4 ⟨v4, rfl, o4, b4⟩
        obtain ⟨g4, c4, a4, d4, rfl, hc4, hc4m, hr4, hol4⟩ := o4.at (j := 0) (by simp)
        have by4 : Byss w4 a4 s.ds := by
          obtain ⟨A', c', e, h, -⟩ := hol4.byss
          injection e with e1 e1b e1c
          subst e1
          exact h.byss
        have hr4' : w4.rangeAt g4 0 (stL s a4 d4) := by simpa using hr4
        have r9 := (b4.block _ (Array.getElem?_eq_some_iff.1 S8.out).1).trans S8.out
        have by9 := BY8.out.on b4
        have L1 := fun (W : World) (h : Below w4.heap.size w4 W) => loadSt_mid (range_on hr4' h)
        have L2 := fun (W : World) (h : Below w4.heap.size w4 W) => loadSt_row ((h.block _ (Array.getElem?_eq_some_iff.1 r9).1).trans r9) info_st
        have SM := Lib.hid (fun (W : World) (h : Below w4.heap.size w4 W) => dSame_any s s a4 a d4 d W (by4.on h) (by9.on h) (by omega))
        rw [sameS_self] at SM
        have HB4 := Lib.hid (Below.trans HB3.out (b4.mono HB3.out.size))
        have hs4 : Below w4.heap.size w4 w4 := Below.refl _ _
        generalize stC s a4 d4 = C4 at *
        generalize stC s a d = C5 at *
        clear GA o4 b4 hr4 hr4' hol4 by4 by9 r9 r8 S8 BY8 HB3 S5 HBY HSE
        go_wp2_with fail
        go_region_held3 (fun w' => Below w4.heap.size w4 w')
          (first | assumption | exact Below.drew (by assumption) | exact hX9)
          (first
            | (go_at_call 21; (with_reducible refine (SM.out _ (by assumption)).mono ?_); rintro e w9 ⟨rfl, hBx⟩; have hX9 : Below w4.heap.size w4 w9 := (by first | exact Below.trans hs4 hBx | exact Below.trans (Below.drew hs4) (Below.mono hBx (Below.drew hs4).size))))
        have HBF := Lib.hid (Below.trans HB4.out (hX9.mono HB4.out.size))
        clear SM L1 L2 hX9 hBx hs4 HB4
        go_wp2_with fail
        go_roundw
        case rel => exact ⟨j + 1, by go_num, by omega, HBF.out⟩
        case measure => simp [intOf]; omega
    · have hlt' : ¬ (j : Int) < (p : Int) := by omega
      have HBF := Lib.hid (Below.trans HB2.out (hB.mono HB2.out.size))
      have AW := Lib.hid (awake09 wr)
      clear hB H2 HB2 HF HGB
      go_wp2_with fail
      refine AW.out.mono ?_
      rintro e w4 ⟨rfl, b4⟩
      have HBG := Lib.hid (Below.trans HBF.out (b4.mono HBF.out.size))
      clear AW b4 HBF
      go_wp2_with fail
      go_ret
      exact ⟨rfl, HBG.out⟩
end Go.Proofs.Ytbeggckkgaoacaa
