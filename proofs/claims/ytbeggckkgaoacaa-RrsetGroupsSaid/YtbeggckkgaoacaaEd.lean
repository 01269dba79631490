/-
  The walk of RrsetEnds.
-/
import Derived.Test.YtbeggckkgaoacaaGrG
import Derived.Test.YtbeggckkgaoacaaRe
import Derived.Test.YtbeggckkgaoacaaAwR
namespace Go.Proofs.Ytbeggckkgaoacaa
open Go.RowKit
set_option linter.unusedVariables false
set_option maxRecDepth 100000

/-- What is so of a set of grouped records. -/
theorem group_fact {rank now : Int} {M : List Rr} {s : St} (h : s ∈ groupP rank now M) : clockN now ≤ s.ex ∧ s.ex ≤ clockN now + 86400 ∧ s.ds.length ≤ M.length ∧ (∀ d ∈ s.ds, d.length ≤ 65535) ∧ s.kd = 0 := by
  unfold groupP at h
  obtain ⟨h, -⟩ := List.mem_filter.1 h
  obtain ⟨g, hg, rfl⟩ := List.mem_map.1 h
  obtain ⟨h0, h1, h2⟩ := group_mem hg
  have hf := List.length_filter_le canRR M
  match g, h0 with
  | f :: r, _ =>
    have hl := least_bd (f :: r) 86400 (by omega)
    refine ⟨?_, ?_, ?_, fun d hd => ?_, rfl⟩
    · show clockN now ≤ clockN now + leastP 86400 (f :: r); omega
    · show clockN now + leastP 86400 (f :: r) ≤ clockN now + 86400; omega
    · have := order_len ((f :: r).map (·.d))
      rw [List.length_map] at this
      show (orderP ((f :: r).map (·.d))).length ≤ _
      omega
    · have hd : d ∈ orderP ((f :: r).map (·.d)) := hd
      rw [mem_order] at hd
      obtain ⟨q, hq, rfl⟩ := List.mem_map.1 hd
      exact (canRR_len (List.mem_filter.1 (h2 q hq)).2).1
theorem group_most {rank now : Int} {M : List Rr} : (groupP rank now M).length ≤ M.length := by
  unfold groupP
  have h1 := List.length_filter_le canS ((groupsP (M.filter canRR)).map (setP rank now))
  rw [List.length_map, groups_len] at h1
  have h2 := firsts_len (M.filter canRR)
  have h3 := List.length_filter_le canRR M
  omega
theorem rs_take {w : World} {A : Option Addr} {L : List Rr} (h : Rs w A L) (k : Nat) : Rs w A (L.take k) := fun hn => by
  rw [List.length_take] at hn
  obtain ⟨g, off, hA, hc⟩ := h (by omega)
  refine ⟨g, off, hA, fun j hj => ?_⟩
  rw [List.length_take] at hj
  obtain ⟨a, c, h1⟩ := hc j (by omega)
  refine ⟨a, c, ?_⟩
  rw [List.getElem_take]
  exact h1
/-- A set's records now: how many, and their TTLs. -/
theorem recs_fact {s : St} {now : Int} (h0 : 0 ≤ now) (h1 : now ≤ 1099511541376) : (recsP s now).length ≤ s.ds.length ∧ ∀ r ∈ recsP s now, r.ttl = s.ex - now ∧ 1 ≤ r.ttl := by
  have hc : clockN now = now := by unfold clockN; omega
  unfold recsP
  split
  · rename_i h
    refine ⟨by simp, fun r hr => ?_⟩
    obtain ⟨d, -, rfl⟩ := List.mem_map.1 hr
    have hf : now < s.ex := by have := h.2; unfold freshN at this; rw [hc] at this; simpa using this
    rw [hc]
    refine ⟨rfl, ?_⟩
    show 1 ≤ s.ex - now
    omega
  · exact ⟨by simp, fun r hr => by cases hr⟩

theorem rem_of (n : Int) (m : Int) (h1 : 1 ≤ m) (h2 : m ≤ 1000000) : 0 ≤ wrap64 ((IntKind.u64.wrap n).tmod m) ∧ wrap64 ((IntKind.u64.wrap n).tmod m) < m := by
  have h0 : 0 ≤ IntKind.u64.wrap n := by simp only [IntKind.wrap, IntKind.signed, IntKind.bits]; simp; omega
  rw [Int.tmod_eq_emod_of_nonneg h0]
  have := Int.emod_nonneg (IntKind.u64.wrap n) (show m ≠ 0 by omega)
  have := Int.emod_lt_of_pos (IntKind.u64.wrap n) (show 0 < m by omega)
  rw [IntWalk.wrap64_in _ (by omega)]
  omega

set_option maxHeartbeats 4000000 in
set_option maxRecDepth 100000 in
theorem RrsetEnds_any (A : Option Addr) (L : List Rr) (c : Nat) (now gone : Int) (w : World) (hS : Rs w A L) (hk : L.length ≤ c ∧ c ≤ 9223372036854775807) :
    Calls Try.prog 8 #[.slice A L.length c, .int .i64 now, .int .i64 gone] w fun e w' => e = .returned (.bool true) ∧ Below w.heap.size w w' := by
  obtain ⟨k1, k2⟩ := hk
  obtain ⟨M, hM⟩ : ∃ M, M = L.take 30 := ⟨_, rfl⟩
  have hMS : Rs w A M := by rw [hM]; exact rs_take hS 30
  obtain ⟨n, hn⟩ : ∃ n, n = L.length := ⟨_, rfl⟩
  obtain ⟨m, hm⟩ : ∃ m, m = M.length := ⟨_, rfl⟩
  have hmn : m = min n 30 := by rw [hm, hM, List.length_take, hn, Nat.min_comm]
  have hmi : (min (n : Int) 30) = (m : Int) := by omega
  rw [← hn] at k1 ⊢
  have m1 : m ≤ 30 := by omega
  have m2 : m ≤ c := by omega
  have HM := Lib.hid hm
  have HS := Lib.hid hMS
  clear hS hM hMS hn hm hmn
  go_enter Try.func8, Try.ntmps8
  go_wp2_with fail
  have hN := rem_of now 1000000 (by omega) (by omega)
  have hG := rem_of gone 1000 (by omega) (by omega)
  generalize wrap64 ((IntKind.u64.wrap now).tmod 1000000) = N at *
  generalize wrap64 ((IntKind.u64.wrap gone).tmod 1000) = G at *
  generalize IntKind.u64.wrap now = z1 at *
  generalize IntKind.u64.wrap gone = z2 at *
  generalize Int.tmod z1 1000000 = z3 at *
  generalize Int.tmod z2 1000 = z4 at *
  obtain ⟨n0, n1⟩ := hN
  obtain ⟨g0, g1⟩ := hG
  have hNG : IntKind.i64.wrap (N + G) = N + G := IntWalk.i64_in _ (by omega)
  have HG := Lib.hid (group_any A M c 1 N w HS.out (by rw [← HM.out]; omega))
  rw [← HM.out] at HG
  refine HG.out.mono ?_
  rintro e w2 ⟨v2, rfl, o2, b2⟩
  have hfact := fun s (h : s ∈ groupP 1 N M) => group_fact h
  have hmost := @group_most 1 N M
  rw [← HM.out] at hmost
  obtain ⟨P, hP⟩ : ∃ P, P = groupP 1 N M := ⟨_, rfl⟩
  rw [← hP] at o2 hfact hmost
  obtain ⟨p, hp⟩ : ∃ p, p = P.length := ⟨_, rfl⟩
  rw [← hp] at hmost
  obtain ⟨A2, c2, rfl, hpc, hcm⟩ := o2.form
  rw [← hp] at hpc o2 ⊢
  have hck : clockN N = N := by unfold clockN; omega
  rw [hck] at hfact
  have HF := Lib.hid hfact
  have HP := Lib.hid hp
  have H2 := Lib.hid o2
  have HB2 := Lib.hid b2
  clear HG o2 b2 hfact hp hP HS
  go_wp2_with fail
  go_loopw [27] (fun v27 wr => ∃ j : Nat, v27 = .int .i64 j ∧ j ≤ p ∧ Below w2.heap.size w2 wr) (fun v27 _ => p - (intOf v27).toNat)
  case atStart => exact ⟨0, rfl, by omega, Below.refl _ _⟩
  case round =>
    obtain ⟨j, rfl, hj, hB⟩ := hrel
    rename World => wr
    by_cases hlt : j < p
    · have hlt' : (j : Int) < (p : Int) := by omega
      have jP : j < P.length := by have := HP.out; omega
      have ho := H2.out.below hB
      rw [HP.out] at ho
      obtain ⟨g, cc, a, d, e1, -, -, hr, hol⟩ := ho.at jP
      injection e1 with e1 e1b e1c
      subst e1
      clear e1b e1c
      obtain ⟨f1, f2, f3, f4, f5⟩ := HF.out P[j] (List.getElem_mem jP)
      generalize P[j] = s at *
      have f2' : s.ex ≤ N + 86400 := f2
      rw [← HM.out] at f3
      have i1 : Hid ((Try.prog.info? 29).map (·.size) = some (stC s a d).size) := Lib.hid info_st
      have j1 : Hid ((Try.prog.info? 29).map (·.size) = some (stL s a d).length) := Lib.hid info_st
      have one1 := Lib.hid (st_one s a d)
      have z1 : Hid ((stZ).size = (stC s a d).size) := Lib.hid rfl
      have rZ := row_new (w := wr) (k := wr.heap.size) (.cells stZ 29 (0, 0)) rfl
      have r5 := setRow_heap _ _ _ (stC s a d) _ _ rZ
      have q1 : Below wr.heap.size wr ((wr.alloc (.cells stZ 29)).setRow wr.heap.size (stC s a d)) := Below.setRow (Below.alloc (Below.refl _ _) (Nat.le_refl _) _) (Nat.le_refl _) _
      rw [stZ_lit] at rZ r5 q1 z1
      obtain ⟨W1, hW1⟩ : ∃ W1, W1 = (wr.alloc (.cells #[.string ⟨#[]⟩, .int .i64 0, .int .i64 0, .int .i64 0, .int .i64 0, .int .i64 0, .string ⟨#[]⟩, .slice none 0 0] 29)).setRow wr.heap.size (stC s a d) := ⟨_, rfl⟩
      rw [← hW1] at r5 q1
      have HW1 := Lib.hid hW1
      obtain ⟨-, -, -, -, -, cx5, -, -⟩ := st_cell r5
      have by1 : Byss W1 a s.ds := by
        obtain ⟨A', c', e, h, -⟩ := (hol.below q1).byss
        injection e with e1 e1b e1c
        subst e1
        exact h.byss
      have RC := Lib.hid (records_any s a d (N + G) W1 by1 (by omega) (fun x hx => by have := f4 x hx; omega) (by omega))
      obtain ⟨rl, rt⟩ := @recs_fact s (N + G) (by omega) (by omega)
      have HRT := Lib.hid rt
      have R5 := Lib.hid r5
      have HBW := Lib.hid (Below.trans hB (q1.mono hB.size))
      obtain ⟨C, hC⟩ : ∃ C, C = stC s a d := ⟨_, rfl⟩
      obtain ⟨l1, hl1⟩ : ∃ l1, l1 = stL s a d := ⟨_, rfl⟩
      have hCl : C = l1.toArray := by rw [hC, hl1]; rfl
      rw [← hl1] at hr j1
      rw [← hC] at i1 one1 z1 HW1 R5 RC
      have HCL := Lib.hid hCl
      have hx1 : ¬ s.ex < N := by omega
      have hx2 : IntKind.i64.wrap (s.ex - N) = s.ex - N := IntWalk.i64_in _ (by omega)
      have hx3 : ¬ 86400 < s.ex - N := by omega
      generalize s.ex = ex at *
      clear hW1 r5 q1 hC hl1 hCl hB ho hol f4 by1 rt HF
      go_wp2_with (first
        | (refine wpList_load_mid rfl 29 (.tmp 29) rfl g (j * 8) rfl l1 _ hr Try.underlying29 rfl j1.out ?_; rw [← HCL.out])
        | (refine wpList_store_row rfl 29 (.tmp 8) (.tmp 30) rfl wr.heap.size C rfl rfl 29 _ rZ i1.out (by first | exact z1.out | exact z1.out.symm) one1.out ?_; rw [← HW1.out])
        | (refine wpList_load_row rfl 29 (.tmp 8) rfl wr.heap.size rfl 29 _ (0, 0) _ R5.out Try.underlying29 rfl i1.out ?_)
        | fail)
      refine RC.out.mono ?_
      rintro e w3 ⟨v3, rfl, o3, b3⟩
      obtain ⟨R, hR⟩ : ∃ R, R = recsP s (N + G) := ⟨_, rfl⟩
      rw [← hR] at o3 rl HRT
      obtain ⟨q, hq⟩ : ∃ q, q = R.length := ⟨_, rfl⟩
      obtain ⟨A3, c3, rfl, hqc, hcq⟩ := o3.form
      rw [← hq] at o3 hqc rl ⊢
      have cx5' := cell_on cx5 b3
      have HQ := Lib.hid hq
      have H3 := Lib.hid o3
      have HB3 := Lib.hid (Below.trans HBW.out (b3.mono HBW.out.size))
      have hx4 : IntKind.i64.wrap (ex - N - G) = ex - (N + G) := by rw [show ex - N - G = ex - (N + G) by omega]; exact IntWalk.i64_in _ (by omega)
      clear RC o3 b3 hq hR cx5 R5 HW1 HBW rZ hr
      go_wp2_with fail
      go_loopw [48] (fun v48 ws => ∃ k : Nat, v48 = .int .i64 k ∧ k ≤ q ∧ Below w3.heap.size w3 ws) (fun v48 _ => q - (intOf v48).toNat)
      case atStart => exact ⟨0, rfl, by omega, Below.refl _ _⟩
      case round =>
        obtain ⟨k, rfl, hk, hBs⟩ := hrel
        rename World => ws
        by_cases hlt2 : k < q
        · have hlt2' : (k : Int) < (q : Int) := by omega
          have kR : k < R.length := by have := HQ.out; omega
          have ho3 := H3.out.below hBs
          rw [HQ.out] at ho3
          obtain ⟨g3, cc3, a3, d3, e3, -, -, hr3, -⟩ := ho3.at kR
          injection e3 with e3 e3b e3c
          subst e3
          clear e3b e3c
          obtain ⟨t1, t2⟩ := HRT.out R[k] (List.getElem_mem kR)
          generalize R[k] = x at *
          have cx6 := cell_on cx5' hBs
          have i2 : Hid ((Try.prog.info? 39).map (·.size) = some (rrC x a3 d3).size) := Lib.hid info_rr
          have j2 : Hid ((Try.prog.info? 39).map (·.size) = some (rrL x a3 d3).length) := Lib.hid info_rr
          have one2 := Lib.hid (rr_one x a3 d3)
          have z2' : Hid ((rrZ).size = (rrC x a3 d3).size) := Lib.hid rfl
          have rY := row_new (w := ws) (k := ws.heap.size) (.cells rrZ 39 (0, 0)) rfl
          have r6 := setRow_heap _ _ _ (rrC x a3 d3) _ _ rY
          have q2 : Below ws.heap.size ws ((ws.alloc (.cells rrZ 39)).setRow ws.heap.size (rrC x a3 d3)) := Below.setRow (Below.alloc (Below.refl _ _) (Nat.le_refl _) _) (Nat.le_refl _) _
          rw [rrZ_lit] at rY r6 q2 z2'
          obtain ⟨W4, hW4⟩ : ∃ W4, W4 = (ws.alloc (.cells #[.string ⟨#[]⟩, .int .i64 0, .int .i64 0, .int .i64 0, .slice none 0 0] 39)).setRow ws.heap.size (rrC x a3 d3) := ⟨_, rfl⟩
          rw [← hW4] at r6 q2
          have HW4 := Lib.hid hW4
          obtain ⟨-, -, -, cy3, -⟩ := rr_cell r6
          have cx7 := cell_on cx6 q2
          have HB4 := Lib.hid (Below.trans hBs (q2.mono hBs.size))
          obtain ⟨D, hD⟩ : ∃ D, D = rrC x a3 d3 := ⟨_, rfl⟩
          obtain ⟨l3, hl3⟩ : ∃ l3, l3 = rrL x a3 d3 := ⟨_, rfl⟩
          have hDl : D = l3.toArray := by rw [hD, hl3]; rfl
          rw [← hl3] at hr3 j2
          rw [← hD] at i2 one2 z2' HW4
          have HDL := Lib.hid hDl
          generalize x.ttl = tt at *
          have t3 : ¬ tt < 1 := by omega
          subst t1
          clear hW4 r6 q2 hD hl3 hDl hBs ho3 cx6 H3
          go_wp2_with (first
            | (refine wpList_load_mid rfl 39 (.tmp 50) rfl g3 (k * 5) rfl l3 _ hr3 Try.underlying39 rfl j2.out ?_; rw [← HDL.out])
            | (refine wpList_store_row rfl 39 (.tmp 10) (.tmp 51) rfl ws.heap.size D rfl rfl 39 _ rY i2.out (by first | exact z2'.out | exact z2'.out.symm) one2.out ?_; rw [← HW4.out])
            | fail)
          go_roundw
          case rel => exact ⟨k + 1, by go_num, by omega, HB4.out⟩
          case measure => simp [intOf]; omega
        · have hlt2' : ¬ (k : Int) < (q : Int) := by omega
          have HBF := Lib.hid (Below.trans HB3.out (hBs.mono HB3.out.size))
          clear hBs H3 HB3 HRT cx5'
          go_wp2_with fail
          go_roundw
          case rel => exact ⟨j + 1, by go_num, by omega, HBF.out⟩
          case measure => simp [intOf]; omega
    · have hlt' : ¬ (j : Int) < (p : Int) := by omega
      have HBF := Lib.hid (Below.trans HB2.out (hB.mono HB2.out.size))
      have AW := Lib.hid (awake09 wr)
      clear hB H2 HB2 HF hNG
      go_wp2_with fail
      refine AW.out.mono ?_
      rintro e w4 ⟨rfl, b4⟩
      have HBG := Lib.hid (Below.trans HBF.out (b4.mono HBF.out.size))
      clear AW b4 HBF
      go_wp2_with fail
      go_ret
      exact ⟨rfl, HBG.out⟩
end Go.Proofs.Ytbeggckkgaoacaa
