/-
  wire.Can: the walk.
-/
import Derived.Test.YtknpkifhkefikaaDoorWrJ
import Derived.Deep.RegionLaw
namespace Go.Proofs.YtknpkifhkefikaaDoor
open Go.RowKit Go.Maps
set_option linter.unusedVariables false
set_option maxRecDepth 100000
attribute [local go_sem ↓] exec_loadMg exec_loadHd

set_option maxHeartbeats 4000000 in
set_option maxRecDepth 100000 in
theorem CanM_any (m : Msg) (v : MV) (w : World) (hM : Ms w m v) (hk : Masks w) : Calls Tryd.prog 12 #[.agg (msL m v).toArray] w fun e w' => e = .returned (.bool (canM m)) ∧ Below w.heap.size w w' := by
  have X0 := BM.start w m v hk
  obtain ⟨C, hC⟩ : ∃ C, C = (msL m v).toArray := ⟨_, rfl⟩
  have hCs : (Tryd.prog.info? 27).map (·.size) = some C.size := by rw [hC]; exact info_ms
  have K1 := Lib.hid (fun W (h : BM w m v W) => by have := counts_any m v W; rw [← hC] at this; exact this)
  have K2 := Lib.hid (fun W (h : BM w m v W) => HEnc_any m.h m.q.length m.an.length m.au.length m.ad.length W h.k)
  have F1 : ∀ W, BM w m v W → loadHd (.pointer (some ⟨w.heap.size, 0, none⟩)) W = .ok (.value (.agg (hdC m.h))) W := fun W h => ms_head h.r
  have F2 : ∀ W, BM w m v W → loadMg (.pointer (some ⟨w.heap.size, 0, none⟩)) W = .ok (.value (.agg C)) W := fun W h => loadMg_row (by rw [hC]; exact h.r) hCs
  have hcm : canM m = (canHd m.h m.q.length m.an.length m.au.length m.ad.length && (m.q.all canQ && m.rs.all canR)) := rfl
  obtain ⟨ch, hch⟩ : ∃ b, b = canHd m.h m.q.length m.an.length m.au.length m.ad.length := ⟨_, rfl⟩
  obtain ⟨R, hR⟩ : ∃ R, R = canM m := ⟨_, rfl⟩
  rw [← hR, ← hch] at hcm
  rw [← hch] at K2
  obtain ⟨hcd, hhc⟩ : ∃ z, z = hdC m.h := ⟨_, rfl⟩
  rw [← hhc] at K2 F1
  have K5 := Lib.hid (sections_any m v)
  have HIX := Lib.hid (secs_ix m v)
  have HRS := Lib.hid (fun W (h : BM w m v W) => secs_rs (hM.on h.b))
  have HSA := Lib.hid (secs_all m v canR)
  obtain ⟨aq, haq⟩ : ∃ a, a = v.aq := ⟨_, rfl⟩
  have HQS := Lib.hid (fun W (h : BM w m v W) => by have := hM.q.on h.b; rw [← haq] at this; exact this)
  have hql := hM.lq
  obtain ⟨nq, hnq⟩ : ∃ n, n = m.q.length := ⟨_, rfl⟩
  have HCQ : Hid (∀ W, BM w m v W → W.cell? ⟨w.heap.size, 8, none⟩ = some (.slice aq nq v.cq)) := Lib.hid (fun W h => by rw [hnq, haq]; exact (ms_cell h.r).1)
  have HNQ := Lib.hid hnq
  rw [← hC] at K5
  rw [← hR, ← hC]
  have HCM := Lib.hid hcm
  rw [← hC] at X0
  have hX := X0
  have HC := Lib.hid hC
  clear hM hk hhc hR hcm hch hnq hC hCs haq
  go_enter Tryd.func12, Tryd.ntmps12
  go_wp2_with fail
  have hXd := X0.drew
  go_region_law ((first
    | (go_simp; go_at_call 29; (with_reducible refine (K1.out _ (by assumption)).mono ?_); rintro e w' ⟨rfl, hBx⟩; have hX2 := BM.on (by assumption) hBx)
    | (go_simp; go_at_call 28; (with_reducible refine (K2.out _ (by assumption)).mono ?_); rintro e w' ⟨vh, kh, rfl, hBx, hno, hyes⟩; have hX2 := BM.on (by assumption) hBx)))
  all_goals
    have hXE : BM w m v w' := by assumption
    have HXE := Lib.hid hXE
    have HNO := Lib.hid hno
    have HYES := Lib.hid hyes
    clear hno hyes hX hXd X0 F1 K1 K2 hBx hX2
    cases ch with
    | false =>
      obtain ⟨rfl, rfl⟩ := HNO.out rfl
      have HR : Hid (R = false) := Lib.hid (by rw [HCM.out]; rfl)
      clear HNO HYES
      go_wp2_with fail
      go_ret
      exact ⟨by rw [HR.out]; rfl, HXE.out.b⟩
    | true =>
      obtain ⟨rfl, -, -⟩ := HYES.out rfl
      have HT0 : Hid (R = ((m.q.drop 0).all canQ && m.rs.all canR)) := Lib.hid (by rw [HCM.out]; rfl)
      have c8 := HCQ.out _ HXE.out
      clear HNO HYES HCM hXE
      go_wp2_with fail
      go_loopw [24] (fun v24 wr => ∃ i : Nat, v24 = .int .i64 i ∧ i ≤ nq ∧ Hid (BM w m v wr) ∧ Hid (R = ((m.q.drop i).all canQ && m.rs.all canR))) (fun v24 _ => nq - (intOf v24).toNat)
      case atStart => exact ⟨0, rfl, by omega, HXE, HT0⟩
      case round =>
        obtain ⟨i, rfl, hi, HB, HT⟩ := hrel
        rename World => wr
        by_cases hlt : i < nq
        · have hlt' : (i : Int) < (nq : Int) := by omega
          have hiq : i < m.q.length := by rw [← HNQ.out]; exact hlt
          obtain ⟨gq, oq, hAq, hcq⟩ := HQS.out _ HB.out (by omega)
          have hr := hcq i hiq
          have ht := HT.out
          rw [all_at hiq] at ht
          generalize m.q[i] = q at *
          obtain ⟨r8, q8⟩ := box_row wr quZ (quL q) 44
          obtain ⟨W1, hW1⟩ : ∃ W1, W1 = (wr.alloc (.cells #[.string ⟨#[]⟩, .int .i64 0, .int .i64 0] 44)).setRow wr.heap.size (quL q).toArray := ⟨_, rfl⟩
          have rZ := row_new (w := wr) (k := wr.heap.size) (.cells #[.string ⟨#[]⟩, .int .i64 0, .int .i64 0] 44 (0, 0)) rfl
          have e8 : (wr.alloc (.cells quZ 44)).setRow wr.heap.size (quL q).toArray = W1 := hW1.symm
          rw [e8] at r8 q8
          have HB1 := Lib.hid (HB.out.on q8)
          have d0 := cell_of_row _ _ 0 _ _ _ r8
          have d1 := cell_of_row _ _ 1 _ _ _ r8
          have d2 := cell_of_row _ _ 2 _ _ _ r8
          simp only [quL, List.getElem?_toArray, List.getElem?_cons_zero, List.getElem?_cons_succ] at d0 d1 d2
          have i1 : Hid ((Tryd.prog.info? 44).map (·.size) = some (quL q).toArray.size) := Lib.hid info_qu
          have j1 : Hid ((Tryd.prog.info? 44).map (·.size) = some (quL q).length) := Lib.hid info_qu
          have z1 : Hid ((#[.string ⟨#[]⟩, .int .i64 0, .int .i64 0] : Array Value).size = (quL q).toArray.size) := Lib.hid rfl
          have one1 : Hid ((quL q).toArray.all (·.oneCell') = true) := Lib.hid (qu_one q)
          have CB := Lib.hid (canBegin_any q.n q.t q.c W1)
          rw [canB_q] at CB
          have HW1 := Lib.hid hW1
          have HTT := Lib.hid ht
          clear hcq ht HT hW1 e8 r8 q8
          subst hAq
          generalize hl1 : quL q = l1 at *
          go_wp2_with (first
            | (refine wpList_load_mid rfl 44 (.tmp 26) rfl gq (oq + i * 3) rfl l1 _ hr Tryd.underlying44 rfl j1.out ?_)
            | (refine wpList_store_row rfl 44 (.tmp 6) (.tmp 27) rfl wr.heap.size l1.toArray rfl rfl 44 _ rZ i1.out (by first | exact z1.out | exact z1.out.symm) one1.out ?_; rw [← HW1.out])
            | fail)
          refine CB.out.mono ?_
          rintro e w3 ⟨rfl, b3⟩
          have HB3 := Lib.hid (HB1.out.on b3)
          cases hv : canQ q with
          | false =>
            have HRF : Hid (R = false) := Lib.hid (by rw [HTT.out, hv]; rfl)
            clear CB HTT hv HB1 b3
            go_wp2_with fail
            go_ret
            exact ⟨by rw [HRF.out]; rfl, HB3.out.b⟩
          | true =>
            have HT2 : Hid (R = ((m.q.drop (i + 1)).all canQ && m.rs.all canR)) := Lib.hid (by rw [HTT.out, hv]; rfl)
            clear CB HTT hv HB1 b3
            go_wp2_with fail
            go_roundw
            case rel => exact ⟨i + 1, by go_num, by omega, HB3, HT2⟩
            case measure => simp [intOf]; omega
        · have hlt' : ¬ (i : Int) < (nq : Int) := by omega
          have HT2 : Hid (R = ((secs m v).drop 0).all (fun s => s.l.all canR)) := Lib.hid (by rw [HT.out, all_end (by rw [← HNQ.out]; omega), Bool.true_and, HSA.out]; rfl)
          have fm := F2 wr HB.out
          clear HT HQS F2
          go_wp2_with fail
          refine (K5.out _).mono ?_
          rintro e w5 ⟨rfl, b5⟩
          have HB5 := Lib.hid (HB.out.on b5)
          clear b5 fm K5 c8
          go_wp2_with fail
          go_loopw [39] (fun v39 wr2 => ∃ j : Nat, v39 = .int .i64 j ∧ j ≤ 3 ∧ Hid (BM w m v wr2) ∧ Hid (R = ((secs m v).drop j).all (fun s => s.l.all canR))) (fun v39 _ => 3 - (intOf v39).toNat)
          case atStart => exact ⟨0, rfl, by omega, HB5, HT2⟩
          case round =>
            clear HB5 HT2
            obtain ⟨j, rfl, hj, HBj, HTj⟩ := hrel
            rename World => wr2
            by_cases hj3 : j < 3
            · have hj3' : (j : Int) < 3 := by omega
              have ix := HIX.out j hj3
              have hjs : j < (secs m v).length := by simpa [secs] using hj3
              have htj := HTj.out
              rw [all_at hjs] at htj
              have HRJ := Lib.hid (fun W (h : BM w m v W) => HRS.out W h j hj3)
              obtain ⟨S, hS⟩ : ∃ S, S = (secs m v)[j] := ⟨_, rfl⟩
              rw [← hS] at htj HRJ
              simp only [← hS] at ix
              obtain ⟨sl, sA, sc⟩ := S
              simp only at htj HRJ
              obtain ⟨ns, hns⟩ : ∃ n, n = sl.length := ⟨_, rfl⟩
              have HNS := Lib.hid hns
              have ix2 : ∀ W : World, (Instr.index 69 (.agg #[.slice v.a1 m.an.length v.c1, .slice v.a2 m.au.length v.c2, .slice v.a3 m.ad.length v.c3]) (.int .i64 (j : Int))).run Tryd.prog W = .ok (.slice sA ns sc) W := fun W => by rw [hns]; exact ix W
              have HTK : Hid (R = ((sl.drop 0).all canR && ((secs m v).drop (j + 1)).all (fun s => s.l.all canR))) := Lib.hid htj
              have hlim := (HRJ.out _ HBj.out).2
              rw [← hns] at hlim
              clear ix hS htj hns
              go_wp2_with fail
              go_loopw [44] (fun v44 wr3 => ∃ k : Nat, v44 = .int .i64 k ∧ k ≤ ns ∧ Hid (BM w m v wr3) ∧ Hid (R = ((sl.drop k).all canR && ((secs m v).drop (j + 1)).all (fun s => s.l.all canR)))) (fun v44 _ => ns - (intOf v44).toNat)
              case atStart => exact ⟨0, rfl, by omega, HBj, HTK⟩
              case round =>
                clear HTK
                obtain ⟨k, rfl, hk, HBk, HTk⟩ := hrel
                rename World => wr3
                by_cases hlk : k < ns
                · have hlk' : (k : Int) < (ns : Int) := by omega
                  have hks : k < sl.length := by rw [← HNS.out]; exact hlk
                  obtain ⟨gr, orr, hAr, hcr⟩ := (HRJ.out _ HBk.out).1 (by omega)
                  obtain ⟨ra, rc, D1, R1⟩ := hcr k hks
                  have htk := HTk.out
                  rw [all_at hks] at htk
                  generalize sl[k] = r at *
                  obtain ⟨r8, q8⟩ := box_row wr3 #[.string ⟨#[]⟩, .int .i64 0, .int .i64 0, .int .i64 0, .slice none 0 0] (rrL r ra rc) 72
                  obtain ⟨W1, hW1⟩ : ∃ W1, W1 = (wr3.alloc (.cells #[.string ⟨#[]⟩, .int .i64 0, .int .i64 0, .int .i64 0, .slice none 0 0] 72)).setRow wr3.heap.size (rrL r ra rc).toArray := ⟨_, rfl⟩
                  have rZ := row_new (w := wr3) (k := wr3.heap.size) (.cells #[.string ⟨#[]⟩, .int .i64 0, .int .i64 0, .int .i64 0, .slice none 0 0] 72 (0, 0)) rfl
                  rw [← hW1] at r8 q8
                  have HB1 := Lib.hid (HBk.out.on q8)
                  obtain ⟨nd, hnd⟩ : ∃ n, n = r.d.length := ⟨_, rfl⟩
                  have d0 := cell_of_row _ _ 0 _ _ _ r8
                  have d1 := cell_of_row _ _ 1 _ _ _ r8
                  have d2 := cell_of_row _ _ 2 _ _ _ r8
                  have d3 := cell_of_row _ _ 3 _ _ _ r8
                  have d4 := cell_of_row _ _ 4 _ _ _ r8
                  simp only [rrL, ← hnd, List.getElem?_toArray, List.getElem?_cons_zero, List.getElem?_cons_succ] at d0 d1 d2 d3 d4
                  have i1 : Hid ((Tryd.prog.info? 72).map (·.size) = some (rrL r ra rc).toArray.size) := Lib.hid info_rr
                  have j1 : Hid ((Tryd.prog.info? 72).map (·.size) = some (rrL r ra rc).length) := Lib.hid info_rr
                  have z1 : Hid ((#[.string ⟨#[]⟩, .int .i64 0, .int .i64 0, .int .i64 0, .slice none 0 0] : Array Value).size = (rrL r ra rc).toArray.size) := Lib.hid rfl
                  have one1 : Hid ((rrL r ra rc).toArray.all (·.oneCell') = true) := Lib.hid (rr_one r ra rc)
                  have CB := Lib.hid (canBegin_any r.n r.t r.c W1)
                  have CD := Lib.hid (fun W (h : Below wr3.heap.size wr3 W) => by have := dCan_any r.t ra r.d rc W (D1.bys.on h) D1.le D1.max; rw [← hnd] at this; exact this)
                  have HW1 := Lib.hid hW1
                  have HTT := Lib.hid htk
                  have HQ8 := Lib.hid q8
                  clear hcr htk HTk hW1 r8 q8 hnd D1
                  subst hAr
                  generalize hl1 : rrL r ra rc = l1 at *
                  have rE := canR_eq r
                  go_wp2_with (first
                    | (refine wpList_load_mid rfl 72 (.tmp 46) rfl gr (orr + k * 5) rfl l1 _ R1 Tryd.underlying72 rfl j1.out ?_)
                    | (refine wpList_store_row rfl 72 (.tmp 10) (.tmp 47) rfl wr3.heap.size l1.toArray rfl rfl 72 _ rZ i1.out (by first | exact z1.out | exact z1.out.symm) one1.out ?_; rw [← HW1.out])
                    | fail)
                  refine CB.out.mono ?_
                  rintro e w6 ⟨rfl, b6⟩
                  have HB6 := Lib.hid (HB1.out.on b6)
                  have f1 := cell_on d1 b6
                  have f3 := cell_on d3 b6
                  have f4 := cell_on d4 b6
                  have HQ6 := Lib.hid (Below.trans HQ8.out (b6.mono HQ8.out.size))
                  clear d0 d1 d2 d3 d4 CB HB1 b6 R1 rZ
                  have HRE := Lib.hid rE
                  clear rE
                  cases hb : canB r.n r.t r.c with
                  | false =>
                    have HRF : Hid (R = false) := Lib.hid (by rw [HTT.out, HRE.out, hb]; rfl)
                    clear HTT HRE hb CD
                    go_wp2_with fail
                    go_ret
                    exact ⟨by rw [HRF.out]; rfl, HB6.out.b⟩
                  | true =>
                    by_cases h0 : 0 ≤ r.ttl
                    · by_cases h1 : r.ttl ≤ 4294967295
                      · have h0' : ¬ r.ttl < 0 := by omega
                        have h1' : ¬ 4294967295 < r.ttl := by omega
                        have HRE2 : Hid (canR r = canD r.t r.d) := Lib.hid (by rw [HRE.out, hb, decide_eq_true h0, decide_eq_true h1]; rfl)
                        clear HRE hb h0 h1
                        go_wp2_with fail
                        refine (CD.out _ HQ6.out).mono ?_
                        rintro e w7 ⟨rfl, b7⟩
                        have HB7 := Lib.hid (HB6.out.on b7)
                        clear b7 f1 f3 f4 CD
                        cases hd : canD r.t r.d with
                        | false =>
                          have HRF : Hid (R = false) := Lib.hid (by rw [HTT.out, HRE2.out, hd]; rfl)
                          clear HTT HRE2 hd
                          go_wp2_with fail
                          go_ret
                          exact ⟨by rw [HRF.out]; rfl, HB7.out.b⟩
                        | true =>
                          have HT2 : Hid (R = ((sl.drop (k + 1)).all canR && ((secs m v).drop (j + 1)).all (fun s => s.l.all canR))) := Lib.hid (by rw [HTT.out, HRE2.out, hd]; rfl)
                          clear HTT HRE2 hd
                          go_wp2_with fail
                          go_roundw
                          case rel => exact ⟨k + 1, by go_num, by omega, HB7, HT2⟩
                          case measure => simp [intOf]; omega
                      · have h0' : ¬ r.ttl < 0 := by omega
                        have h1' : 4294967295 < r.ttl := by omega
                        have HRF : Hid (R = false) := Lib.hid (by rw [HTT.out, HRE.out, hb, decide_eq_true h0, decide_eq_false h1]; rfl)
                        clear HTT HRE hb CD h0 h1
                        go_wp2_with fail
                        go_ret
                        exact ⟨by rw [HRF.out]; rfl, HB6.out.b⟩
                    · have h0' : r.ttl < 0 := by omega
                      have HRF : Hid (R = false) := Lib.hid (by rw [HTT.out, HRE.out, hb, decide_eq_false h0]; rfl)
                      clear HTT HRE hb CD h0
                      go_wp2_with fail
                      go_ret
                      exact ⟨by rw [HRF.out]; rfl, HB6.out.b⟩
                · have hlk' : ¬ (k : Int) < (ns : Int) := by omega
                  have HT2 : Hid (R = ((secs m v).drop (j + 1)).all (fun s => s.l.all canR)) := Lib.hid (by rw [HTk.out, all_end (by rw [← HNS.out]; omega), Bool.true_and])
                  clear HTk
                  go_wp2_with fail
                  go_roundw
                  case rel => exact ⟨j + 1, by go_num, by omega, HBk, HT2⟩
                  case measure => simp [intOf]; omega
            · have hj3' : ¬ (j : Int) < 3 := by omega
              have HRT : Hid (R = true) := Lib.hid (by rw [HTj.out, all_end (by simp [secs]; omega)])
              clear HTj
              go_wp2_with fail
              go_ret
              exact ⟨by rw [HRT.out]; rfl, HBj.out.b⟩
end Go.Proofs.YtknpkifhkefikaaDoor
