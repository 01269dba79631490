/-
  The document's Can for a message.
-/
import Derived.Test.YtknpkifhkefikaaDoorWdG
import Derived.Test.YtknpkifhkefikaaDoorWc
import Derived.Test.YtknpkifhkefikaaDoorWf
import Derived.Deep.RegionLaw
import Derived.Deep.CutBlock
import Derived.Deep.DeepCutAuto
namespace Go.Proofs.YtknpkifhkefikaaDoor
open Go.RowKit Go.Maps
set_option linter.unusedVariables false
set_option maxRecDepth 100000
attribute [local go_sem ↓] exec_loadMg exec_loadHd

def shI (n : Int) : Bool := decide (0 ≤ n) && decide (n ≤ 65535)
theorem dshort_any (n : Int) (w : World) : Calls Tryd.prog 44 #[.int .i64 n] w fun e w' => e = .returned (.bool (shI n)) ∧ w = w' := by
  by_cases h : 0 ≤ n
  · go_enter Tryd.func44, Tryd.ntmps44
    go_wp2
    go_ret
    exact ⟨by simp [shI, h], rfl⟩
  · go_enter Tryd.func44, Tryd.ntmps44
    go_wp2
    go_ret
    exact ⟨by simp [shI]; omega, rfl⟩
theorem canQ_sh (q : Qu) : canQ q = (can q.n && (shI q.t && shI q.c)) := by
  unfold canQ shI
  simp only [Bool.and_assoc]
theorem canR_sh (r : Rr) : canR r = (can r.n && (shI r.t && (shI r.c && (decide (0 ≤ r.ttl) && (decide (r.ttl ≤ 4294967295) && canD r.t r.d))))) := by
  unfold canR shI
  simp only [Bool.and_assoc]
set_option maxHeartbeats 4000000 in
set_option maxRecDepth 100000 in
theorem dCanM_any (m : Msg) (v : MV) (w : World) (hM : Ms w m v) (hk : Masks w) : Calls Tryd.prog 13 #[.agg (msL m v).toArray] w fun e w' => e = .returned (.bool (canM m)) ∧ Below w.heap.size w w' := by
  have X0 := BM.start w m v hk
  obtain ⟨C, hC⟩ : ∃ C, C = (msL m v).toArray := ⟨_, rfl⟩
  have hCs : (Tryd.prog.info? 27).map (·.size) = some C.size := by rw [hC]; exact info_ms
  have K1 := Lib.hid (fun W (h : BM w m v W) => by have := dcounts_any m v W; rw [← hC] at this; exact this)
  have K2 := Lib.hid (fun W (h : BM w m v W) => hCan_any m.h.i m.h.o m.h.c m.q.length m.an.length m.au.length m.ad.length m.h.r m.h.aa m.h.tc m.h.rd m.h.ra W)
  have F1 : ∀ W, BM w m v W → loadHd (.pointer (some ⟨w.heap.size, 0, none⟩)) W = .ok (.value (.agg (hdC m.h))) W := fun W h => ms_head h.r
  have F2 : ∀ W, BM w m v W → loadMg (.pointer (some ⟨w.heap.size, 0, none⟩)) W = .ok (.value (.agg C)) W := fun W h => loadMg_row (by rw [hC]; exact h.r) hCs
  have hcm : canM m = (canHd m.h m.q.length m.an.length m.au.length m.ad.length && (m.q.all canQ && m.rs.all canR)) := rfl
  obtain ⟨ch, hch⟩ : ∃ b, b = canHd m.h m.q.length m.an.length m.au.length m.ad.length := ⟨_, rfl⟩
  have hlen : ch = true → m.an.length ≤ 65535 ∧ m.au.length ≤ 65535 ∧ m.ad.length ≤ 65535 := fun h => by
    obtain ⟨b0, b1, b2, b3, bI, bO, bC⟩ := canH_out (hch.symm.trans h)
    omega
  have HLEN := Lib.hid hlen
  obtain ⟨R, hR⟩ : ∃ R, R = canM m := ⟨_, rfl⟩
  rw [← hR, ← hch] at hcm
  have hch2 : canH m.h.i m.h.o m.h.c m.q.length m.an.length m.au.length m.ad.length = ch := hch.symm
  rw [hch2] at K2
  have hhd : hdV m.h.i m.h.r m.h.o m.h.aa m.h.tc m.h.rd m.h.ra m.h.c = .agg (hdC m.h) := rfl
  rw [hhd] at K2
  obtain ⟨hcd, hhc⟩ : ∃ z, z = hdC m.h := ⟨_, rfl⟩
  rw [← hhc] at K2 F1
  have K5 := Lib.hid (fun W (h : BM w m v W) (hc : ch = true) => by have := dall_any m v w W h.b hM (HLEN.out hc).1 (HLEN.out hc).2.1 (HLEN.out hc).2.2; rw [← hC] at this; exact this)
  obtain ⟨aq, haq⟩ : ∃ a, a = v.aq := ⟨_, rfl⟩
  have HQS := Lib.hid (fun W (h : BM w m v W) => by have := hM.q.on h.b; rw [← haq] at this; exact this)
  have hql := hM.lq
  obtain ⟨nq, hnq⟩ : ∃ n, n = m.q.length := ⟨_, rfl⟩
  have HCQ : Hid (∀ W, BM w m v W → W.cell? ⟨w.heap.size, 8, none⟩ = some (.slice aq nq v.cq)) := Lib.hid (fun W h => by rw [hnq, haq]; exact (ms_cell h.r).1)
  have HNQ := Lib.hid hnq
  rw [← hR, ← hC]
  have HCM := Lib.hid hcm
  rw [← hC] at X0
  have hX := X0
  have HC := Lib.hid hC
  clear hM hk hhc hR hcm hch hch2 hhd hlen hnq hC hCs haq
  go_enter Tryd.func13, Tryd.ntmps13
  go_upto_region 1 with fail
  go_cut [12] (fun s12 wx => ∃ nb : Bool, s12 = .bool nb ∧ Hid (nb = !ch) ∧ Hid (BM w m v wx))
  case first =>
    have hXd := X0.drew
    go_region_law ((first
      | (go_simp; go_at_call 35; (with_reducible refine (K1.out _ (by assumption)).mono ?_); rintro e w' ⟨rfl, hBx⟩; have hX2 := BM.on (by assumption) hBx)
      | (go_simp; go_at_call 42; (with_reducible refine (K2.out _ (by assumption)).mono ?_); rintro e w' ⟨rfl, hBx⟩; have hX2 := BM.on (by assumption) hBx)))
    all_goals
      have hXE : BM w m v w' := by assumption
      have HXE := Lib.hid hXE
      have HNB : ∀ b, b = !ch → Hid (b = !ch) := fun _ h => Lib.hid h
      clear hX hXd X0 F1 F2 K1 K2 hBx hX2 hXE
      go_wp2_with fail
      go_meet
      exact ⟨_, rfl, HNB _ rfl, HXE⟩
  case rest =>
    obtain ⟨nb, rfl, HNB, HXE⟩ := hcut
    have hnb := HNB.out
    clear HNB
    clear hX X0 F1 K1 K2
    cases ch with
    | false =>
      obtain rfl : nb = true := hnb
      have HR : Hid (R = false) := Lib.hid (by rw [HCM.out]; rfl)
      go_wp2_with fail
      go_ret
      exact ⟨by rw [HR.out]; rfl, HXE.out.b⟩
    | true =>
      obtain rfl : nb = false := hnb
      have HT0 : Hid (R = ((m.q.drop 0).all canQ && m.rs.all canR)) := Lib.hid (by rw [HCM.out]; rfl)
      have c8 := HCQ.out _ HXE.out
      clear HCM
      go_wp2_with fail
      go_loopw [16] (fun v16 wr => ∃ i : Nat, v16 = .int .i64 i ∧ i ≤ nq ∧ Hid (BM w m v wr) ∧ Hid (R = ((m.q.drop i).all canQ && m.rs.all canR))) (fun v16 _ => nq - (intOf v16).toNat)
      case atStart => exact ⟨0, rfl, by omega, HXE, HT0⟩
      case round =>
        obtain ⟨i, rfl, hi, HB, HT⟩ := hrel
        rename World => wr
        by_cases hlt : i < nq
        · have hlt' : (i : Int) < (nq : Int) := by omega
          have hiq : i < m.q.length := by rw [← HNQ.out]; exact hlt
          obtain ⟨gq, oq, hAq, hcq⟩ := HQS.out _ HB.out (by omega)
          have hr := hcq i hiq
          have ht := HT.out
          rw [all_at hiq, canQ_sh] at ht
          generalize m.q[i] = q at *
          obtain ⟨r8, q8⟩ := box_row wr quZ (quL q) 44
          obtain ⟨W1, hW1⟩ : ∃ W1, W1 = (wr.alloc (.cells #[.string ⟨#[]⟩, .int .i64 0, .int .i64 0] 44)).setRow wr.heap.size (quL q).toArray := ⟨_, rfl⟩
          have rZ := row_new (w := wr) (k := wr.heap.size) (.cells #[.string ⟨#[]⟩, .int .i64 0, .int .i64 0] 44 (0, 0)) rfl
          have e8 : (wr.alloc (.cells quZ 44)).setRow wr.heap.size (quL q).toArray = W1 := hW1.symm
          rw [e8] at r8 q8
          have HB1 := Lib.hid (HB.out.on q8)
          have d0 := cell_of_row _ _ 0 _ _ _ r8
          have d1 := cell_of_row _ _ 1 _ _ _ r8
          have d2 := cell_of_row _ _ 2 _ _ _ r8
          simp only [quL, List.getElem?_toArray, List.getElem?_cons_zero, List.getElem?_cons_succ] at d0 d1 d2
          have i1 : Hid ((Tryd.prog.info? 44).map (·.size) = some (quL q).toArray.size) := Lib.hid info_qu
          have j1 : Hid ((Tryd.prog.info? 44).map (·.size) = some (quL q).length) := Lib.hid info_qu
          have z1 : Hid ((#[.string ⟨#[]⟩, .int .i64 0, .int .i64 0] : Array Value).size = (quL q).toArray.size) := Lib.hid rfl
          have one1 : Hid ((quL q).toArray.all (·.oneCell') = true) := Lib.hid (qu_one q)
          have CB := Lib.hid (rCan_any q.n)
          have S1 := Lib.hid (dshort_any q.t)
          have S2 := Lib.hid (dshort_any q.c)
          have HW1 := Lib.hid hW1
          generalize hb1 : can q.n = b1 at *
          generalize hb2 : shI q.t = b2 at *
          generalize hb3 : shI q.c = b3 at *
          have HTT := Lib.hid ht
          clear hcq ht HT hW1 e8 r8 q8 hb1 hb2 hb3
          subst hAq
          generalize hl1 : quL q = l1 at *
          go_wp2_with (first
            | (refine wpList_load_mid rfl 44 (.tmp 18) rfl gq (oq + i * 3) rfl l1 _ hr Tryd.underlying44 rfl j1.out ?_)
            | (refine wpList_store_row rfl 44 (.tmp 4) (.tmp 19) rfl wr.heap.size l1.toArray rfl rfl 44 _ rZ i1.out (by first | exact z1.out | exact z1.out.symm) one1.out ?_; rw [← HW1.out])
            | fail)
          refine (CB.out _).mono ?_
          rintro e w3 ⟨rfl, rfl⟩
          cases b1 with
          | false =>
            have HRF : Hid (R = false) := Lib.hid (by rw [HTT.out]; rfl)
            go_wp2_with fail
            go_ret
            exact ⟨by rw [HRF.out]; rfl, HB1.out.b⟩
          | true =>
            go_wp2_with fail
            refine (S1.out _).mono ?_
            rintro e w3 ⟨rfl, rfl⟩
            cases b2 with
            | false =>
              have HRF : Hid (R = false) := Lib.hid (by rw [HTT.out]; rfl)
              go_wp2_with fail
              go_ret
              exact ⟨by rw [HRF.out]; rfl, HB1.out.b⟩
            | true =>
              go_wp2_with fail
              refine (S2.out _).mono ?_
              rintro e w3 ⟨rfl, rfl⟩
              cases b3 with
              | false =>
                have HRF : Hid (R = false) := Lib.hid (by rw [HTT.out]; rfl)
                go_wp2_with fail
                go_ret
                exact ⟨by rw [HRF.out]; rfl, HB1.out.b⟩
              | true =>
                have HT2 : Hid (R = ((m.q.drop (i + 1)).all canQ && m.rs.all canR)) := Lib.hid (by rw [HTT.out]; rfl)
                clear CB S1 S2 HTT
                go_wp2_with fail
                go_roundw
                case rel => exact ⟨i + 1, by go_num, by omega, HB1, HT2⟩
                case measure => simp [intOf]; omega
        · have hlt' : ¬ (i : Int) < (nq : Int) := by omega
          have HT2 : Hid (R = (m.rs.drop 0).all canR) := Lib.hid (by rw [HT.out, all_end (by rw [← HNQ.out]; omega), Bool.true_and]; rfl)
          have fm := F2 wr HB.out
          clear HT HQS F2
          go_wp2_with fail
          refine (K5.out _ HB.out (by first | rfl | trivial)).mono ?_
          rintro e w5 ⟨u, rfl, o5, b5⟩
          have HB5 := Lib.hid (HB.out.on b5)
          obtain ⟨A5, c5, rfl, -⟩ := o5.form
          obtain ⟨nr, hnr⟩ : ∃ n, n = m.rs.length := ⟨_, rfl⟩
          have HNR := Lib.hid hnr
          have hnrb : nr ≤ 196605 := by
            obtain ⟨x1, x2, x3⟩ := HLEN.out (by first | rfl | trivial)
            rw [hnr]
            simp [Msg.rs]
            omega
          rw [← hnr] at o5 ⊢
          have HO5 := Lib.hid o5
          have HK5 := Lib.hid b5
          clear b5 fm K5 c8 o5 hnr
          go_wp2_with fail
          go_loopw [40] (fun v40 wr3 => ∃ k : Nat, v40 = .int .i64 k ∧ k ≤ nr ∧ Hid (BM w m v wr3) ∧ Hid (OwnD w wr3 (wr.heap.size + 1) (.slice A5 nr c5) m.rs) ∧ Hid (Below wr.heap.size wr wr3) ∧ Hid (R = (m.rs.drop k).all canR)) (fun v40 _ => nr - (intOf v40).toNat)
          case atStart => exact ⟨0, rfl, by omega, HB5, HO5, HK5, HT2⟩
          case round =>
            clear HB5 HO5 HK5 HT2
            obtain ⟨k, rfl, hk, HBk, HOk, HKk, HTk⟩ := hrel
            rename World => wr3
            by_cases hlk : k < nr
            · have hlk' : (k : Int) < (nr : Int) := by omega
              have hks : k < m.rs.length := by rw [← HNR.out]; exact hlk
              obtain ⟨gr, c6, ra, rc, hu, hbg, R1, D1⟩ := HOk.out.at hks
              have htk := HTk.out
              rw [all_at hks, canR_sh] at htk
              generalize m.rs[k] = r at *
              obtain ⟨r8, q8⟩ := box_row wr3 #[.string ⟨#[]⟩, .int .i64 0, .int .i64 0, .int .i64 0, .slice none 0 0] (rrL r ra rc) 72
              obtain ⟨W1, hW1⟩ : ∃ W1, W1 = (wr3.alloc (.cells #[.string ⟨#[]⟩, .int .i64 0, .int .i64 0, .int .i64 0, .slice none 0 0] 72)).setRow wr3.heap.size (rrL r ra rc).toArray := ⟨_, rfl⟩
              have rZ := row_new (w := wr3) (k := wr3.heap.size) (.cells #[.string ⟨#[]⟩, .int .i64 0, .int .i64 0, .int .i64 0, .slice none 0 0] 72 (0, 0)) rfl
              rw [← hW1] at r8 q8
              have HB1 := Lib.hid (HBk.out.on q8)
              have HO1 := Lib.hid (HOk.out.below q8)
              have HK1 := Lib.hid (Below.trans HKk.out (q8.mono HKk.out.size))
              obtain ⟨nd, hnd⟩ : ∃ n, n = r.d.length := ⟨_, rfl⟩
              have d0 := cell_of_row _ _ 0 _ _ _ r8
              have d1 := cell_of_row _ _ 1 _ _ _ r8
              have d2 := cell_of_row _ _ 2 _ _ _ r8
              have d3 := cell_of_row _ _ 3 _ _ _ r8
              have d4 := cell_of_row _ _ 4 _ _ _ r8
              simp only [rrL, ← hnd, List.getElem?_toArray, List.getElem?_cons_zero, List.getElem?_cons_succ] at d0 d1 d2 d3 d4
              have i1 : Hid ((Tryd.prog.info? 72).map (·.size) = some (rrL r ra rc).toArray.size) := Lib.hid info_rr
              have j1 : Hid ((Tryd.prog.info? 72).map (·.size) = some (rrL r ra rc).length) := Lib.hid info_rr
              have z1 : Hid ((#[.string ⟨#[]⟩, .int .i64 0, .int .i64 0, .int .i64 0, .slice none 0 0] : Array Value).size = (rrL r ra rc).toArray.size) := Lib.hid rfl
              have one1 : Hid ((rrL r ra rc).toArray.all (·.oneCell') = true) := Lib.hid (rr_one r ra rc)
              have CB := Lib.hid (rCan_any r.n)
              have S1 := Lib.hid (dshort_any r.t)
              have S2 := Lib.hid (dshort_any r.c)
              have CD := Lib.hid (by have := rCanD_any r.t ra r.d rc W1 (D1.on HB1.out.b).bys D1.le D1.max; rw [← hnd] at this; exact this)
              generalize hb1 : can r.n = b1 at *
              generalize hb2 : shI r.t = b2 at *
              generalize hb3 : shI r.c = b3 at *
              generalize hb4 : canD r.t r.d = b4 at *
              have HW1 := Lib.hid hW1
              have HTT := Lib.hid htk
              injection hu with hu1 hum hu2
              clear htk HTk hW1 r8 q8 hnd D1 hb1 hb2 hb3 hb4 hbg hum
              subst hu1
              subst hu2
              generalize hl1 : rrL r ra rc = l1 at *
              go_wp2_with (first
                | (refine wpList_load_mid rfl 72 (.tmp 42) rfl gr (k * 5) rfl l1 _ R1 Tryd.underlying72 rfl j1.out ?_)
                | (refine wpList_store_row rfl 72 (.tmp 6) (.tmp 43) rfl wr3.heap.size l1.toArray rfl rfl 72 _ rZ i1.out (by first | exact z1.out | exact z1.out.symm) one1.out ?_; rw [← HW1.out])
                | fail)
              refine (CB.out _).mono ?_
              rintro e w6 ⟨rfl, rfl⟩
              cases b1 with
              | false =>
                have HRF : Hid (R = false) := Lib.hid (by rw [HTT.out]; rfl)
                go_wp2_with fail
                go_ret
                exact ⟨by rw [HRF.out]; rfl, HB1.out.b⟩
              | true =>
                go_wp2_with fail
                refine (S1.out _).mono ?_
                rintro e w6 ⟨rfl, rfl⟩
                cases b2 with
                | false =>
                  have HRF : Hid (R = false) := Lib.hid (by rw [HTT.out]; rfl)
                  go_wp2_with fail
                  go_ret
                  exact ⟨by rw [HRF.out]; rfl, HB1.out.b⟩
                | true =>
                  go_wp2_with fail
                  refine (S2.out _).mono ?_
                  rintro e w6 ⟨rfl, rfl⟩
                  cases b3 with
                  | false =>
                    have HRF : Hid (R = false) := Lib.hid (by rw [HTT.out]; rfl)
                    go_wp2_with fail
                    go_ret
                    exact ⟨by rw [HRF.out]; rfl, HB1.out.b⟩
                  | true =>
                    by_cases h0 : 0 ≤ r.ttl
                    · have h0' : ¬ r.ttl < 0 := by omega
                      by_cases h1 : r.ttl ≤ 4294967295
                      · have h1' : r.ttl < 4294967296 := by omega
                        have h1'' : ¬ 4294967296 ≤ r.ttl := by omega
                        have HTU : Hid (R = (b4 && (m.rs.drop (k + 1)).all canR)) := Lib.hid (by rw [HTT.out, decide_eq_true h0, decide_eq_true h1]; rfl)
                        clear HTT h0 h1
                        go_wp2_with fail
                        refine CD.out.mono ?_
                        rintro e w7 ⟨rfl, b7⟩
                        have HB7 := Lib.hid (HB1.out.on b7)
                        have HO7 := Lib.hid (HO1.out.below b7)
                        have HK7 := Lib.hid (Below.trans HK1.out (b7.mono HK1.out.size))
                        clear b7 CD
                        cases b4 with
                        | false =>
                          have HRF : Hid (R = false) := Lib.hid (by rw [HTU.out]; rfl)
                          go_wp2_with fail
                          go_ret
                          exact ⟨by rw [HRF.out]; rfl, HB7.out.b⟩
                        | true =>
                          have HT2 : Hid (R = (m.rs.drop (k + 1)).all canR) := Lib.hid (by rw [HTU.out]; rfl)
                          clear HTU
                          go_wp2_with fail
                          go_roundw
                          case rel => exact ⟨k + 1, by go_num, by omega, HB7, HO7, HK7, HT2⟩
                          case measure => simp [intOf]; omega
                      · have h1' : ¬ r.ttl < 4294967296 := by omega
                        have h1'' : 4294967296 ≤ r.ttl := by omega
                        have HRF : Hid (R = false) := Lib.hid (by rw [HTT.out, decide_eq_true h0, decide_eq_false h1]; rfl)
                        clear HTT h0 h1 CD
                        go_wp2_with fail
                        go_ret
                        exact ⟨by rw [HRF.out]; rfl, HB1.out.b⟩
                    · have h0' : r.ttl < 0 := by omega
                      have HRF : Hid (R = false) := Lib.hid (by rw [HTT.out, decide_eq_false h0]; rfl)
                      clear HTT CD h0
                      go_wp2_with fail
                      go_ret
                      exact ⟨by rw [HRF.out]; rfl, HB1.out.b⟩
            · have hlk' : ¬ (k : Int) < (nr : Int) := by omega
              have HRT : Hid (R = true) := Lib.hid (by rw [HTk.out, all_end (by rw [← HNR.out]; omega)])
              clear HTk
              go_wp2_with fail
              go_ret
              exact ⟨by rw [HRT.out]; rfl, HBk.out.b⟩
end Go.Proofs.YtknpkifhkefikaaDoor
