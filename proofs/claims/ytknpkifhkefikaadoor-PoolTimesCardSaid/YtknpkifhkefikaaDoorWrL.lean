/-
  wire.Encode: the walk.
-/
import Derived.Test.YtknpkifhkefikaaDoorWrK
namespace Go.Proofs.YtknpkifhkefikaaDoor
open Go.RowKit Go.Maps
set_option linter.unusedVariables false
set_option maxRecDepth 100000
attribute [local go_sem ↓] exec_loadMg exec_loadHd

/-- What is written of a message that can be. -/
def headM (m : Msg) : Wt := ⟨headB m.h m.q.length m.an.length m.au.length m.ad.length, fun _ => none⟩
def encX (m : Msg) : Option Wt := (partsW quW m.q (headM m)).bind (partsW rrW m.rs)
def EncP (w : World) (m : Msg) (e : Ending) (w' : World) : Prop := ∃ v k, e = .returned (.tuple #[v, .int .i64 k]) ∧ Below w.heap.size w w' ∧ (canM m = false → v = .slice none 0 0 ∧ k = 1) ∧ (canM m = true → encX m = none → v = .slice none 0 0 ∧ k = 42) ∧ (∀ X, canM m = true → encX m = some X → k = 0 ∧ OwnR w' w.heap.size v X.b ∧ v ≠ .slice none 0 0)
def rsFrom (m : Msg) (v : MV) (j : Nat) : List Rr := ((secs m v).drop j).flatMap (·.l)
theorem rsFrom_zero (m : Msg) (v : MV) : rsFrom m v 0 = m.rs := by simp [rsFrom, secs, Msg.rs]
theorem rsFrom_at (m : Msg) (v : MV) (j : Nat) (hj : j < (secs m v).length) : rsFrom m v j = (secs m v)[j].l ++ rsFrom m v (j + 1) := by
  unfold rsFrom
  rw [List.drop_eq_getElem_cons hj, List.flatMap_cons]
theorem rsFrom_end (m : Msg) (v : MV) (j : Nat) (hj : 3 ≤ j) : rsFrom m v j = [] := by
  unfold rsFrom
  rw [List.drop_eq_nil_of_le (by simpa [secs] using hj)]
  rfl
theorem partsW_at {α : Type} (f : α → Wt → Wt) {l : List α} {k : Nat} (h : k < l.length) (X : Wt) : partsW f (l.drop k) X = if 65535 < (f l[k] X).b.length then none else partsW f (l.drop (k + 1)) (f l[k] X) := by
  rw [List.drop_eq_getElem_cons h]
  rfl
theorem headB_len (h : Hd) (a b c d : Nat) : (headB h a b c d).length = 12 := by simp [headB, tw_len]
/-- A writer that nobody has written to. -/
theorem WtM.made {w : World} {base gv c : Nat} {b : Bs} (hr : OwnR w base (.slice (some ⟨gv, 0, none⟩) b.length c) b) (hb : base ≤ w.heap.size) : WtM (w.heap.size + 1) w.heap.size 0 (.slice (some ⟨gv, 0, none⟩) b.length c) base ⟨b, fun _ => none⟩ ((w.alloc (.map #[] 0)).alloc (.cells #[.slice (some ⟨gv, 0, none⟩) b.length c, .map (some w.heap.size)] 67)) := by
  have hm := World.ownsMap_made (H := Unit) w Tryd.prog 9 intE
  exact ⟨row_new _ (by simp), (hr.alloc _).alloc _, (fun h => by cases h), ⟨_, hm.alloc _, fun n => by simp [DataW.atKey], fun n => by simp [Maps.has]⟩, (fun n p hp => by cases hp), by omega, hb⟩
theorem OwnR.lower {w : World} {base base' : Nat} {v : Value} {l : Bs} (h : OwnR w base v l) (hb : base' ≤ base) : OwnR w base' v l := by
  obtain ⟨h1, h2⟩ := h
  refine ⟨h1, ?_⟩
  rcases h2 with h2 | ⟨g, cap, cur, hv, hg, r⟩
  · exact .inl h2
  · exact .inr ⟨g, cap, cur, hv, by omega, r⟩
theorem HEnc_from (h : Hd) (n0 n1 n2 n3 : Nat) (w : World) (hm : Masks w) (base : Nat) (hb : base ≤ w.heap.size) : Calls Tryd.prog 28 #[.agg (hdC h), ctV n0 n1 n2 n3] w fun e w' => ∃ v k, e = .returned (.tuple #[v, .int .i64 k]) ∧ Below w.heap.size w w' ∧ (canHd h n0 n1 n2 n3 = false → v = .slice none 0 0 ∧ k = 1) ∧ (canHd h n0 n1 n2 n3 = true → k = 0 ∧ OwnR w' base v (headB h n0 n1 n2 n3) ∧ v ≠ .slice none 0 0) :=
  (HEnc_any h n0 n1 n2 n3 w hm).mono fun e w' ⟨v, k, h1, h2, h3, h4⟩ => ⟨v, k, h1, h2, h3, fun hc => ⟨(h4 hc).1, (h4 hc).2.1.lower hb, (h4 hc).2.2⟩⟩
theorem BM.far {W wr w1 : World} {m : Msg} {v : MV} (h : BM W m v wr) (hk : Masks W) (k : Below (W.heap.size + 1) wr w1) : BM W m v w1 := by
  have b : Below W.heap.size W w1 := Below.trans h.b (k.mono (by omega))
  exact ⟨(k.block _ (by omega)).trans h.r, hk.on b, b⟩
theorem partsW_cons {α : Type} (f : α → Wt → Wt) (x : α) (l : List α) (X : Wt) : partsW f (x :: l) X = if 65535 < (f x X).b.length then none else partsW f l (f x X) := rfl
set_option maxHeartbeats 4000000 in
set_option maxRecDepth 100000 in
theorem Encode_any (m : Msg) (v : MV) (w : World) (hM : Ms w m v) (hk : Masks w) : Calls Tryd.prog 9 #[.agg (msL m v).toArray] w (EncP w m) := by
  have HD : Hid (∀ e w', EncP w m e w' ↔ ∃ v k, e = .returned (.tuple #[v, .int .i64 k]) ∧ Below w.heap.size w w' ∧ (canM m = false → v = .slice none 0 0 ∧ k = 1) ∧ (canM m = true → encX m = none → v = .slice none 0 0 ∧ k = 42) ∧ (∀ X, canM m = true → encX m = some X → k = 0 ∧ OwnR w' w.heap.size v X.b ∧ v ≠ .slice none 0 0)) := Lib.hid (fun _ _ => Iff.rfl)
  have X0 := BM.start w m v hk
  obtain ⟨C, hC⟩ : ∃ C, C = (msL m v).toArray := ⟨_, rfl⟩
  have hCs : (Tryd.prog.info? 27).map (·.size) = some C.size := by rw [hC]; exact info_ms
  have K0 := Lib.hid (fun W (h : BM w m v W) => by have := CanM_any m v W (hM.on h.b) h.k; rw [← hC] at this; exact this)
  have K1 := Lib.hid (fun W (h : BM w m v W) => by have := counts_any m v W; rw [← hC] at this; exact this)
  have K2 := Lib.hid (fun W (h : BM w m v W) => HEnc_from m.h m.q.length m.an.length m.au.length m.ad.length W h.k (w.heap.size + 1) h.lt)
  have F1 : ∀ W, BM w m v W → loadHd (.pointer (some ⟨w.heap.size, 0, none⟩)) W = .ok (.value (.agg (hdC m.h))) W := fun W h => ms_head h.r
  have F2 : ∀ W, BM w m v W → loadMg (.pointer (some ⟨w.heap.size, 0, none⟩)) W = .ok (.value (.agg C)) W := fun W h => loadMg_row (by rw [hC]; exact h.r) hCs
  obtain ⟨hcd, hhc⟩ : ∃ z, z = hdC m.h := ⟨_, rfl⟩
  rw [← hhc] at K2 F1
  have K5 := Lib.hid (sections_any m v)
  have HIX := Lib.hid (secs_ix m v)
  have HRS := Lib.hid (fun j hj => secs_rs hM j hj)
  have HKM := Lib.hid hk
  obtain ⟨aq, haq⟩ : ∃ a, a = v.aq := ⟨_, rfl⟩
  have HQS := Lib.hid (fun W (h : BM w m v W) => by have := hM.q.on h.b; rw [← haq] at this; exact this)
  have hql := hM.lq
  obtain ⟨nq, hnq⟩ : ∃ n, n = m.q.length := ⟨_, rfl⟩
  have HCQ : Hid (∀ W, BM w m v W → W.cell? ⟨w.heap.size, 8, none⟩ = some (.slice aq nq v.cq)) := Lib.hid (fun W h => by rw [hnq, haq]; exact (ms_cell h.r).1)
  have HNQ := Lib.hid hnq
  rw [← hC] at K5
  rw [← hC] at X0 ⊢
  have HC := Lib.hid hC
  obtain ⟨cm, hcm⟩ : ∃ b, b = canM m := ⟨_, rfl⟩
  have HCM := Lib.hid hcm
  rw [← hcm] at K0 HD
  generalize hQ : EncP w m = Q at *
  clear hQ
  have fm0 := F2 _ X0
  have k0 := K0.out _ X0
  have HX0 := Lib.hid X0
  clear hM hk hhc hnq hC hCs haq hcm X0
  cases cm with
  | false =>
    have HK0 := Lib.hid k0
    clear k0 F1 F2
    go_enter Tryd.func9, Tryd.ntmps9
    go_wp2_with fail
    refine HK0.out.mono ?_
    rintro e w1 ⟨rfl, b1⟩
    have HF := Lib.hid ((HD.out (.returned (.tuple #[.slice none 0 0, .int .i64 1])) w1).2 ⟨_, _, rfl, (HX0.out.on b1).b, fun _ => ⟨rfl, rfl⟩, (fun h => by cases h), fun X h => by cases h⟩)
    go_wp2_with fail
    exact HF.out
  | true =>
    have HK0 := Lib.hid k0
    clear k0
    go_enter Tryd.func9, Tryd.ntmps9
    go_wp2_with fail
    refine HK0.out.mono ?_
    rintro e w1 ⟨rfl, b1⟩
    have X1 := HX0.out.on b1
    clear b1 fm0 HK0 K0
    go_wp2_with fail
    have hXd := X1.drew
    clear X1
    go_region_law ((first
      | (go_simp; go_at_call 29; (with_reducible refine (K1.out _ (by assumption)).mono ?_); rintro e w' ⟨rfl, hBx⟩; have hX2 := BM.on (by assumption) hBx)
      | (go_simp; go_at_call 28; (with_reducible refine (K2.out _ (by assumption)).mono ?_); rintro e w' ⟨vh, kh, rfl, hBx, hno, hyes⟩; have hX2 := BM.on (by assumption) hBx)))
    all_goals
      have hXE : BM w m v w' := by assumption
      have HXE := Lib.hid hXE
      have hcd2 : canHd m.h m.q.length m.an.length m.au.length m.ad.length = true := by
        have := HCM.out
        unfold canM at this
        cases hh : canHd m.h m.q.length m.an.length m.au.length m.ad.length with
        | true => rfl
        | false => rw [hh] at this; cases this
      obtain ⟨rfl, o1, n1⟩ := hyes hcd2
      obtain ⟨gv1, c1, hv1, -⟩ := OwnR.slice_form o1 n1
      have hXb : w.heap.size + 1 ≤ w'.heap.size := hXE.lt
      rw [hv1] at o1
      have HW0 := Lib.hid (WtM.made o1 hXb)
      rw [headB_len] at hv1 HW0
      subst hv1
      have HBX : Hid (Below w'.heap.size w' ((w'.alloc (.map #[] 0)).alloc (.cells #[.slice (some ⟨gv1, 0, none⟩) 12 c1, .map (some w'.heap.size)] 67))) := Lib.hid (Below.alloc (Below.alloc (Below.refl _ _) (Nat.le_refl _) _) (by simp) _)
      have HXF := Lib.hid (hXE.on HBX.out)
      have hmm := @run_makeMap Tryd.prog
      clear hno hyes hXd F1 K1 K2 hBx hX2 o1 n1 hcd2 hXE
      have c8 := HCQ.out _ HXF.out
      have HAQ : Hid (∀ q ∈ m.q, canQ q = true) := Lib.hid (by
        have := HCM.out
        unfold canM at this
        intro q hq
        have h2 := this.symm
        simp only [Bool.and_eq_true, List.all_eq_true] at h2
        exact h2.2.1 q hq)
      have HAR : Hid (∀ r ∈ m.rs, canR r = true) := Lib.hid (by
        have := HCM.out
        unfold canM at this
        intro q hq
        have h2 := this.symm
        simp only [Bool.and_eq_true, List.all_eq_true] at h2
        exact h2.2.2 q hq)
      have HT0 : Hid (encX m = (partsW quW (m.q.drop 0) (headM m)).bind (partsW rrW m.rs)) := Lib.hid rfl
      have HL0 : Hid ((headM m).b.length ≤ 65535) := Lib.hid (by show (headB _ _ _ _ _).length ≤ _; rw [headB_len]; omega)
      have HWN : Hid (WtM (w'.heap.size + 1) w'.heap.size 0 (.slice (some ⟨gv1, 0, none⟩) 12 c1) (w.heap.size + 1) (headM m) ((w'.alloc (.map #[] 0)).alloc (.cells #[.slice (some ⟨gv1, 0, none⟩) 12 c1, .map (some w'.heap.size)] 67)) ∧ 0 ≤ (headM m).b.length) := Lib.hid ⟨HW0.out, Nat.zero_le _⟩
      clear HW0 HCM HXE
      obtain ⟨gB, hgB⟩ : ∃ g, g = w'.heap.size + 1 := ⟨_, rfl⟩
      go_wp2_with fail
      rw [← hgB]
      rw [← hgB] at HWN
      have HGB := Lib.hid hgB
      clear hgB
      go_loopw [30] (fun v30 wr => ∃ (i N : Nat) (u : Value) (X : Wt), v30 = .int .i64 i ∧ i ≤ nq ∧ Hid (WtM gB w'.heap.size N u (w.heap.size + 1) X wr ∧ N ≤ X.b.length) ∧ Hid (BM w m v wr) ∧ Hid (X.b.length ≤ 65535) ∧ Hid (encX m = (partsW quW (m.q.drop i) X).bind (partsW rrW m.rs))) (fun v30 _ => nq - (intOf v30).toNat)
      case atStart => exact ⟨0, 0, _, headM m, rfl, by omega, HWN, HXF, HL0, HT0⟩
      case round =>
        clear HWN HXF HL0 HT0 HBX hmm
        obtain ⟨i, N, u, X, rfl, hi, HW, HB, HL, HT⟩ := hrel
        rename World => wr
        by_cases hlt : i < nq
        · have hlt' : (i : Int) < (nq : Int) := by omega
          have hiq : i < m.q.length := by rw [← HNQ.out]; exact hlt
          obtain ⟨gq, oq, hAq, hcq⟩ := HQS.out _ HB.out (by omega)
          have hr := hcq i hiq
          have ht := HT.out
          have hcq2 := HAQ.out _ (List.getElem_mem hiq)
          rw [partsW_at quW hiq] at ht
          generalize m.q[i] = q at *
          obtain ⟨r8, q8⟩ := box_row wr #[.string ⟨#[]⟩, .int .i64 0, .int .i64 0] (quL q) 44
          obtain ⟨W1, hW1⟩ : ∃ W1, W1 = (wr.alloc (.cells #[.string ⟨#[]⟩, .int .i64 0, .int .i64 0] 44)).setRow wr.heap.size (quL q).toArray := ⟨_, rfl⟩
          have rZ := row_new (w := wr) (k := wr.heap.size) (.cells #[.string ⟨#[]⟩, .int .i64 0, .int .i64 0] 44 (0, 0)) rfl
          rw [← hW1] at r8 q8
          have HB1 := HB.out.on q8
          have HH1 := HW.out.1.below q8
          have i1 : Hid ((Tryd.prog.info? 44).map (·.size) = some (quL q).toArray.size) := Lib.hid info_qu
          have j1 : Hid ((Tryd.prog.info? 44).map (·.size) = some (quL q).length) := Lib.hid info_qu
          have z1 : Hid ((#[.string ⟨#[]⟩, .int .i64 0, .int .i64 0] : Array Value).size = (quL q).toArray.size) := Lib.hid rfl
          have one1 : Hid ((quL q).toArray.all (·.oneCell') = true) := Lib.hid (qu_one q)
          have CB := Lib.hid (question_any q W1 HH1 HW.out.2 hcq2 (by have := HL.out; omega))
          have HLQ := Lib.hid (quW_len X (show can q.n = true by unfold canQ at hcq2; simp only [Bool.and_eq_true] at hcq2; exact hcq2.1))
          have HF := Lib.hid (fun X' w2 N2 v2 (k : WrQ gB w'.heap.size u (w.heap.size + 1) X' W1 w2 N2 v2) => HB1.far HKM.out (k.big HH1.big (fun i hi => HH1.base_le hi)))
          unfold quC at CB
          have HW1 := Lib.hid hW1
          have HTT := Lib.hid ht
          clear hcq ht HT hW1 q8 HB1 HH1 hcq2
          subst hAq
          generalize hl1 : quL q = l1 at *
          go_wp2_with (first
            | (refine wpList_load_mid rfl 44 (.tmp 32) rfl gq (oq + i * 3) rfl l1 _ hr Tryd.underlying44 rfl j1.out ?_)
            | (refine wpList_store_row rfl 44 (.tmp 8) (.tmp 33) rfl wr.heap.size l1.toArray rfl rfl 44 _ rZ i1.out (by first | exact z1.out | exact z1.out.symm) one1.out ?_; rw [← HW1.out])
            | (refine wpList_load_row rfl 44 (.tmp 8) rfl wr.heap.size rfl 44 l1.toArray (0, 0) _ r8 Tryd.underlying44 rfl i1.out ?_)
            | fail)
          refine CB.out.mono ?_
          rintro e w3 ⟨rfl, h3⟩
          obtain ⟨N3, v3, q3⟩ := h3.open
          have HB3 := Lib.hid (HF.out _ _ _ _ q3)
          have HQ3 := Lib.hid q3
          have LG := Lib.hid (long_any w3 q3.at')
          clear h3 q3 CB HF r8 rZ hr
          go_wp2_with fail
          refine LG.out.mono ?_
          rintro e w4 ⟨rfl, rfl⟩
          clear LG
          by_cases hlong : 65535 < (quW q X).b.length
          · have HNN : Hid (encX m = none) := Lib.hid (by rw [HTT.out, if_pos hlong]; rfl)
            rw [decide_eq_true hlong]
            have HFN := Lib.hid ((HD.out (.returned (.tuple #[.slice none 0 0, .int .i64 42])) w4).2 ⟨_, _, rfl, HB3.out.b, (fun h => by cases h), fun _ _ => ⟨rfl, rfl⟩, fun X2 _ h => by rw [HNN.out] at h; cases h⟩)
            clear HTT hlong
            go_wp2_with fail
            exact HFN.out
          · have HT2 : Hid (encX m = (partsW quW (m.q.drop (i + 1)) (quW q X)).bind (partsW rrW m.rs)) := Lib.hid (by rw [HTT.out, if_neg hlong])
            rw [decide_eq_false hlong]
            have HL2 : Hid ((quW q X).b.length ≤ 65535) := Lib.hid (by omega)
            clear HTT hlong
            go_wp2_with fail
            go_roundw
            case rel => exact ⟨i + 1, N3, v3, quW q X, by go_num, by omega, Lib.hid ⟨HQ3.out.at', HQ3.out.le⟩, HB3, HL2, HT2⟩
            case measure => simp [intOf]; omega
        · have hlt' : ¬ (i : Int) < (nq : Int) := by omega
          have HT2 : Hid (encX m = partsW rrW (rsFrom m v 0) X) := Lib.hid (by rw [HT.out, rsFrom_zero, List.drop_eq_nil_of_le (by rw [← HNQ.out]; omega)]; rfl)
          have fm := F2 wr HB.out
          clear HT HQS F2 HAQ
          go_wp2_with fail
          refine (K5.out _).mono ?_
          rintro e w5 ⟨rfl, b5⟩
          have HB5 := Lib.hid (HB.out.on b5)
          have HW5 := Lib.hid (⟨HW.out.1.below b5, HW.out.2⟩ : WtM gB w'.heap.size N u (w.heap.size + 1) X w5 ∧ N ≤ X.b.length)
          clear b5 fm K5 c8 HW HB
          go_wp2_with fail
          go_loopw [40] (fun v40 wr2 => ∃ (j N : Nat) (u : Value) (X : Wt), v40 = .int .i64 j ∧ j ≤ 3 ∧ Hid (WtM gB w'.heap.size N u (w.heap.size + 1) X wr2 ∧ N ≤ X.b.length) ∧ Hid (BM w m v wr2) ∧ Hid (X.b.length ≤ 65535) ∧ Hid (encX m = partsW rrW (rsFrom m v j) X)) (fun v40 _ => 3 - (intOf v40).toNat)
          case atStart => exact ⟨0, N, u, X, rfl, by omega, HW5, HB5, HL, HT2⟩
          case round =>
            clear HB5 HT2 HW5 HL
            obtain ⟨j, N, u, X, rfl, hj, HW, HBj, HL, HTj⟩ := hrel
            rename World => wr2
            by_cases hj3 : j < 3
            · have hj3' : (j : Int) < 3 := by omega
              have ix := HIX.out j hj3
              have hjs : j < (secs m v).length := by simpa [secs] using hj3
              have htj := HTj.out
              rw [rsFrom_at m v j hjs] at htj
              have HRJ := HRS.out j hj3
              have hin : ∀ r ∈ (secs m v)[j].l, r ∈ m.rs := fun r hr => by
                rw [← rsFrom_zero m v]
                unfold rsFrom
                rw [List.drop_zero]
                exact List.mem_flatMap.2 ⟨_, List.getElem_mem hjs, hr⟩
              obtain ⟨S, hS⟩ : ∃ S, S = (secs m v)[j] := ⟨_, rfl⟩
              rw [← hS] at htj HRJ hin
              simp only [← hS] at ix
              obtain ⟨sl, sA, sc⟩ := S
              simp only at htj HRJ hin
              obtain ⟨ns, hns⟩ : ∃ n, n = sl.length := ⟨_, rfl⟩
              have HNS := Lib.hid hns
              have ix2 : ∀ W : World, (Instr.index 69 (.agg #[.slice v.a1 m.an.length v.c1, .slice v.a2 m.au.length v.c2, .slice v.a3 m.ad.length v.c3]) (.int .i64 (j : Int))).run Tryd.prog W = .ok (.slice sA ns sc) W := fun W => by rw [hns]; exact ix W
              have HTK : Hid (encX m = partsW rrW (sl.drop 0 ++ rsFrom m v (j + 1)) X) := Lib.hid htj
              have hlim := HRJ.2
              have HRR := Lib.hid HRJ.1
              have HIN := Lib.hid hin
              rw [← hns] at hlim
              clear ix hS htj hns HRJ hin HTj
              go_wp2_with fail
              go_loopw [45] (fun v45 wr3 => ∃ (k N : Nat) (u : Value) (X : Wt), v45 = .int .i64 k ∧ k ≤ ns ∧ Hid (WtM gB w'.heap.size N u (w.heap.size + 1) X wr3 ∧ N ≤ X.b.length) ∧ Hid (BM w m v wr3) ∧ Hid (X.b.length ≤ 65535) ∧ Hid (encX m = partsW rrW (sl.drop k ++ rsFrom m v (j + 1)) X)) (fun v45 _ => ns - (intOf v45).toNat)
              case atStart => exact ⟨0, N, u, X, rfl, by omega, HW, HBj, HL, HTK⟩
              case round =>
                clear HTK HW HBj HL
                obtain ⟨k, N, u, X, rfl, hk, HW, HBk, HL, HTk⟩ := hrel
                rename World => wr3
                by_cases hlk : k < ns
                · have hlk' : (k : Int) < (ns : Int) := by omega
                  have hks : k < sl.length := by rw [← HNS.out]; exact hlk
                  obtain ⟨gr, orr, hAr, hcr⟩ := HRR.out (by omega)
                  obtain ⟨ra, rc, D1, R0⟩ := hcr k hks
                  have R1 := range_on R0 HBk.out.b
                  have htk := HTk.out
                  rw [List.drop_eq_getElem_cons hks, List.cons_append, partsW_cons] at htk
                  have hcr2 := HAR.out _ (HIN.out _ (List.getElem_mem hks))
                  generalize sl[k] = r at *
                  obtain ⟨r8, q8⟩ := box_row wr3 #[.string ⟨#[]⟩, .int .i64 0, .int .i64 0, .int .i64 0, .slice none 0 0] (rrL r ra rc) 72
                  obtain ⟨W1, hW1⟩ : ∃ W1, W1 = (wr3.alloc (.cells #[.string ⟨#[]⟩, .int .i64 0, .int .i64 0, .int .i64 0, .slice none 0 0] 72)).setRow wr3.heap.size (rrL r ra rc).toArray := ⟨_, rfl⟩
                  have rZ := row_new (w := wr3) (k := wr3.heap.size) (.cells #[.string ⟨#[]⟩, .int .i64 0, .int .i64 0, .int .i64 0, .slice none 0 0] 72 (0, 0)) rfl
                  rw [← hW1] at r8 q8
                  have HB1 := HBk.out.on q8
                  have HH1 := HW.out.1.below q8
                  have i1 : Hid ((Tryd.prog.info? 72).map (·.size) = some (rrL r ra rc).toArray.size) := Lib.hid info_rr
                  have j1 : Hid ((Tryd.prog.info? 72).map (·.size) = some (rrL r ra rc).length) := Lib.hid info_rr
                  have z1 : Hid ((#[.string ⟨#[]⟩, .int .i64 0, .int .i64 0, .int .i64 0, .slice none 0 0] : Array Value).size = (rrL r ra rc).toArray.size) := Lib.hid rfl
                  have one1 : Hid ((rrL r ra rc).toArray.all (·.oneCell') = true) := Lib.hid (rr_one r ra rc)
                  have CB := Lib.hid (record_any r ra rc W1 HH1 HW.out.2 hcr2 (fun W hb => by
                    have hw := (HB1.far HKM.out hb).b
                    have := D1.on hw
                    exact ⟨this.bys, this.le, this.max, this.nil⟩) (by have := HL.out; omega))
                  have HF := Lib.hid (fun X' w2 N2 v2 (k : WrQ gB w'.heap.size u (w.heap.size + 1) X' W1 w2 N2 v2) => HB1.far HKM.out (k.big HH1.big (fun i hi => HH1.base_le hi)))
                  unfold rrC at CB
                  have HW1 := Lib.hid hW1
                  have HTT := Lib.hid htk
                  clear hcr htk HTk hW1 q8 D1 HB1 HH1 hcr2 R0
                  subst hAr
                  generalize hl1 : rrL r ra rc = l1 at *
                  go_wp2_with (first
                    | (refine wpList_load_mid rfl 72 (.tmp 47) rfl gr (orr + k * 5) rfl l1 _ R1 Tryd.underlying72 rfl j1.out ?_)
                    | (refine wpList_store_row rfl 72 (.tmp 12) (.tmp 48) rfl wr3.heap.size l1.toArray rfl rfl 72 _ rZ i1.out (by first | exact z1.out | exact z1.out.symm) one1.out ?_; rw [← HW1.out])
                    | (refine wpList_load_row rfl 72 (.tmp 12) rfl wr3.heap.size rfl 72 l1.toArray (0, 0) _ r8 Tryd.underlying72 rfl i1.out ?_)
                    | fail)
                  refine CB.out.mono ?_
                  rintro e w6 ⟨rfl, h6⟩
                  obtain ⟨N6, v6, q6⟩ := h6.open
                  have HB6 := Lib.hid (HF.out _ _ _ _ q6)
                  have HQ6 := Lib.hid q6
                  have LG := Lib.hid (long_any w6 q6.at')
                  clear h6 q6 CB HF r8 rZ R1
                  go_wp2_with fail
                  refine LG.out.mono ?_
                  rintro e w7 ⟨rfl, rfl⟩
                  clear LG
                  by_cases hlong : 65535 < (rrW r X).b.length
                  · have HNN : Hid (encX m = none) := Lib.hid (by rw [HTT.out, if_pos hlong])
                    rw [decide_eq_true hlong]
                    have HFN := Lib.hid ((HD.out (.returned (.tuple #[.slice none 0 0, .int .i64 42])) w7).2 ⟨_, _, rfl, HB6.out.b, (fun h => by cases h), fun _ _ => ⟨rfl, rfl⟩, fun X2 _ h => by rw [HNN.out] at h; cases h⟩)
                    clear HTT hlong
                    go_wp2_with fail
                    exact HFN.out
                  · have HT2 : Hid (encX m = partsW rrW (sl.drop (k + 1) ++ rsFrom m v (j + 1)) (rrW r X)) := Lib.hid (by rw [HTT.out, if_neg hlong])
                    rw [decide_eq_false hlong]
                    have HL2 : Hid ((rrW r X).b.length ≤ 65535) := Lib.hid (by omega)
                    clear HTT hlong
                    go_wp2_with fail
                    go_roundw
                    case rel => exact ⟨k + 1, N6, v6, rrW r X, by go_num, by omega, Lib.hid ⟨HQ6.out.at', HQ6.out.le⟩, HB6, HL2, HT2⟩
                    case measure => simp [intOf]; omega
                · have hlk' : ¬ (k : Int) < (ns : Int) := by omega
                  have HT2 : Hid (encX m = partsW rrW (rsFrom m v (j + 1)) X) := Lib.hid (by rw [HTk.out, List.drop_eq_nil_of_le (by rw [← HNS.out]; omega), List.nil_append])
                  clear HTk
                  go_wp2_with fail
                  go_roundw
                  case rel => exact ⟨j + 1, N, u, X, by go_num, by omega, HW, HBk, HL, HT2⟩
                  case measure => simp [intOf]; omega
            · have hj3' : ¬ (j : Int) < 3 := by omega
              have HRT : Hid (encX m = some X) := Lib.hid (by rw [HTj.out, rsFrom_end m v j (by omega)]; rfl)
              obtain ⟨d0, -, -⟩ := HW.out.1.cells
              obtain ⟨gu, cu, hu, -⟩ := HW.out.1.form
              have HFN := Lib.hid ((HD.out (.returned (.tuple #[u, .int .i64 0])) wr2).2 ⟨_, _, rfl, HBj.out.b, (fun h => by cases h), (fun _ h => by rw [HRT.out] at h; cases h), fun X2 _ h => by
                rw [HRT.out] at h
                injection h with h
                subst h
                exact ⟨rfl, HW.out.1.row.lower (by omega), HW.out.1.nn⟩⟩)
              obtain ⟨lx, hlx⟩ : ∃ l, l = X.b.length := ⟨_, rfl⟩
              rw [← hlx] at hu
              rw [hu] at HFN d0
              clear HTj hu hlx
              go_wp2_with fail
              exact HFN.out
end Go.Proofs.YtknpkifhkefikaaDoor
