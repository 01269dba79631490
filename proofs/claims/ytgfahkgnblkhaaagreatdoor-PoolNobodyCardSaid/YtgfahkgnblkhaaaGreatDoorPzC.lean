/-
  wire.Encode: the walk.
  How long a message is whose records bear the question's name: plain.
  The landed pool: a question's frame.
  The landed pool: dial, free on a fresh pool.
  The landed pool: Ask on a fresh pool.
  The statement's small question: a fresh pool asks, and the net bears nineteen bytes.
  A pool that no call made, and a net that no call made.
  A pool and a net that no call made: Ask, New.
  The walk of PoolNobody.
-/
import Derived.Test.YtgfahkgnblkhaaaGreatDoorWrK
import Derived.Test.YtgfahkgnblkhaaaGreatDoorWrA
import Derived.Test.YtgfahkgnblkhaaaGreatDoorPzA
import Derived.Test.YtgfahkgnblkhaaaGreatDoorPzB
import Derived.Maps.AppendAt
import Derived.Deep.RegionLaw
import Derived.Deep.RegionHeld3
namespace Go.Proofs.YtgfahkgnblkhaaaGreatDoor
open Go.RowKit Go.Maps
set_option linter.unusedVariables false
set_option maxRecDepth 100000
attribute [local go_sem ↓] exec_loadMg exec_loadHd

/-- What is written of a message that can be. -/
def headM (m : Msg) : Wt := ⟨headB m.h m.q.length m.an.length m.au.length m.ad.length, fun _ => none⟩
def encX (m : Msg) : Option Wt := (partsW quW m.q (headM m)).bind (partsW rrW m.rs)
def EncP (w : World) (m : Msg) (e : Ending) (w' : World) : Prop := ∃ v k, e = .returned (.tuple #[v, .int .i64 k]) ∧ Below w.heap.size w w' ∧ (canM m = false → v = .slice none 0 0 ∧ k = 1) ∧ (canM m = true → encX m = none → v = .slice none 0 0 ∧ k = 42) ∧ (∀ X, canM m = true → encX m = some X → k = 0 ∧ OwnR w' w.heap.size v X.b ∧ v ≠ .slice none 0 0)
def rsFrom (m : Msg) (v : MV) (j : Nat) : List Rr := ((secs m v).drop j).flatMap (·.l)
theorem rsFrom_zero (m : Msg) (v : MV) : rsFrom m v 0 = m.rs := by simp [rsFrom, secs, Msg.rs]
theorem rsFrom_at (m : Msg) (v : MV) (j : Nat) (hj : j < (secs m v).length) : rsFrom m v j = (secs m v)[j].l ++ rsFrom m v (j + 1) := by
  unfold rsFrom
  rw [List.drop_eq_getElem_cons hj, List.flatMap_cons]
theorem rsFrom_end (m : Msg) (v : MV) (j : Nat) (hj : 3 ≤ j) : rsFrom m v j = [] := by
  unfold rsFrom
  rw [List.drop_eq_nil_of_le (by simpa [secs] using hj)]
  rfl
theorem partsW_at {α : Type} (f : α → Wt → Wt) {l : List α} {k : Nat} (h : k < l.length) (X : Wt) : partsW f (l.drop k) X = if 65535 < (f l[k] X).b.length then none else partsW f (l.drop (k + 1)) (f l[k] X) := by
  rw [List.drop_eq_getElem_cons h]
  rfl
theorem headB_len (h : Hd) (a b c d : Nat) : (headB h a b c d).length = 12 := by simp [headB, tw_len]
/-- A writer that nobody has written to. -/
theorem WtM.made {w : World} {base gv c : Nat} {b : Bs} (hr : OwnR w base (.slice (some ⟨gv, 0, none⟩) b.length c) b) (hb : base ≤ w.heap.size) : WtM (w.heap.size + 1) w.heap.size 0 (.slice (some ⟨gv, 0, none⟩) b.length c) base ⟨b, fun _ => none⟩ ((w.alloc (.map #[] 0)).alloc (.cells #[.slice (some ⟨gv, 0, none⟩) b.length c, .map (some w.heap.size)] 105)) := by
  have hm := World.ownsMap_made (H := Unit) w Tryz.prog 9 intE
  exact ⟨row_new _ (by simp), (hr.alloc _).alloc _, (fun h => by cases h), ⟨_, hm.alloc _, fun n => by simp [DataW.atKey], fun n => by simp [Maps.has]⟩, (fun n p hp => by cases hp), by omega, hb⟩
theorem OwnR.lower {w : World} {base base' : Nat} {v : Value} {l : Bs} (h : OwnR w base v l) (hb : base' ≤ base) : OwnR w base' v l := by
  obtain ⟨h1, h2⟩ := h
  refine ⟨h1, ?_⟩
  rcases h2 with h2 | ⟨g, cap, cur, hv, hg, r⟩
  · exact .inl h2
  · exact .inr ⟨g, cap, cur, hv, by omega, r⟩
theorem HEnc_from (h : Hd) (n0 n1 n2 n3 : Nat) (w : World) (hm : Masks w) (base : Nat) (hb : base ≤ w.heap.size) : Calls Tryz.prog 36 #[.agg (hdC h), ctV n0 n1 n2 n3] w fun e w' => ∃ v k, e = .returned (.tuple #[v, .int .i64 k]) ∧ Below w.heap.size w w' ∧ (canHd h n0 n1 n2 n3 = false → v = .slice none 0 0 ∧ k = 1) ∧ (canHd h n0 n1 n2 n3 = true → k = 0 ∧ OwnR w' base v (headB h n0 n1 n2 n3) ∧ v ≠ .slice none 0 0) :=
  (HEnc_any h n0 n1 n2 n3 w hm).mono fun e w' ⟨v, k, h1, h2, h3, h4⟩ => ⟨v, k, h1, h2, h3, fun hc => ⟨(h4 hc).1, (h4 hc).2.1.lower hb, (h4 hc).2.2⟩⟩
theorem BM.far {W wr w1 : World} {m : Msg} {v : MV} (h : BM W m v wr) (hk : Masks W) (k : Below (W.heap.size + 1) wr w1) : BM W m v w1 := by
  have b : Below W.heap.size W w1 := Below.trans h.b (k.mono (by omega))
  exact ⟨(k.block _ (by omega)).trans h.r, hk.on b, b⟩
theorem partsW_cons {α : Type} (f : α → Wt → Wt) (x : α) (l : List α) (X : Wt) : partsW f (x :: l) X = if 65535 < (f x X).b.length then none else partsW f l (f x X) := rfl
set_option maxHeartbeats 4000000 in
set_option maxRecDepth 100000 in
theorem Encode_any (m : Msg) (v : MV) (w : World) (hM : Ms w m v) (hk : Masks w) : Calls Tryz.prog 12 #[.agg (msL m v).toArray] w (EncP w m) := by
  have HD : Hid (∀ e w', EncP w m e w' ↔ ∃ v k, e = .returned (.tuple #[v, .int .i64 k]) ∧ Below w.heap.size w w' ∧ (canM m = false → v = .slice none 0 0 ∧ k = 1) ∧ (canM m = true → encX m = none → v = .slice none 0 0 ∧ k = 42) ∧ (∀ X, canM m = true → encX m = some X → k = 0 ∧ OwnR w' w.heap.size v X.b ∧ v ≠ .slice none 0 0)) := Lib.hid (fun _ _ => Iff.rfl)
  have X0 := BM.start w m v hk
  obtain ⟨C, hC⟩ : ∃ C, C = (msL m v).toArray := ⟨_, rfl⟩
  have hCs : (Tryz.prog.info? 29).map (·.size) = some C.size := by rw [hC]; exact info_ms
  have K0 := Lib.hid (fun W (h : BM w m v W) => by have := CanM_any m v W (hM.on h.b) h.k; rw [← hC] at this; exact this)
  have K1 := Lib.hid (fun W (h : BM w m v W) => by have := counts_any m v W; rw [← hC] at this; exact this)
  have K2 := Lib.hid (fun W (h : BM w m v W) => HEnc_from m.h m.q.length m.an.length m.au.length m.ad.length W h.k (w.heap.size + 1) h.lt)
  have F1 : ∀ W, BM w m v W → loadHd (.pointer (some ⟨w.heap.size, 0, none⟩)) W = .ok (.value (.agg (hdC m.h))) W := fun W h => ms_head h.r
  have F2 : ∀ W, BM w m v W → loadMg (.pointer (some ⟨w.heap.size, 0, none⟩)) W = .ok (.value (.agg C)) W := fun W h => loadMg_row (by rw [hC]; exact h.r) hCs
  obtain ⟨hcd, hhc⟩ : ∃ z, z = hdC m.h := ⟨_, rfl⟩
  rw [← hhc] at K2 F1
  have K5 := Lib.hid (sections_any m v)
  have HIX := Lib.hid (secs_ix m v)
  have HRS := Lib.hid (fun j hj => secs_rs hM j hj)
  have HKM := Lib.hid hk
  obtain ⟨aq, haq⟩ : ∃ a, a = v.aq := ⟨_, rfl⟩
  have HQS := Lib.hid (fun W (h : BM w m v W) => by have := hM.q.on h.b; rw [← haq] at this; exact this)
  have hql := hM.lq
  obtain ⟨nq, hnq⟩ : ∃ n, n = m.q.length := ⟨_, rfl⟩
  have HCQ : Hid (∀ W, BM w m v W → W.cell? ⟨w.heap.size, 8, none⟩ = some (.slice aq nq v.cq)) := Lib.hid (fun W h => by rw [hnq, haq]; exact (ms_cell h.r).1)
  have HNQ := Lib.hid hnq
  rw [← hC] at K5
  rw [← hC] at X0 ⊢
  have HC := Lib.hid hC
  obtain ⟨cm, hcm⟩ : ∃ b, b = canM m := ⟨_, rfl⟩
  have HCM := Lib.hid hcm
  rw [← hcm] at K0 HD
  generalize hQ : EncP w m = Q at *
  clear hQ
  have fm0 := F2 _ X0
  have k0 := K0.out _ X0
  have HX0 := Lib.hid X0
  clear hM hk hhc hnq hC hCs haq hcm X0
  cases cm with
  | false =>
    have HK0 := Lib.hid k0
    clear k0 F1 F2
    go_enter Tryz.func12, Tryz.ntmps12
    go_wp2_with fail
    refine HK0.out.mono ?_
    rintro e w1 ⟨rfl, b1⟩
    have HF := Lib.hid ((HD.out (.returned (.tuple #[.slice none 0 0, .int .i64 1])) w1).2 ⟨_, _, rfl, (HX0.out.on b1).b, fun _ => ⟨rfl, rfl⟩, (fun h => by cases h), fun X h => by cases h⟩)
    go_wp2_with fail
    exact HF.out
  | true =>
    have HK0 := Lib.hid k0
    clear k0
    go_enter Tryz.func12, Tryz.ntmps12
    go_wp2_with fail
    refine HK0.out.mono ?_
    rintro e w1 ⟨rfl, b1⟩
    have X1 := HX0.out.on b1
    clear b1 fm0 HK0 K0
    go_wp2_with fail
    have hXd := X1.drew
    clear X1
    go_region_law ((first
      | (go_simp; go_at_call 37; (with_reducible refine (K1.out _ (by assumption)).mono ?_); rintro e w' ⟨rfl, hBx⟩; have hX2 := BM.on (by assumption) hBx)
      | (go_simp; go_at_call 36; (with_reducible refine (K2.out _ (by assumption)).mono ?_); rintro e w' ⟨vh, kh, rfl, hBx, hno, hyes⟩; have hX2 := BM.on (by assumption) hBx)))
    all_goals
      have hXE : BM w m v w' := by assumption
      have HXE := Lib.hid hXE
      have hcd2 : canHd m.h m.q.length m.an.length m.au.length m.ad.length = true := by
        have := HCM.out
        unfold canM at this
        cases hh : canHd m.h m.q.length m.an.length m.au.length m.ad.length with
        | true => rfl
        | false => rw [hh] at this; cases this
      obtain ⟨rfl, o1, n1⟩ := hyes hcd2
      obtain ⟨gv1, c1, hv1, -⟩ := OwnR.slice_form o1 n1
      have hXb : w.heap.size + 1 ≤ w'.heap.size := hXE.lt
      rw [hv1] at o1
      have HW0 := Lib.hid (WtM.made o1 hXb)
      rw [headB_len] at hv1 HW0
      subst hv1
      have HBX : Hid (Below w'.heap.size w' ((w'.alloc (.map #[] 0)).alloc (.cells #[.slice (some ⟨gv1, 0, none⟩) 12 c1, .map (some w'.heap.size)] 105))) := Lib.hid (Below.alloc (Below.alloc (Below.refl _ _) (Nat.le_refl _) _) (by simp) _)
      have HXF := Lib.hid (hXE.on HBX.out)
      have hmm := @run_makeMap Tryz.prog
      clear hno hyes hXd F1 K1 K2 hBx hX2 o1 n1 hcd2 hXE
      have c8 := HCQ.out _ HXF.out
      have HAQ : Hid (∀ q ∈ m.q, canQ q = true) := Lib.hid (by
        have := HCM.out
        unfold canM at this
        intro q hq
        have h2 := this.symm
        simp only [Bool.and_eq_true, List.all_eq_true] at h2
        exact h2.2.1 q hq)
      have HAR : Hid (∀ r ∈ m.rs, canR r = true) := Lib.hid (by
        have := HCM.out
        unfold canM at this
        intro q hq
        have h2 := this.symm
        simp only [Bool.and_eq_true, List.all_eq_true] at h2
        exact h2.2.2 q hq)
      have HT0 : Hid (encX m = (partsW quW (m.q.drop 0) (headM m)).bind (partsW rrW m.rs)) := Lib.hid rfl
      have HL0 : Hid ((headM m).b.length ≤ 65535) := Lib.hid (by show (headB _ _ _ _ _).length ≤ _; rw [headB_len]; omega)
      have HWN : Hid (WtM (w'.heap.size + 1) w'.heap.size 0 (.slice (some ⟨gv1, 0, none⟩) 12 c1) (w.heap.size + 1) (headM m) ((w'.alloc (.map #[] 0)).alloc (.cells #[.slice (some ⟨gv1, 0, none⟩) 12 c1, .map (some w'.heap.size)] 105)) ∧ 0 ≤ (headM m).b.length) := Lib.hid ⟨HW0.out, Nat.zero_le _⟩
      clear HW0 HCM HXE
      obtain ⟨gB, hgB⟩ : ∃ g, g = w'.heap.size + 1 := ⟨_, rfl⟩
      go_wp2_with fail
      rw [← hgB]
      rw [← hgB] at HWN
      have HGB := Lib.hid hgB
      clear hgB
      go_loopw [30] (fun v30 wr => ∃ (i N : Nat) (u : Value) (X : Wt), v30 = .int .i64 i ∧ i ≤ nq ∧ Hid (WtM gB w'.heap.size N u (w.heap.size + 1) X wr ∧ N ≤ X.b.length) ∧ Hid (BM w m v wr) ∧ Hid (X.b.length ≤ 65535) ∧ Hid (encX m = (partsW quW (m.q.drop i) X).bind (partsW rrW m.rs))) (fun v30 _ => nq - (intOf v30).toNat)
      case atStart => exact ⟨0, 0, _, headM m, rfl, by omega, HWN, HXF, HL0, HT0⟩
      case round =>
        clear HWN HXF HL0 HT0 HBX hmm
        obtain ⟨i, N, u, X, rfl, hi, HW, HB, HL, HT⟩ := hrel
        rename World => wr
        by_cases hlt : i < nq
        · have hlt' : (i : Int) < (nq : Int) := by omega
          have hiq : i < m.q.length := by rw [← HNQ.out]; exact hlt
          obtain ⟨gq, oq, hAq, hcq⟩ := HQS.out _ HB.out (by omega)
          have hr := hcq i hiq
          have ht := HT.out
          have hcq2 := HAQ.out _ (List.getElem_mem hiq)
          rw [partsW_at quW hiq] at ht
          generalize m.q[i] = q at *
          obtain ⟨r8, q8⟩ := box_row wr #[.string ⟨#[]⟩, .int .i64 0, .int .i64 0] (quL q) 23
          obtain ⟨W1, hW1⟩ : ∃ W1, W1 = (wr.alloc (.cells #[.string ⟨#[]⟩, .int .i64 0, .int .i64 0] 23)).setRow wr.heap.size (quL q).toArray := ⟨_, rfl⟩
          have rZ := row_new (w := wr) (k := wr.heap.size) (.cells #[.string ⟨#[]⟩, .int .i64 0, .int .i64 0] 23 (0, 0)) rfl
          rw [← hW1] at r8 q8
          have HB1 := HB.out.on q8
          have HH1 := HW.out.1.below q8
          have i1 : Hid ((Tryz.prog.info? 23).map (·.size) = some (quL q).toArray.size) := Lib.hid info_qu
          have j1 : Hid ((Tryz.prog.info? 23).map (·.size) = some (quL q).length) := Lib.hid info_qu
          have z1 : Hid ((#[.string ⟨#[]⟩, .int .i64 0, .int .i64 0] : Array Value).size = (quL q).toArray.size) := Lib.hid rfl
          have one1 : Hid ((quL q).toArray.all (·.oneCell') = true) := Lib.hid (qu_one q)
          have CB := Lib.hid (question_any q W1 HH1 HW.out.2 hcq2 (by have := HL.out; omega))
          have HLQ := Lib.hid (quW_len X (show can q.n = true by unfold canQ at hcq2; simp only [Bool.and_eq_true] at hcq2; exact hcq2.1))
          have HF := Lib.hid (fun X' w2 N2 v2 (k : WrQ gB w'.heap.size u (w.heap.size + 1) X' W1 w2 N2 v2) => HB1.far HKM.out (k.big HH1.big (fun i hi => HH1.base_le hi)))
          unfold quC at CB
          have HW1 := Lib.hid hW1
          have HTT := Lib.hid ht
          clear hcq ht HT hW1 q8 HB1 HH1 hcq2
          subst hAq
          generalize hl1 : quL q = l1 at *
          go_wp2_with (first
            | (refine wpList_load_mid rfl 23 (.tmp 32) rfl gq (oq + i * 3) rfl l1 _ hr Tryz.underlying23 rfl j1.out ?_)
            | (refine wpList_store_row rfl 23 (.tmp 8) (.tmp 33) rfl wr.heap.size l1.toArray rfl rfl 23 _ rZ i1.out (by first | exact z1.out | exact z1.out.symm) one1.out ?_; rw [← HW1.out])
            | (refine wpList_load_row rfl 23 (.tmp 8) rfl wr.heap.size rfl 23 l1.toArray (0, 0) _ r8 Tryz.underlying23 rfl i1.out ?_)
            | fail)
          refine CB.out.mono ?_
          rintro e w3 ⟨rfl, h3⟩
          obtain ⟨N3, v3, q3⟩ := h3.open
          have HB3 := Lib.hid (HF.out _ _ _ _ q3)
          have HQ3 := Lib.hid q3
          have LG := Lib.hid (long_any w3 q3.at')
          clear h3 q3 CB HF r8 rZ hr
          go_wp2_with fail
          refine LG.out.mono ?_
          rintro e w4 ⟨rfl, rfl⟩
          clear LG
          by_cases hlong : 65535 < (quW q X).b.length
          · have HNN : Hid (encX m = none) := Lib.hid (by rw [HTT.out, if_pos hlong]; rfl)
            rw [decide_eq_true hlong]
            have HFN := Lib.hid ((HD.out (.returned (.tuple #[.slice none 0 0, .int .i64 42])) w4).2 ⟨_, _, rfl, HB3.out.b, (fun h => by cases h), fun _ _ => ⟨rfl, rfl⟩, fun X2 _ h => by rw [HNN.out] at h; cases h⟩)
            clear HTT hlong
            go_wp2_with fail
            exact HFN.out
          · have HT2 : Hid (encX m = (partsW quW (m.q.drop (i + 1)) (quW q X)).bind (partsW rrW m.rs)) := Lib.hid (by rw [HTT.out, if_neg hlong])
            rw [decide_eq_false hlong]
            have HL2 : Hid ((quW q X).b.length ≤ 65535) := Lib.hid (by omega)
            clear HTT hlong
            go_wp2_with fail
            go_roundw
            case rel => exact ⟨i + 1, N3, v3, quW q X, by go_num, by omega, Lib.hid ⟨HQ3.out.at', HQ3.out.le⟩, HB3, HL2, HT2⟩
            case measure => simp [intOf]; omega
        · have hlt' : ¬ (i : Int) < (nq : Int) := by omega
          have HT2 : Hid (encX m = partsW rrW (rsFrom m v 0) X) := Lib.hid (by rw [HT.out, rsFrom_zero, List.drop_eq_nil_of_le (by rw [← HNQ.out]; omega)]; rfl)
          have fm := F2 wr HB.out
          clear HT HQS F2 HAQ
          go_wp2_with fail
          refine (K5.out _).mono ?_
          rintro e w5 ⟨rfl, b5⟩
          have HB5 := Lib.hid (HB.out.on b5)
          have HW5 := Lib.hid (⟨HW.out.1.below b5, HW.out.2⟩ : WtM gB w'.heap.size N u (w.heap.size + 1) X w5 ∧ N ≤ X.b.length)
          clear b5 fm K5 c8 HW HB
          go_wp2_with fail
          go_loopw [40] (fun v40 wr2 => ∃ (j N : Nat) (u : Value) (X : Wt), v40 = .int .i64 j ∧ j ≤ 3 ∧ Hid (WtM gB w'.heap.size N u (w.heap.size + 1) X wr2 ∧ N ≤ X.b.length) ∧ Hid (BM w m v wr2) ∧ Hid (X.b.length ≤ 65535) ∧ Hid (encX m = partsW rrW (rsFrom m v j) X)) (fun v40 _ => 3 - (intOf v40).toNat)
          case atStart => exact ⟨0, N, u, X, rfl, by omega, HW5, HB5, HL, HT2⟩
          case round =>
            clear HB5 HT2 HW5 HL
            obtain ⟨j, N, u, X, rfl, hj, HW, HBj, HL, HTj⟩ := hrel
            rename World => wr2
            by_cases hj3 : j < 3
            · have hj3' : (j : Int) < 3 := by omega
              have ix := HIX.out j hj3
              have hjs : j < (secs m v).length := by simpa [secs] using hj3
              have htj := HTj.out
              rw [rsFrom_at m v j hjs] at htj
              have HRJ := HRS.out j hj3
              have hin : ∀ r ∈ (secs m v)[j].l, r ∈ m.rs := fun r hr => by
                rw [← rsFrom_zero m v]
                unfold rsFrom
                rw [List.drop_zero]
                exact List.mem_flatMap.2 ⟨_, List.getElem_mem hjs, hr⟩
              obtain ⟨S, hS⟩ : ∃ S, S = (secs m v)[j] := ⟨_, rfl⟩
              rw [← hS] at htj HRJ hin
              simp only [← hS] at ix
              obtain ⟨sl, sA, sc⟩ := S
              simp only at htj HRJ hin
              obtain ⟨ns, hns⟩ : ∃ n, n = sl.length := ⟨_, rfl⟩
              have HNS := Lib.hid hns
              have ix2 : ∀ W : World, (Instr.index 107 (.agg #[.slice v.a1 m.an.length v.c1, .slice v.a2 m.au.length v.c2, .slice v.a3 m.ad.length v.c3]) (.int .i64 (j : Int))).run Tryz.prog W = .ok (.slice sA ns sc) W := fun W => by rw [hns]; exact ix W
              have HTK : Hid (encX m = partsW rrW (sl.drop 0 ++ rsFrom m v (j + 1)) X) := Lib.hid htj
              have hlim := HRJ.2
              have HRR := Lib.hid HRJ.1
              have HIN := Lib.hid hin
              rw [← hns] at hlim
              clear ix hS htj hns HRJ hin HTj
              go_wp2_with fail
              go_loopw [45] (fun v45 wr3 => ∃ (k N : Nat) (u : Value) (X : Wt), v45 = .int .i64 k ∧ k ≤ ns ∧ Hid (WtM gB w'.heap.size N u (w.heap.size + 1) X wr3 ∧ N ≤ X.b.length) ∧ Hid (BM w m v wr3) ∧ Hid (X.b.length ≤ 65535) ∧ Hid (encX m = partsW rrW (sl.drop k ++ rsFrom m v (j + 1)) X)) (fun v45 _ => ns - (intOf v45).toNat)
              case atStart => exact ⟨0, N, u, X, rfl, by omega, HW, HBj, HL, HTK⟩
              case round =>
                clear HTK HW HBj HL
                obtain ⟨k, N, u, X, rfl, hk, HW, HBk, HL, HTk⟩ := hrel
                rename World => wr3
                by_cases hlk : k < ns
                · have hlk' : (k : Int) < (ns : Int) := by omega
                  have hks : k < sl.length := by rw [← HNS.out]; exact hlk
                  obtain ⟨gr, orr, hAr, hcr⟩ := HRR.out (by omega)
                  obtain ⟨ra, rc, D1, R0⟩ := hcr k hks
                  have R1 := range_on R0 HBk.out.b
                  have htk := HTk.out
                  rw [List.drop_eq_getElem_cons hks, List.cons_append, partsW_cons] at htk
                  have hcr2 := HAR.out _ (HIN.out _ (List.getElem_mem hks))
                  generalize sl[k] = r at *
                  obtain ⟨r8, q8⟩ := box_row wr3 #[.string ⟨#[]⟩, .int .i64 0, .int .i64 0, .int .i64 0, .slice none 0 0] (rrL r ra rc) 110
                  obtain ⟨W1, hW1⟩ : ∃ W1, W1 = (wr3.alloc (.cells #[.string ⟨#[]⟩, .int .i64 0, .int .i64 0, .int .i64 0, .slice none 0 0] 110)).setRow wr3.heap.size (rrL r ra rc).toArray := ⟨_, rfl⟩
                  have rZ := row_new (w := wr3) (k := wr3.heap.size) (.cells #[.string ⟨#[]⟩, .int .i64 0, .int .i64 0, .int .i64 0, .slice none 0 0] 110 (0, 0)) rfl
                  rw [← hW1] at r8 q8
                  have HB1 := HBk.out.on q8
                  have HH1 := HW.out.1.below q8
                  have i1 : Hid ((Tryz.prog.info? 110).map (·.size) = some (rrL r ra rc).toArray.size) := Lib.hid info_rr
                  have j1 : Hid ((Tryz.prog.info? 110).map (·.size) = some (rrL r ra rc).length) := Lib.hid info_rr
                  have z1 : Hid ((#[.string ⟨#[]⟩, .int .i64 0, .int .i64 0, .int .i64 0, .slice none 0 0] : Array Value).size = (rrL r ra rc).toArray.size) := Lib.hid rfl
                  have one1 : Hid ((rrL r ra rc).toArray.all (·.oneCell') = true) := Lib.hid (rr_one r ra rc)
                  have CB := Lib.hid (record_any r ra rc W1 HH1 HW.out.2 hcr2 (fun W hb => by
                    have hw := (HB1.far HKM.out hb).b
                    have := D1.on hw
                    exact ⟨this.bys, this.le, this.max, this.nil⟩) (by have := HL.out; omega))
                  have HF := Lib.hid (fun X' w2 N2 v2 (k : WrQ gB w'.heap.size u (w.heap.size + 1) X' W1 w2 N2 v2) => HB1.far HKM.out (k.big HH1.big (fun i hi => HH1.base_le hi)))
                  unfold rrC at CB
                  have HW1 := Lib.hid hW1
                  have HTT := Lib.hid htk
                  clear hcr htk HTk hW1 q8 D1 HB1 HH1 hcr2 R0
                  subst hAr
                  generalize hl1 : rrL r ra rc = l1 at *
                  go_wp2_with (first
                    | (refine wpList_load_mid rfl 110 (.tmp 47) rfl gr (orr + k * 5) rfl l1 _ R1 Tryz.underlying110 rfl j1.out ?_)
                    | (refine wpList_store_row rfl 110 (.tmp 12) (.tmp 48) rfl wr3.heap.size l1.toArray rfl rfl 110 _ rZ i1.out (by first | exact z1.out | exact z1.out.symm) one1.out ?_; rw [← HW1.out])
                    | (refine wpList_load_row rfl 110 (.tmp 12) rfl wr3.heap.size rfl 110 l1.toArray (0, 0) _ r8 Tryz.underlying110 rfl i1.out ?_)
                    | fail)
                  refine CB.out.mono ?_
                  rintro e w6 ⟨rfl, h6⟩
                  obtain ⟨N6, v6, q6⟩ := h6.open
                  have HB6 := Lib.hid (HF.out _ _ _ _ q6)
                  have HQ6 := Lib.hid q6
                  have LG := Lib.hid (long_any w6 q6.at')
                  clear h6 q6 CB HF r8 rZ R1
                  go_wp2_with fail
                  refine LG.out.mono ?_
                  rintro e w7 ⟨rfl, rfl⟩
                  clear LG
                  by_cases hlong : 65535 < (rrW r X).b.length
                  · have HNN : Hid (encX m = none) := Lib.hid (by rw [HTT.out, if_pos hlong])
                    rw [decide_eq_true hlong]
                    have HFN := Lib.hid ((HD.out (.returned (.tuple #[.slice none 0 0, .int .i64 42])) w7).2 ⟨_, _, rfl, HB6.out.b, (fun h => by cases h), fun _ _ => ⟨rfl, rfl⟩, fun X2 _ h => by rw [HNN.out] at h; cases h⟩)
                    clear HTT hlong
                    go_wp2_with fail
                    exact HFN.out
                  · have HT2 : Hid (encX m = partsW rrW (sl.drop (k + 1) ++ rsFrom m v (j + 1)) (rrW r X)) := Lib.hid (by rw [HTT.out, if_neg hlong])
                    rw [decide_eq_false hlong]
                    have HL2 : Hid ((rrW r X).b.length ≤ 65535) := Lib.hid (by omega)
                    clear HTT hlong
                    go_wp2_with fail
                    go_roundw
                    case rel => exact ⟨k + 1, N6, v6, rrW r X, by go_num, by omega, Lib.hid ⟨HQ6.out.at', HQ6.out.le⟩, HB6, HL2, HT2⟩
                    case measure => simp [intOf]; omega
                · have hlk' : ¬ (k : Int) < (ns : Int) := by omega
                  have HT2 : Hid (encX m = partsW rrW (rsFrom m v (j + 1)) X) := Lib.hid (by rw [HTk.out, List.drop_eq_nil_of_le (by rw [← HNS.out]; omega), List.nil_append])
                  clear HTk
                  go_wp2_with fail
                  go_roundw
                  case rel => exact ⟨j + 1, N, u, X, by go_num, by omega, HW, HBk, HL, HT2⟩
                  case measure => simp [intOf]; omega
            · have hj3' : ¬ (j : Int) < 3 := by omega
              have HRT : Hid (encX m = some X) := Lib.hid (by rw [HTj.out, rsFrom_end m v j (by omega)]; rfl)
              obtain ⟨d0, -, -⟩ := HW.out.1.cells
              obtain ⟨gu, cu, hu, -⟩ := HW.out.1.form
              have HFN := Lib.hid ((HD.out (.returned (.tuple #[u, .int .i64 0])) wr2).2 ⟨_, _, rfl, HBj.out.b, (fun h => by cases h), (fun _ h => by rw [HRT.out] at h; cases h), fun X2 _ h => by
                rw [HRT.out] at h
                injection h with h
                subst h
                exact ⟨rfl, HW.out.1.row.lower (by omega), HW.out.1.nn⟩⟩)
              obtain ⟨lx, hlx⟩ : ∃ l, l = X.b.length := ⟨_, rfl⟩
              rw [← hlx] at hu
              rw [hu] at HFN d0
              clear HTj hu hlx
              go_wp2_with fail
              exact HFN.out
end Go.Proofs.YtgfahkgnblkhaaaGreatDoor
namespace Go.Proofs.YtgfahkgnblkhaaaGreatDoor
open Go.RowKit
set_option linter.unusedVariables false
set_option maxRecDepth 100000

theorem join_len_cons (x : Bs) (L : List Bs) : (join (x :: L)).length = 1 + x.length + (join L).length := by simp [join, enc]; omega
theorem nameW_keep : ∀ (L : List Bs) (X : Wt) (m : Bs), (join L).length < m.length → (nameW L X).P m = X.P m
  | [], X, m, _ => rfl
  | x :: L, X, m, h => by
    have hj := join_len_cons x L
    unfold nameW
    split
    · rfl
    · rw [nameW_keep L _ m (by omega)]
      simp only
      split
      · unfold putP
        rw [if_neg]
        intro e
        rw [e] at h
        omega
      · rfl
theorem nameW_new : ∀ (L : List Bs) (X : Wt), (∀ m : Bs, m.length ≤ (join L).length → X.P m = none) → (nameW L X).b = X.b ++ join L
  | [], X, _ => rfl
  | x :: L, X, h => by
    have hj := join_len_cons x L
    unfold nameW
    rw [h _ (Nat.le_refl _)]
    simp only
    rw [nameW_new L]
    · simp [join, enc]
    · intro m hm
      simp only
      have h1 := h m (by omega)
      split
      · unfold putP
        rw [if_neg]
        · exact h1
        · intro e
          rw [e] at hm
          omega
      · exact h1
theorem nameW_puts (x : Bs) (L : List Bs) (X : Wt) (h : X.P (join (x :: L)) = none) (hl : X.b.length < 16384) : (nameW (x :: L) X).P (join (x :: L)) = some X.b.length := by
  have hj := join_len_cons x L
  unfold nameW
  rw [h]
  simp only
  rw [nameW_keep L _ _ (by omega)]
  simp only [if_pos hl]
  unfold putP
  rw [if_pos rfl]
/-- A name that is there, or the root's. -/
def ThereW (n : Bs) (X : Wt) : Prop := n ≠ [0] → ∃ p, X.P n = some p
def ownW (n : Bs) : Nat := if n = [0] then 1 else 2
theorem nmW_there {n : Bs} {X : Wt} (hc : can n = true) (h : ThereW n X) : (nmW n X).b.length = X.b.length + ownW n ∧ (nmW n X).P = X.P := by
  obtain ⟨_, _, e, hL⟩ := can_out hc
  unfold nmW ownW
  cases hl : labels n with
  | nil =>
    rw [hl] at e
    have e2 : n = [0] := e
    rw [if_pos e2]
    exact ⟨by simp [nameW], rfl⟩
  | cons x L =>
    rw [hl] at e
    have hx : 1 ≤ x.length := (hL x (by rw [hl]; simp)).1
    have hne : n ≠ [0] := fun e2 => by
      have := congrArg List.length (e.symm.trans e2)
      rw [join_len_cons] at this
      simp [join] at this
      omega
    obtain ⟨p, hp⟩ := h hne
    rw [e] at hp
    rw [if_neg hne]
    unfold nameW
    rw [hp]
    exact ⟨by simp [tw_len], rfl⟩
theorem nmW_first {n : Bs} {X : Wt} (hc : can n = true) (h : ∀ m, X.P m = none) (hl : X.b.length < 16384) : (nmW n X).b.length = X.b.length + n.length ∧ ThereW n (nmW n X) := by
  obtain ⟨_, _, e, hL⟩ := can_out hc
  refine ⟨?_, fun hne => ?_⟩
  · unfold nmW
    rw [nameW_new _ _ (fun m _ => h m), ← e, List.length_append]
  · unfold nmW
    cases hl2 : labels n with
    | nil =>
      rw [hl2] at e
      exact absurd e hne
    | cons x L =>
      rw [hl2] at e
      refine ⟨X.b.length, ?_⟩
      rw [e]
      exact nameW_puts x L X (h _) hl
theorem names300 (d : Bs) (hd : d.length ≤ 65535) : canD 300 d = true ∧ namesD 300 d = [] ∧ aheadW 300 = 0 := by
  have hc : canD 300 d = true := by unfold canD; rw [if_neg (by omega)]; simp
  exact ⟨hc, by unfold namesD; rw [if_pos hc]; simp, rfl⟩
theorem daW_there {d : Bs} (Y : Wt) (hd : d.length ≤ 65535) : (daW 300 d Y).b.length = Y.b.length + (2 + d.length) ∧ (daW 300 d Y).P = Y.P := by
  obtain ⟨_, h3, h4⟩ := names300 d hd
  unfold daW
  rw [h3, h4]
  refine ⟨?_, rfl⟩
  simp [nmsW, sumL]
  omega
theorem rrW_there {n d : Bs} {X : Wt} (hc : can n = true) (hd : d.length ≤ 65535) (h : ThereW n X) : (rrW ⟨n, 300, 1, 0, d⟩ X).b.length = X.b.length + (ownW n + 10 + d.length) ∧ (rrW ⟨n, 300, 1, 0, d⟩ X).P = X.P := by
  obtain ⟨h1, h2⟩ := nmW_there hc h
  unfold rrW
  obtain ⟨h3, h4⟩ := daW_there (twW (0 : Int).toNat (twW ((0 : Int).toNat / 65536) (twW (1 : Int).toNat (twW (300 : Int).toNat (nmW n X))))) hd
  refine ⟨?_, h4.trans h2⟩
  rw [h3, twW_len, twW_len, twW_len, twW_len, h1]
  omega
theorem parts_there {n d : Bs} (hc : can n = true) (hd : d.length ≤ 40) : ∀ (k : Nat) (X : Wt), ThereW n X → X.b.length + k * (ownW n + 10 + d.length) ≤ 65535 → ∃ X', partsW rrW (List.replicate k ⟨n, 300, 1, 0, d⟩) X = some X' ∧ X'.b.length = X.b.length + k * (ownW n + 10 + d.length)
  | 0, X, _, _ => ⟨X, rfl, by simp⟩
  | k + 1, X, h, hl => by
    obtain ⟨h1, h2⟩ := rrW_there (d := d) hc (by omega) h
    have ih := parts_there hc hd k (rrW ⟨n, 300, 1, 0, d⟩ X) (fun hne => by rw [h2]; exact h hne)
    generalize ownW n + 10 + d.length = E at *
    rw [Nat.succ_mul] at hl ⊢
    generalize k * E = K at *
    rw [List.replicate_succ, partsW, if_neg (by omega)]
    obtain ⟨X', h3, h4⟩ := ih (by omega)
    exact ⟨X', h3, by omega⟩
end Go.Proofs.YtgfahkgnblkhaaaGreatDoor
namespace Go.Proofs.YtgfahkgnblkhaaaGreatDoor
open Go.RowKit Go.Maps
set_option linter.unusedVariables false
set_option maxRecDepth 100000

set_option maxHeartbeats 1000000 in
theorem frame_any (id : Int) (q : Qu) (w : World) (hk : Masks w) (hc : canM (qMsg id q) = true) (X : Wt) (hX : encX (qMsg id q) = some X) (hl : X.b.length ≤ 65535) : Calls Tryz.prog 17 #[.int .i64 id, .agg (quC q)] w fun e w' => ∃ v, e = .returned v ∧ OwnB w' w.heap.size v (encP X.b) ∧ Below w.heap.size w w' := by
  have M := Lib.hid (fun W => message_any id q W)
  have E := Lib.hid (fun g W (hM : Ms W (qMsg id q) (qMV g)) (h : Masks W) => Encode_any (qMsg id q) (qMV g) W hM h)
  have HK := Lib.hid hk
  have HC := Lib.hid hc
  have HX := Lib.hid hX
  have HL := Lib.hid hl
  obtain ⟨n, t, c⟩ := q
  simp only [quC, quL] at M ⊢
  generalize qMsg id ⟨n, t, c⟩ = m at *
  have B0 : Below w.heap.size w (w.alloc (.cells #[.string (bs n), .int .i64 t, .int .i64 c] 23)) := Below.alloc (Below.refl _ _) (Nat.le_refl _) _
  clear hk hc hX hl
  go_enter Tryz.func17, Tryz.ntmps17
  go_wp2_with fail
  refine (M.out _).mono ?_
  rintro e w1 ⟨g, rfl, hM, b1⟩
  have B1 := Below.trans B0 (b1.mono B0.size)
  have EE := Lib.hid (E.out g w1 hM (HK.out.on B1))
  clear E M B0 b1 hM
  generalize msL m (qMV g) = ml at *
  go_wp2_with fail
  refine EE.out.mono ?_
  rintro e w2 ⟨v, k, rfl, b2, -, -, h⟩
  obtain ⟨rfl, ho, -⟩ := h X HC.out HX.out
  have B2 := Below.trans B1 (b2.mono B1.size)
  obtain ⟨A1, c1, rfl, S1⟩ := ho.ownB.bysN
  have P := Lib.hid (encLP_any A1 X.b c1 w2 S1)
  obtain ⟨x, hx⟩ : ∃ x, x = X.b := ⟨_, rfl⟩
  rw [← hx] at P HL S1
  have HXB := Lib.hid hx
  obtain ⟨nx, hnx⟩ : ∃ nx, nx = x.length := ⟨_, rfl⟩
  rw [← hnx] at P
  rw [← hx, ← hnx]
  have HN := Lib.hid hnx
  clear EE ho h b2 S1 hnx B1 hx
  go_wp2_with fail
  refine P.out.mono ?_
  rintro e w3 ⟨b3, h3⟩
  rcases h3 with ⟨hlong, -⟩ | ⟨-, v, rfl, o3⟩
  · exact absurd HL.out (by omega)
  · have B3 := Below.trans B2 (b3.mono B2.size)
    have O3 := Lib.hid (o3.mono B2.size)
    clear o3 b3 P
    go_wp2_with fail
    go_ret
    exact ⟨v, rfl, HXB.out ▸ O3.out, B3⟩
end Go.Proofs.YtgfahkgnblkhaaaGreatDoor
namespace Go.Proofs.YtgfahkgnblkhaaaGreatDoor
open Go.RowKit Go.Maps
set_option linter.unusedVariables false
set_option maxRecDepth 100000

noncomputable def appP (v u : Value) (ty : TypeId) (w : World) : Result Next := ((Builtin.append_ #[87, 87] ty #[v, u]).run Tryz.prog w).andThen fun a w' => .ok (.value a) w'
theorem exec_appP (ev : Operand → Value) (d : Option Tmp) (x y : Operand) (t : TypeId) (p : String) (f : Array Edge) (w : World) : (execOp ev { dst := d, op := .call { callee := .builtin .append, args := #[x, y], argTypes := #[87, 87] }, type := t, pos := p, after := f, guard := none }).run Tryz.prog w = appP (ev x) (ev y) t w := by
  unfold execOp appP
  simp only [resolve, invoke, builtin, Sem.run_bind, Sem.run_pure, Result.andThen_ok, List.map_toArray, List.map_cons, List.map_nil]
attribute [local go_sem ↓] exec_appP
theorem info_pc : (Tryz.prog.info? 62).map (fun i => (i.zero, i.size, i.bytes)) = some (some (.pointer none), 1, 8) := by kernel_rfl
theorem run_app_p (w : World) (ty : TypeId) (b c g : Nat) (hM : w.cell? ⟨b, 0, none⟩ = some (.pointer (some ⟨g, 0, none⟩))) :
    ∃ v' w', appP (.slice none 0 0) (.slice (some ⟨b, 0, none⟩) 1 c) ty w = .ok (.value v') w' ∧ w'.ownsRow w.heap.size 62 1 v' 1 [.pointer (some ⟨g, 0, none⟩)] ∧ Below w.heap.size w w' := by
  obtain ⟨i0, hi, hz0, hz1, hz2⟩ := info_parts info_pc
  obtain ⟨v', w', hr, h3, h4, -, h6⟩ := run_append_own_at (P := Tryz.prog) w w.heap.size 87 ty 62 i0 (.pointer none) 1 8 Tryz.underlying87 hi hz0 hz1 hz2 rfl (by decide) (.slice none 0 0) 0 [] ⟨rfl, .inl ⟨rfl, rfl⟩⟩ ⟨b, 0, none⟩ 1 c [.pointer (some ⟨g, 0, none⟩)] rfl (fun j u hu => by
    match j, hu with
    | 0, hu => injection hu with hu; subst hu; rw [Addr.add_mid]; exact hM
    | j + 1, hu => simp at hu) (fun u hu => by simp at hu; subst hu; rfl) (by simp [maxLen]) (by omega) (Nat.le_refl _)
  refine ⟨v', w', by unfold appP; rw [hr]; rfl, h3, ?_⟩
  exact Below.grown (Below.refl _ _) h4 (Nat.le_refl _) (fun k hk => by cases hk)
theorem look_s {w : World} {m2 : Nat} (hM : w.ownsMap Tryz.prog 3 slcN m2 0 (.map [])) {a : Int} (ha : I64n a) : (Instr.lookup 36 (.map (some m2)) (.int .i64 a) false).run Tryz.prog w = .ok (.slice none 0 0) w := by
  obtain ⟨v, ps, hrun, hv⟩ := hM.lookup nKey Tryz.underlying36 (zeroSlcN w) (zd := .nil) (zp := []) rfl (keyN ha)
  rw [hrun, slcN_nil hv (by simp [DataW.atKey])]
theorem put_s {w : World} {m2 : Nat} (hM : w.ownsMap Tryz.prog 3 slcN m2 0 (.map [])) {a : Int} (ha : I64n a) {b n c : Nat} : ∃ w', (Instr.mapUpdate 36 (.map (some m2)) (.int .i64 a) (.slice (some ⟨b, 0, none⟩) n c)).run Tryz.prog w = .ok () w' ∧ w.grownBy w' (some m2) := by
  obtain ⟨w', hrun, -, hgr⟩ := hM.update nKey Tryz.underlying36 (by unfold maxLen; omega) (keyN ha) (show slcN (.slice (some ⟨b, 0, none⟩) n c) = some (.lit (.int .i64 b), []) from rfl)
  exact ⟨w', hrun, hgr⟩
theorem put_p {w : World} {m1 : Nat} (hM : w.ownsMap Tryz.prog 3 ptrN m1 0 (.map [])) {a : Int} (ha : I64n a) (b : Nat) : ∃ w', (Instr.mapUpdate 35 (.map (some m1)) (.int .i64 a) (.pointer (some ⟨b, 0, none⟩))).run Tryz.prog w = .ok () w' ∧ w.grownBy w' (some m1) := by
  obtain ⟨w', hrun, -, hgr⟩ := hM.update nKey Tryz.underlying35 (by unfold maxLen; omega) (keyN ha) (ptrN_some b)
  exact ⟨w', hrun, hgr⟩
/-- Behind a fresh pool's first dial: the pool, its connection, the net. -/
structure PoD (n m g m1 m2 gc lo : Nat) (a : Int) (w : World) : Prop where
  r : w.heap[g]? = some (.cells #[.pointer (some ⟨n, 0, none⟩), .map (some m1), .map (some m2), .int .i64 0] 38 (0, 0))
  c : ∃ gr, w.heap[gc]? = some (.cells #[.int .i64 1, .int .i64 a, .pointer (some ⟨gr, 0, none⟩), .slice none 0 0] 70 (0, 0))
  net : ∃ gx, NetS n m 1 1 [⟨1, a, gx, .slice none 0 0, []⟩] w ∧ lo ≤ gx ∧ gx < gc
def SP (n m m1 m2 : Nat) (k : Nat) : Prop := k = n ∨ k = m ∨ k = m1 ∨ k = m2
set_option maxHeartbeats 2000000 in
theorem dial_any (n m g m1 m2 : Nat) (a : Nat) (ha : a ≤ 4294967295) (w : World) (h : NetS n m 0 0 [] w) (p : PoF g n m1 m2 w) (h1 : n < m1) (h2 : m < m1) (h3 : m1 < m2) (h4 : m2 < g) :
    Calls Tryz.prog 45 #[.pointer (some ⟨g, 0, none⟩), .int .i64 a] w fun e w' => ∃ gc, e = .returned (.tuple #[.pointer (some ⟨gc, 0, none⟩), .int .i64 0]) ∧ PoD n m g m1 m2 gc w.heap.size a w' ∧ Mod (SP n m m1 m2) w w' ∧ w.heap.size ≤ gc := by
  have D := Lib.hid (Dial_yes w h (by omega) (by omega) a ha)
  have c0 := (cell_of_row _ _ 0 _ _ _ p.r).trans rfl
  have hgl : g < w.heap.size := (Array.getElem?_eq_some_iff.1 p.r).1
  have Q := Lib.hid (fun W => newP_any W)
  have P := Lib.hid p
  have ORD := Lib.hid (And.intro h1 (And.intro h2 (And.intro h3 (And.intro h4 hgl))))
  clear h p h1 h2 h3 h4 hgl
  go_enter Tryz.func45, Tryz.ntmps45
  go_wp2_with fail
  refine D.out.mono ?_
  rintro e w1 ⟨rfl, L', ⟨gx, rfl⟩, N1, M1, F1⟩
  have hgx : w.heap.size ≤ gx := by
    rcases F1 gx (.inr (.inr ⟨_, List.mem_append_right _ (List.mem_singleton.2 rfl), .inl rfl⟩)) with e | e
    · rcases e with e | e | ⟨c, hc, _⟩
      · have := N1.pg (List.mem_append_right [] (List.mem_singleton.2 rfl)); exact absurd e.symm this
      · have := N1.mg (List.mem_append_right [] (List.mem_singleton.2 rfl)); exact absurd e.symm this
      · cases hc
    · exact e
  clear D F1
  go_wp2_with fail
  refine (Q.out _).mono ?_
  rintro e w2 ⟨gr, rfl, -, b2, hgr⟩
  obtain ⟨q1, q2, q3, q4, q7⟩ := ORD.out
  have p1 := P.out
  have hs1 := M1.size
  have hs2 := b2.size
  have hgx1 : gx < w1.heap.size := N1.lt (.inr (.inr ⟨_, List.mem_append_right _ (List.mem_singleton.2 rfl), .inl rfl⟩))
  have nf : ∀ k, m < k → n < k → ¬ FootN n m [] k := fun k e1 e2 hf => by
    rcases hf with e | e | ⟨c, hc, _⟩
    · omega
    · omega
    · cases hc
  obtain ⟨W3, hW3⟩ : ∃ W3, W3 = w2.alloc (.cells #[.int .i64 1, .int .i64 a, .pointer (some ⟨gr, 0, none⟩), .slice none 0 0] 70) := ⟨_, rfl⟩
  have MA : Mod (FootN n m []) w W3 := by rw [hW3]; exact (M1.then b2).then (Below.alloc (Below.refl _ _) (Nat.le_refl _) _)
  have rp3 := MA.row p1.r (nf g (by omega) (by omega))
  have k13 := nmap_block p1.k1 (MA.block m1 (by omega) (nf m1 (by omega) (by omega)))
  have k23 := nmap_block p1.k2 (MA.block m2 (by omega) (nf m2 (by omega) (by omega)))
  have rc3 : W3.heap[w2.heap.size]? = some (.cells #[.int .i64 1, .int .i64 a, .pointer (some ⟨gr, 0, none⟩), .slice none 0 0] 70 (0, 0)) := by rw [hW3]; exact row_new _ rfl
  have hs3 : W3.heap.size = w2.heap.size + 1 := by rw [hW3]; simp
  obtain ⟨w4, run4, g4⟩ := put_p k13 (a := 1) ⟨by omega, by omega⟩ w2.heap.size
  have hs4 := g4.size
  have k24 := k23.kept g4 (by intro e; injection e with e; omega)
  have rp4 := (g4.block g (by omega) (by intro e; injection e with e; omega)).trans rp3
  have rc4 := (g4.block w2.heap.size (by omega) (by intro e; injection e with e; omega)).trans rc3
  obtain ⟨w5, hw5⟩ : ∃ w5, w5 = (w4.alloc (.cells #[.pointer (some ⟨w2.heap.size, 0, none⟩)] 62)).drew := ⟨_, rfl⟩
  have k25 : w5.ownsMap Tryz.prog 3 slcN m2 0 (.map []) := by rw [hw5]; exact (k24.alloc _).drew
  have b5 : Below w4.heap.size w4 w5 := by rw [hw5]; exact Below.drew (Below.alloc (Below.refl _ _) (Nat.le_refl _) _)
  have c5 : w5.cell? ⟨w4.heap.size, 0, none⟩ = some (.pointer (some ⟨w2.heap.size, 0, none⟩)) := by rw [hw5]; exact (cell_of_row _ _ 0 _ _ _ (row_drew (row_new _ rfl))).trans rfl
  have hs5 := b5.size
  obtain ⟨v6, w6, run6, o6, b6⟩ := run_app_p w5 87 w4.heap.size 1 w2.heap.size c5
  have k26 := nmap_block k25 (b6.block m2 (by omega))
  have hs6 := b6.size
  obtain ⟨b, cap, hv6⟩ : ∃ b cap, v6 = .slice (some ⟨b, 0, none⟩) 1 cap := by
    rcases o6.2 with ⟨_, e⟩ | ⟨b, cap, cur, e, _⟩
    · simp at e
    · exact ⟨b, cap, e⟩
  rw [hv6] at run6
  obtain ⟨w7, run7, g7⟩ := put_s k26 (a := a) ⟨by omega, by omega⟩ (b := b) (n := 1) (c := cap)
  have M37 : Mod (fun k => k = m1 ∨ k = m2) W3 w7 := (((Mod.grown (S := fun k => k = m1 ∨ k = m2) g4 (fun k e => by injection e with e; exact .inl e.symm)).then b5).then b6).trans (Mod.grown (S := fun k => k = m1 ∨ k = m2) g7 (fun k e => by injection e with e; exact .inr e.symm)) (fun i e => .inl e)
  have FIN : PoD n m g m1 m2 w2.heap.size w.heap.size a w7 := by
    refine ⟨M37.row rp3 (fun e => by omega), ⟨gr, M37.row rc3 (fun e => by omega)⟩, ⟨gx, ?_, hgx, by omega⟩⟩
    have N3 := (N1.below b2).below (Below.alloc (o := .cells #[.int .i64 1, .int .i64 a, .pointer (some ⟨gr, 0, none⟩), .slice none 0 0] 70) (Below.refl _ _) (Nat.le_refl _))
    rw [← hW3] at N3
    exact N3.mod M37 (fun k hk e => by
      rcases hk with e1 | e1 | ⟨c, hc, e1⟩
      · omega
      · omega
      · rw [List.nil_append, List.mem_singleton] at hc
        subst hc
        rcases e1 with e1 | e1
        · simp only at e1; omega
        · cases e1)
  have BF : Mod (SP n m m1 m2) w w7 := (MA.wide (S' := SP n m m1 m2) (fun i hi => by
    rcases hi with e | e | ⟨c, hc, _⟩
    · exact .inl e
    · exact .inr (.inl e)
    · cases hc)).trans M37 (fun i e => .inl (.inr (.inr e)))
  have hgc : w.heap.size ≤ w2.heap.size := by omega
  have l4 := look_s (w := w4.drew) k24.drew (a := a) ⟨by omega, by omega⟩
  have l5 := look_s k25 (a := a) ⟨by omega, by omega⟩
  have d3 := (cell_of_row _ _ 1 _ _ _ rp3).trans rfl
  have d4 : w4.drew.cell? ⟨g, 2, none⟩ = some (.map (some m2)) := (cell_of_row _ _ 2 _ _ _ (row_drew rp4)).trans rfl
  have rp5 := (b5.block g (by omega)).trans rp4
  have d5 : w5.cell? ⟨g, 2, none⟩ = some (.map (some m2)) := (cell_of_row _ _ 2 _ _ _ rp5).trans rfl
  have d6 : w6.cell? ⟨g, 2, none⟩ = some (.map (some m2)) := (cell_of_row _ _ 2 _ _ _ ((b6.block g (by omega)).trans rp5)).trans rfl
  have HF := Lib.hid FIN
  have HB := Lib.hid BF
  have HW3 := Lib.hid hW3
  have HW5 := Lib.hid hw5
  clear q1 q2 q3 q4 q7 p1 hs1 hs2 nf MA rp3 k13 k23 rc3 hs3 g4 hs4 k24 rp4 rc4 k25 b5 c5 hs5 o6 b6 k26 hs6 hv6 g7 M37 FIN BF rp5 b2 hgr hgx M1 N1 c0 hW3 Q
  subst hw5
  clear HW5
  rw [HW3.out] at d3 run4
  clear HW3
  go_wp2_with fail
  go_region
  all_goals (go_wp2_with fail; go_ret2; exact ⟨_, rfl, HF.out, HB.out, hgc⟩)
set_option maxHeartbeats 1000000 in
theorem free_any (n m g m1 m2 : Nat) (a : Nat) (ha : a ≤ 4294967295) (w : World) (h : NetS n m 0 0 [] w) (p : PoF g n m1 m2 w) (h1 : n < m1) (h2 : m < m1) (h3 : m1 < m2) (h4 : m2 < g) :
    Calls Tryz.prog 14 #[.pointer (some ⟨g, 0, none⟩), .int .i64 a] w fun e w' => ∃ gc, e = .returned (.tuple #[.pointer (some ⟨gc, 0, none⟩), .int .i64 0]) ∧ PoD n m g m1 m2 gc w.heap.size a w' ∧ Mod (SP n m m1 m2) w w' ∧ w.heap.size ≤ gc := by
  have C := Lib.hid (dial_any n m g m1 m2 a ha w h p h1 h2 h3 h4)
  have c2 := (cell_of_row _ _ 2 _ _ _ p.r).trans rfl
  have l := look_s p.k2 (a := a) ⟨by omega, by omega⟩
  clear h p h1 h2 h3 h4
  go_enter Tryz.func14, Tryz.ntmps14
  go_wp2_with fail
  refine C.out.mono ?_
  rintro e w1 ⟨gc, rfl, hp, hb, hg⟩
  go_wp2_with fail
  go_ret2
  exact ⟨_, rfl, hp, hb, hg⟩
end Go.Proofs.YtgfahkgnblkhaaaGreatDoor
namespace Go.Proofs.YtgfahkgnblkhaaaGreatDoor
open Go.RowKit Go.Maps
set_option linter.unusedVariables false
set_option maxRecDepth 100000
attribute [local go_sem ↓] exec_loadQu exec_storeOq

theorem madeP_yes (g n m1 m2 : Nat) (x : Value) (w : World) (hr : w.heap[g]? = some (.cells #[.pointer (some ⟨n, 0, none⟩), .map (some m1), .map (some m2), x] 38 (0, 0))) : Calls Tryz.prog 11 #[.pointer (some ⟨g, 0, none⟩)] w fun e w' => e = .returned (.bool true) ∧ w' = w := by
  have c0 := (cell_of_row _ _ 0 _ _ _ hr).trans rfl
  clear hr
  go_enter Tryz.func11, Tryz.ntmps11
  go_wp2_with fail
  go_ret
  exact ⟨rfl, rfl⟩
/-- An open question loaded whole; appended. -/
noncomputable def loadOq (v : Value) (w : World) : Result Next := ((Instr.loadAt 75 v).run Tryz.prog w).andThen fun a w' => .ok (.value a) w'
theorem exec_loadOq (ev : Operand → Value) (d : Option Tmp) (x : Operand) (t : TypeId) (p : String) (f : Array Edge) (gd : Option (Nat × Bool)) (w : World) : (execOp ev { dst := d, op := .load 75 x, type := t, pos := p, after := f, guard := gd }).run Tryz.prog w = loadOq (ev x) w := by
  unfold execOp loadOq
  simp only [Sem.run_bind, Sem.run_pure]
theorem loadOq_row {w1 : World} {g : Nat} {C : Array Value} (h : w1.heap[g]? = some (.cells C 75 (0, 0))) (hC : (Tryz.prog.info? 75).map (·.size) = some C.size) : loadOq (.pointer (some ⟨g, 0, none⟩)) w1 = .ok (.value (.agg C)) w1 := by
  unfold loadOq
  simp only [Instr.loadAt, Instr.sureAddr, Sem.run_bind, Sem.run_pure, Result.andThen_ok, run_loadVar_row w1 g 75 75 C (0, 0) _ h Tryz.underlying75 rfl hC]
noncomputable def appO (v u : Value) (ty : TypeId) (w : World) : Result Next := ((Builtin.append_ #[68, 68] ty #[v, u]).run Tryz.prog w).andThen fun a w' => .ok (.value a) w'
theorem exec_appO (ev : Operand → Value) (d : Option Tmp) (x y : Operand) (t : TypeId) (p : String) (f : Array Edge) (w : World) : (execOp ev { dst := d, op := .call { callee := .builtin .append, args := #[x, y], argTypes := #[68, 68] }, type := t, pos := p, after := f, guard := none }).run Tryz.prog w = appO (ev x) (ev y) t w := by
  unfold execOp appO
  simp only [resolve, invoke, builtin, Sem.run_bind, Sem.run_pure, Result.andThen_ok, List.map_toArray, List.map_cons, List.map_nil]
theorem info_oqz : (Tryz.prog.info? 75).map (fun i => (i.zero, i.size, i.bytes)) = some (some (.agg oqZ), 12, 112) := by kernel_rfl
theorem run_app_o (w : World) (ty : TypeId) (b c : Nat) (L : List Value) (hL : L.length = 12) (h1 : ∀ u ∈ L, u.oneCell' = true) (hM : w.rangeAt b 0 L) :
    ∃ v' w', appO (.slice none 0 0) (.slice (some ⟨b, 0, none⟩) 1 c) ty w = .ok (.value v') w' ∧ w'.ownsRow w.heap.size 75 12 v' 1 L ∧ Below w.heap.size w w' := by
  obtain ⟨i0, hi, hz0, hz1, hz2⟩ := info_parts info_oqz
  obtain ⟨v', w', hr, h3, h4, -, h6⟩ := run_append_own_at (P := Tryz.prog) w w.heap.size 68 ty 75 i0 (.agg oqZ) 12 112 Tryz.underlying68 hi hz0 hz1 hz2 rfl (by decide) (.slice none 0 0) 0 [] ⟨rfl, .inl ⟨rfl, rfl⟩⟩ ⟨b, 0, none⟩ 1 c L (by rw [hL]) (fun j u hu => by rw [Addr.add_mid]; exact hM j u hu) h1 (by simp [maxLen]) (by omega) (Nat.le_refl _)
  exact ⟨v', w', by unfold appO; rw [hr]; rfl, h3, Below.grown (Below.refl _ _) h4 (Nat.le_refl _) (fun k hk => by cases hk)⟩
theorem loadQu_row {w1 : World} {g : Nat} {C : Array Value} (h : w1.heap[g]? = some (.cells C 23 (0, 0))) (hC : (Tryz.prog.info? 23).map (·.size) = some C.size) : loadQu (.pointer (some ⟨g, 0, none⟩)) w1 = .ok (.value (.agg C)) w1 := by
  unfold loadQu
  simp only [Instr.loadAt, Instr.sureAddr, Sem.run_bind, Sem.run_pure, Result.andThen_ok, run_loadVar_row w1 g 23 23 C (0, 0) _ h Tryz.underlying23 rfl hC]
theorem PoF.below {g n m1 m2 : Nat} {w w1 : World} (p : PoF g n m1 m2 w) (hB : Below w.heap.size w w1) : PoF g n m1 m2 w1 := ⟨(hB.block _ (Array.getElem?_eq_some_iff.1 p.r).1).trans p.r, nmap_block p.k1 (hB.block _ p.k1.lt), nmap_block p.k2 (hB.block _ p.k2.lt)⟩
/-- While Ask runs: the pool, the connection, the question's box, the answer's cell. -/
structure AkX (n g m1 m2 gc bq : Nat) (a l : Int) (v : Value) (C : Array Value) (w : World) : Prop where
  r : w.heap[g]? = some (.cells #[.pointer (some ⟨n, 0, none⟩), .map (some m1), .map (some m2), .int .i64 l] 38 (0, 0))
  c : ∃ gr, w.heap[gc]? = some (.cells #[.int .i64 1, .int .i64 a, .pointer (some ⟨gr, 0, none⟩), v] 70 (0, 0))
  q : w.heap[bq]? = some (.cells C 23 (0, 0))
  o : w.heap[bq + 1]? = some (.cells #[.int .i64 0, .int .i64 0, .int .i64 0, .int .i64 0, .string ⟨#[]⟩, .int .i64 0, .int .i64 0] 41 (0, 0))
section
variable {n g m1 m2 gc bq : Nat} {a l : Int} {v : Value} {C : Array Value} {w w1 : World}
theorem AkX.mod {S : Nat → Prop} (h : AkX n g m1 m2 gc bq a l v C w) (k : Mod S w w1) (h1 : ¬ S g) (h2 : ¬ S gc) (h3 : ¬ S bq) (h4 : ¬ S (bq + 1)) : AkX n g m1 m2 gc bq a l v C w1 := by
  obtain ⟨gr, hc⟩ := h.c
  exact ⟨k.row h.r h1, ⟨gr, k.row hc h2⟩, k.row h.q h3, k.row h.o h4⟩
theorem AkX.on (h : AkX n g m1 m2 gc bq a l v C w) (k : Below w.heap.size w w1) : AkX n g m1 m2 gc bq a l v C w1 := h.mod (Mod.below (S := fun _ => False) k) id id id id
theorem AkX.drew (h : AkX n g m1 m2 gc bq a l v C w) : AkX n g m1 m2 gc bq a l v C w.drew := h.on (Below.drew (Below.refl _ _))
theorem AkX.lt (h : AkX n g m1 m2 gc bq a l v C w) : g < w.heap.size ∧ gc < w.heap.size ∧ bq + 1 < w.heap.size := by
  obtain ⟨gr, hc⟩ := h.c
  exact ⟨(Array.getElem?_eq_some_iff.1 h.r).1, (Array.getElem?_eq_some_iff.1 hc).1, (Array.getElem?_eq_some_iff.1 h.o).1⟩
theorem AkX.alloc (h : AkX n g m1 m2 gc bq a l v C w) (o : Obj) : AkX n g m1 m2 gc bq a l v C (w.alloc o) := h.on (Below.alloc (Below.refl _ _) (Nat.le_refl _) _)
theorem AkX.set {W : World} (h : AkX n g m1 m2 gc bq a l v C w) (hW : AkX n g m1 m2 gc bq a l v C W) {k : Nat} (hk : W.heap.size ≤ k) (x : Array Value) : AkX n g m1 m2 gc bq a l v C (w.setRow k x) := by
  obtain ⟨h1, h2, h3⟩ := hW.lt
  obtain ⟨gr, hc⟩ := h.c
  exact ⟨(setRow_other _ _ _ _ (by omega)).trans h.r, ⟨gr, (setRow_other _ _ _ _ (by omega)).trans hc⟩, (setRow_other _ _ _ _ (by omega)).trans h.q, (setRow_other _ _ _ _ (by omega)).trans h.o⟩
theorem AkX.set' (h : AkX n g m1 m2 gc bq a l v C w) (o : Obj) (x : Array Value) : AkX n g m1 m2 gc bq a l v C ((w.alloc o).setRow w.heap.size x) := (h.alloc o).set h (Nat.le_refl _) x
theorem AkX.c0 (h : AkX n g m1 m2 gc bq a l v C w) : w.cell? ⟨gc, 0, none⟩ = some (.int .i64 1) := by obtain ⟨gr, hc⟩ := h.c; exact (cell_of_row _ _ 0 _ _ _ hc).trans rfl
theorem AkX.c3 (h : AkX n g m1 m2 gc bq a l v C w) : w.cell? ⟨gc, 3, none⟩ = some v := by obtain ⟨gr, hc⟩ := h.c; exact (cell_of_row _ _ 3 _ _ _ hc).trans rfl
theorem AkX.p0 (h : AkX n g m1 m2 gc bq a l v C w) : w.cell? ⟨g, 0, none⟩ = some (.pointer (some ⟨n, 0, none⟩)) := (cell_of_row _ _ 0 _ _ _ h.r).trans rfl
theorem AkX.p3 (h : AkX n g m1 m2 gc bq a l v C w) : w.cell? ⟨g, 3, none⟩ = some (.int .i64 l) := (cell_of_row _ _ 3 _ _ _ h.r).trans rfl
end
theorem results_ask {c : Value} {tmps : Array Value} {W : World} {g : Nat} {cs : Array Value} (h2 : tmps.getD 10 undef = .pointer (some ⟨g, 0, none⟩)) (h3 : tmps.getD 11 undef = c)
    (r2 : W.heap[g]? = some (.cells cs 41 (0, 0))) (hs : cs.size = 7) :
    (results Tryz.f4 tmps).run Tryz.prog W = .ok (.tuple #[.agg cs, c]) W := by
  have q0 : (loadVar 41 ⟨g, 0, none⟩).run Tryz.prog W = .ok (.agg cs) W := run_loadVar_row W g 41 41 cs (0, 0) _ r2 Tryz.underlying41 rfl (by rw [hs]; exact info_as)
  subst h3
  have h2' : tmps[10]?.getD undef = .pointer (some ⟨g, 0, none⟩) := by simpa using h2
  simp [results, Tryz.results4, asAddr, h2', q0]
attribute [local go_sem ↓] exec_loadOq exec_appO
set_option maxHeartbeats 4000000 in
theorem askF_any (n m g m1 m2 : Nat) (a : Nat) (ha : a ≤ 4294967295) (q : Qu) (draw now : Int) (hd : 0 ≤ draw) (hd2 : draw ≤ 65535) (hq : q.n.length ≤ 255) (w : World) (h : NetS n m 0 0 [] w) (p : PoF g n m1 m2 w) (h1 : n < m1) (h2 : m < m1) (h3 : m1 < m2) (h4 : m2 < g)
    (hk : Masks w) (hkm : ∀ W, Mod (SP n m m1 m2) w W → Masks W) (hc : ∀ id, 0 ≤ id → id ≤ 65535 → canM (qMsg id q) = true) (X : Int → Wt) (hX : ∀ id, encX (qMsg id q) = some (X id)) (hl : ∀ id, (X id).b.length ≤ 65535) :
    Calls Tryz.prog 4 #[.pointer (some ⟨g, 0, none⟩), .int .i64 a, .agg (quC q), .int .i64 draw, .int .i64 now] w fun e w' => e = .returned (.tuple #[.agg (asL 1 1 draw a q).toArray, .int .i64 0]) ∧ (∃ S : Nat → Prop, (∀ i, S i → SP n m m1 m2 i ∨ i = g) ∧ Mod S w w') ∧ ∃ gx v, NetS n m 1 1 [⟨1, a, gx, v, encP (X draw).b⟩] w' ∧ ∀ k, FootN n m [⟨1, a, gx, v, encP (X draw).b⟩] k → k = n ∨ k = m ∨ w.heap.size ≤ k := by
  obtain ⟨C, hC⟩ : ∃ C, C = quC q := ⟨_, rfl⟩
  have MD := Lib.hid (fun W hr => madeP_yes g n m1 m2 (.int .i64 0) W hr)
  have ME := Lib.hid (fun W => message_any 0 q W)
  have EN := Lib.hid (fun g W (hM : Ms W (qMsg 0 q) (qMV g)) (h : Masks W) => Encode_any (qMsg 0 q) (qMV g) W hM h)
  have EX : Hid (canM (qMsg 0 q) = true ∧ encX (qMsg 0 q) = some (X 0)) := Lib.hid ⟨hc 0 (by omega) (by omega), hX 0⟩
  rw [← hC] at ME
  rw [← hC]
  have HCS : (Tryz.prog.info? 23).map (·.size) = some C.size := by rw [hC]; exact info_qu
  have F : ∀ W : World, W.heap[w.heap.size]? = some (.cells C 23 (0, 0)) → loadQu (.pointer (some ⟨w.heap.size, 0, none⟩)) W = .ok (.value (.agg C)) W := fun W h => loadQu_row h HCS
  have HC := Lib.hid hC
  obtain ⟨W0, hW0⟩ : ∃ W0, W0 = (w.alloc (.cells C 23)).alloc (.cells #[.int .i64 0, .int .i64 0, .int .i64 0, .int .i64 0, .string ⟨#[]⟩, .int .i64 0, .int .i64 0] 41) := ⟨_, rfl⟩
  have B0 : Below w.heap.size w W0 := by rw [hW0]; exact Below.alloc (Below.alloc (Below.refl _ _) (Nat.le_refl _) _) (by simp) _
  have rq0 : W0.heap[w.heap.size]? = some (.cells C 23 (0, 0)) := by rw [hW0]; exact row_old _ (row_new _ rfl)
  have ro0 : W0.heap[w.heap.size + 1]? = some (.cells #[.int .i64 0, .int .i64 0, .int .i64 0, .int .i64 0, .string ⟨#[]⟩, .int .i64 0, .int .i64 0] 41 (0, 0)) := by rw [hW0]; exact row_new _ (by simp)
  have p0 := p.below B0
  have hgl : g < w.heap.size := (Array.getElem?_eq_some_iff.1 p.r).1
  have ORD := Lib.hid (And.intro h1 (And.intro h2 (And.intro h3 (And.intro h4 hgl))))
  have HN := Lib.hid h
  have HP := Lib.hid p
  have HK := Lib.hid hk
  have HKM := Lib.hid hkm
  have HXX := Lib.hid hX
  have HCC := Lib.hid hc
  have HLL := Lib.hid hl
  have HW0 := Lib.hid hW0
  clear hC h p h1 h2 h3 h4 hk hkm hX hc hl hgl
  go_enter Tryz.func4, Tryz.ntmps4
  go_wp2_with fail
  rw [← hW0]
  clear hW0
  refine (MD.out _ p0.r).mono ?_
  rintro e w1 ⟨rfl, rfl⟩
  clear MD
  go_wp2_with fail
  refine (ME.out _).mono ?_
  rintro e w2 ⟨gm, rfl, hM, b2⟩
  have EE := Lib.hid (EN.out gm w2 hM ((HK.out.on B0).on b2))
  clear EN ME hM
  generalize msL (qMsg 0 q) (qMV gm) = ml at *
  go_wp2_with fail
  refine EE.out.mono ?_
  rintro e w3 ⟨v, k, rfl, b3, -, -, he⟩
  obtain ⟨rfl, -, -⟩ := he (X 0) EX.out.1 EX.out.2
  have b13 : Below w1.heap.size w1 w3 := Below.trans b2 (b3.mono b2.size)
  have B3 : Below w.heap.size w w3 := Below.trans B0 (b13.mono B0.size)
  have C3 := Lib.hid (free_any n m g m1 m2 a ha w3 (HN.out.below B3) (HP.out.below B3) ORD.out.1 ORD.out.2.1 ORD.out.2.2.1 ORD.out.2.2.2.1)
  clear EE EX he b2 b3
  go_wp2_with fail
  refine C3.out.mono ?_
  rintro e w4 ⟨gc, rfl, hp4, hm4, hgc⟩
  obtain ⟨q1, q2, q3, q4, q5⟩ := ORD.out
  have hs1 := B3.size
  have hs0 : w.heap.size + 2 ≤ w1.heap.size := by rw [HW0.out]; simp
  have hs3 := b13.size
  have A4 : AkX n g m1 m2 gc w.heap.size a 0 (.slice none 0 0) C w4 :=
    ⟨hp4.r, hp4.c, hm4.row ((b13.block _ (by omega)).trans rq0) (fun e => by unfold SP at e; omega), hm4.row ((b13.block _ (by omega)).trans ro0) (fun e => by unfold SP at e; omega)⟩
  obtain ⟨gr, hcr⟩ := A4.c
  have FI := Lib.hid (freeID_any gc _ _ _ draw w4 hcr hd hd2)
  obtain ⟨gx, N4, hx1, hx2⟩ := hp4.net
  have M4 : Mod (SP n m m1 m2) w w4 := (Mod.below (S := SP n m m1 m2) B3).trans hm4 (fun i e => .inl e)
  clear C3 hp4 hm4 hcr p0 rq0 ro0 b13 B3 B0
  go_wp2_with fail
  refine FI.out.mono ?_
  rintro e w5 ⟨rfl, b5⟩
  have A5 := A4.on b5
  have N5 := N4.below b5
  have M5 := M4.then b5
  have hs5 := b5.size
  have hs4 := M4.size
  have hgc5 : gc < w5.heap.size := by obtain ⟨_, hc5⟩ := A5.c; exact (Array.getElem?_eq_some_iff.1 hc5).1
  clear A4 N4 M4 b5 FI
  have KF := Lib.hid (frame_any draw q w5.drew (HKM.out _ M5.drew) (HCC.out draw hd hd2) (X draw) (HXX.out draw) (HLL.out draw))
  have F2 : ∀ W, AkX n g m1 m2 gc w.heap.size a 0 (.slice none 0 0) C W → loadQu (.pointer (some ⟨w.heap.size, 0, none⟩)) W = .ok (.value (.agg C)) W := fun W h => loadQu_row h.q HCS
  have F3 : ∀ W, AkX n g m1 m2 gc w.heap.size a 0 (.slice none 0 0) C W → W.cell? ⟨g, 0, none⟩ = some (.pointer (some ⟨n, 0, none⟩)) := fun W h => h.p0
  have F4 : ∀ W, AkX n g m1 m2 gc w.heap.size a 0 (.slice none 0 0) C W → W.cell? ⟨gc, 0, none⟩ = some (.int .i64 1) := fun W h => h.c0
  rw [← HC.out] at KF
  generalize hxx : encP (X draw).b = x at *
  have hxl : x.length ≤ 65537 := by rw [← hxx]; simp [encP]; have := HLL.out draw; omega
  have HXL := Lib.hid hxl
  have HXQ := Lib.hid hxx
  have N5d : NetS n m 1 1 [⟨1, a, gx, .slice none 0 0, []⟩] w5.drew := N5.below (Below.drew (Below.refl _ _))
  have KW : Hid (∀ (W : World) A cp, Below w5.drew.heap.size w5.drew W → Sl W A cp x → AkX n g m1 m2 gc w.heap.size a 0 (.slice none 0 0) C W → Calls Tryz.prog 16 #[.pointer (some ⟨n, 0, none⟩), .int .i64 1, .slice A x.length cp] W fun e w' => e = .returned (.int .i64 0) ∧ AkX n g m1 m2 gc w.heap.size a 0 (.slice none 0 0) C w' ∧ (∃ v, NetS n m 1 1 [⟨1, a, gx, v, x⟩] w' ∧ ∀ k, FootN n m [⟨1, a, gx, v, x⟩] k → k = n ∨ k = m ∨ k = gx ∨ w5.heap.size ≤ k) ∧ Mod (fun k => SP n m m1 m2 k ∨ k = gx) W w') := Lib.hid (fun W A cp hB hS hA => by
    refine (Write_yes W (N5d.below hB) 1 ⟨by omega, by omega⟩ (c := ⟨1, a, gx, .slice none 0 0, []⟩) rfl A x x.length cp rfl hS.bys hS.nil (by simp; omega)).mono ?_
    rintro e w' ⟨rfl, L', ⟨v', rfl⟩, N', M', FF⟩
    have ft : ∀ k, FootN n m [⟨1, a, gx, .slice none 0 0, []⟩] k → k = n ∨ k = m ∨ k = gx := fun k hk => by
      rcases hk with e | e | ⟨c, hc, e⟩
      · exact .inl e
      · exact .inr (.inl e)
      · rw [List.mem_singleton] at hc
        subst hc
        rcases e with e | e
        · exact .inr (.inr e)
        · cases e
    refine ⟨rfl, hA.mod M' (fun e => by have := ft _ e; omega) (fun e => by have := ft _ e; omega) (fun e => by have := ft _ e; omega) (fun e => by have := ft _ e; omega), ⟨v', ?_, fun k hk => ?_⟩, M'.wide (fun i hi => by unfold SP; have := ft _ hi; omega)⟩
    · simpa [setC] using N'
    · rcases FF k (by simpa [setC] using hk) with e | e
      · have := ft _ e; omega
      · have := hB.size; have : w5.drew.heap.size = w5.heap.size := rfl; omega)
  have HA5 := Lib.hid A5
  have HM5 := Lib.hid M5
  clear F N5 N5d hxx hxl
  go_wp2_with fail
  go_region_held3 (fun w' => AkX n g m1 m2 gc w.heap.size a 0 (.slice none 0 0) C w')
    (first | assumption | exact AkX.drew (by assumption) | exact AkX.on (by assumption) (by assumption) | exact AkX.on (AkX.drew (by assumption)) (by assumption))
    (first
      | (go_at_call 17; (with_reducible refine KF.out.mono ?_); rintro e w6 ⟨v6, rfl, o6, b6⟩; obtain ⟨A6, cp6, rfl, S6⟩ := o6.bysN; have A6x := AkX.on (AkX.drew A5) b6)
      | (go_at_call 16; (with_reducible refine (KW.out _ _ _ (by assumption) (by assumption) (by assumption)).mono ?_); rintro e w7 ⟨rfl, A7, N7, M7⟩))
  obtain ⟨v7, N7, FT7⟩ := N7
  have hs6 := b6.size
  have hs7 := M7.size
  have hd5 : w5.drew.heap.size = w5.heap.size := rfl
  have M57 : Mod (SP n m m1 m2) w w7 := (M5.drew.then b6).trans M7 (fun i e => by rcases e with e | e; exact .inl e; exact .inr (by omega))
  have e3 := A7.p3
  have z3 : w7.frozen? ⟨g, 3, none⟩ = false := frozen_of_row _ _ _ _ _ A7.r
  obtain ⟨w8, hw8⟩ : ∃ w8, w8 = w7.setCell ⟨g, 3, none⟩ (.int .i64 1) := ⟨_, rfl⟩
  have M8 : Mod (fun k => k = g ∨ k = gc ∨ k = w.heap.size + 1) w7 w8 := by
    rw [hw8]
    exact ⟨rfl, rfl, rfl, by simp, fun i _ hn => Below.heap_setCell _ _ _ _ (fun e => hn (.inl e))⟩
  have A8 : AkX n g m1 m2 gc w.heap.size a 1 (.slice none 0 0) C w8 := by
    obtain ⟨gr8, hc8⟩ := A7.c
    refine ⟨by rw [hw8]; exact row_set _ A7.r, ⟨gr8, by rw [hw8]; exact (Below.heap_setCell _ _ _ _ (by show gc ≠ g; omega)).trans hc8⟩, ?_, ?_⟩
    · rw [hw8]; exact (Below.heap_setCell _ _ _ _ (by show w.heap.size ≠ g; omega)).trans A7.q
    · rw [hw8]; exact (Below.heap_setCell _ _ _ _ (by show w.heap.size + 1 ≠ g; omega)).trans A7.o
  have HW8 := Lib.hid hw8
  have HN7 := Lib.hid N7
  have HFT7 := Lib.hid FT7
  have HM57 := Lib.hid M57
  have HM8 := Lib.hid M8
  obtain ⟨qn, qt, qc⟩ := q
  have F5 : ∀ W, AkX n g m1 m2 gc w.heap.size a 1 (.slice none 0 0) C W → loadQu (.pointer (some ⟨w.heap.size, 0, none⟩)) W = .ok (.value (.agg #[.string (bs qn), .int .i64 qt, .int .i64 qc])) W := fun W h => by rw [loadQu_row h.q HCS, HC.out]; rfl
  have F6 : ∀ W, AkX n g m1 m2 gc w.heap.size a 1 (.slice none 0 0) C W → W.cell? ⟨g, 3, none⟩ = some (.int .i64 1) := fun W h => h.p3
  have F7 : ∀ W, AkX n g m1 m2 gc w.heap.size a 1 (.slice none 0 0) C W → W.cell? ⟨gc, 0, none⟩ = some (.int .i64 1) := fun W h => h.c0
  clear F2 F3 F4 KF KW A5 M5 b6 S6 o6 A6x A7 N7 FT7 M7 M57 M8 hw8 hs6 hs7 hd5 HXX HCC HLL HKM HK HXL HA5 HM5
  go_wp2_with fail
  rw [← HW8.out]
  have KN := Lib.hid (fun W => newQ_any 1 1 draw a ⟨qn, qt, qc⟩ now W hq)
  have KC := Lib.hid (fun W => copyO_any 1 1 draw a ⟨qn, qt, qc⟩ now W hq)
  have hIo := info_oq
  have hIa := info_as
  simp only [asL, oqL, tiL, List.cons_append, List.nil_append] at KN KC ⊢
  generalize lower qn = ln at KN KC
  have F8 : ∀ (W : World), storeOq (.pointer (some ⟨W.heap.size, 0, none⟩)) (.agg #[.int .i64 1, .int .i64 1, .int .i64 draw, .int .i64 a, .string (bs qn), .int .i64 qt, .int .i64 qc, .int .i64 draw, .string (bs ln), .int .i64 qt, .int .i64 qc, .int .i64 now]) (W.alloc (.cells #[.int .i64 0, .int .i64 0, .int .i64 0, .int .i64 0, .string ⟨#[]⟩, .int .i64 0, .int .i64 0, .int .i64 0, .string ⟨#[]⟩, .int .i64 0, .int .i64 0, .int .i64 0] 75)) = .ok .skip ((W.alloc (.cells #[.int .i64 0, .int .i64 0, .int .i64 0, .int .i64 0, .string ⟨#[]⟩, .int .i64 0, .int .i64 0, .int .i64 0, .string ⟨#[]⟩, .int .i64 0, .int .i64 0, .int .i64 0] 75)).setRow W.heap.size #[.int .i64 1, .int .i64 1, .int .i64 draw, .int .i64 a, .string (bs qn), .int .i64 qt, .int .i64 qc, .int .i64 draw, .string (bs ln), .int .i64 qt, .int .i64 qc, .int .i64 now]) := fun W => storeOq_row (row_new _ rfl) rfl rfl (by simp [Value.oneCell'])
  have F9 : ∀ (W : World), W.heap[w8.heap.size]? = some (.cells #[.int .i64 0, .int .i64 0, .int .i64 0, .int .i64 0, .string ⟨#[]⟩, .int .i64 0, .int .i64 0, .int .i64 0, .string ⟨#[]⟩, .int .i64 0, .int .i64 0, .int .i64 0] 75 (0, 0)) → storeOq (.pointer (some ⟨w8.heap.size, 0, none⟩)) (.agg #[.int .i64 1, .int .i64 1, .int .i64 draw, .int .i64 a, .string (bs qn), .int .i64 qt, .int .i64 qc, .int .i64 draw, .string (bs ln), .int .i64 qt, .int .i64 qc, .int .i64 now]) W = .ok .skip (W.setRow w8.heap.size #[.int .i64 1, .int .i64 1, .int .i64 draw, .int .i64 a, .string (bs qn), .int .i64 qt, .int .i64 qc, .int .i64 draw, .string (bs ln), .int .i64 qt, .int .i64 qc, .int .i64 now]) := fun W h => storeOq_row h rfl rfl (by simp [Value.oneCell'])
  go_region_held3 (fun w' => AkX n g m1 m2 gc w.heap.size a 1 (.slice none 0 0) C w')
    (first | assumption | exact AkX.drew (by assumption) | exact AkX.alloc (by assumption) _ | exact AkX.on (by assumption) (by assumption) | exact AkX.on (AkX.drew (by assumption)) (by assumption) | exact AkX.on (AkX.drew (AkX.alloc (by assumption) _)) (by assumption) | exact AkX.on (AkX.alloc (AkX.drew (by assumption)) _) (by assumption) | exact AkX.set' (by assumption) _ _ | exact AkX.set hX9 A8 (Nat.le_refl _) _)
    (first
      | (go_at_call 18; (with_reducible refine (KN.out _).mono ?_); rintro e w9 ⟨rfl, hBx⟩; (first | (have hX9 := AkX.on (AkX.drew A8) hBx) | (have hX9 := AkX.on (AkX.drew (AkX.alloc A8 _)) hBx) | (have hX9 := AkX.on (AkX.alloc (AkX.drew A8) _) hBx)); first | (have hZ : w9.heap[w8.heap.size]? = some (.cells #[.int .i64 0, .int .i64 0, .int .i64 0, .int .i64 0, .string ⟨#[]⟩, .int .i64 0, .int .i64 0, .int .i64 0, .string ⟨#[]⟩, .int .i64 0, .int .i64 0, .int .i64 0] 75 (0, 0)) := late_row hBx) | (have hZ : w9.heap[w8.heap.size]? = some (.cells #[.int .i64 0, .int .i64 0, .int .i64 0, .int .i64 0, .string ⟨#[]⟩, .int .i64 0, .int .i64 0, .int .i64 0, .string ⟨#[]⟩, .int .i64 0, .int .i64 0, .int .i64 0] 75 (0, 0)) := late_row_d hBx) | skip))
  all_goals
    have b89 : Below w8.heap.size w8 w9 := by
      first
        | exact Below.trans (Below.drew (Below.refl _ _)) hBx
        | exact Below.trans (Below.drew (Below.alloc (Below.refl _ _) (Nat.le_refl _) _)) (hBx.mono (by simp))
        | exact Below.trans (Below.alloc (Below.drew (Below.refl _ _)) (Nat.le_refl _) _) (hBx.mono (by simp))
    first
      | (have rO := setRow_heap _ _ _ #[.int .i64 1, .int .i64 1, .int .i64 draw, .int .i64 a, .string (bs qn), .int .i64 qt, .int .i64 qc, .int .i64 draw, .string (bs ln), .int .i64 qt, .int .i64 qc, .int .i64 now] _ _ hZ
         have AA := AkX.set hX9 A8 (Nat.le_refl _) #[.int .i64 1, .int .i64 1, .int .i64 draw, .int .i64 a, .string (bs qn), .int .i64 qt, .int .i64 qc, .int .i64 draw, .string (bs ln), .int .i64 qt, .int .i64 qc, .int .i64 now]
         have MM := Below.setRow b89 (Nat.le_refl _) #[.int .i64 1, .int .i64 1, .int .i64 draw, .int .i64 a, .string (bs qn), .int .i64 qt, .int .i64 qc, .int .i64 draw, .string (bs ln), .int .i64 qt, .int .i64 qc, .int .i64 now]
         have hgo := Nat.le_refl w8.heap.size
         generalize w9.setRow w8.heap.size #[.int .i64 1, .int .i64 1, .int .i64 draw, .int .i64 a, .string (bs qn), .int .i64 qt, .int .i64 qc, .int .i64 draw, .string (bs ln), .int .i64 qt, .int .i64 qc, .int .i64 now] = wa at *
         obtain ⟨go, hgo1⟩ : ∃ go, go = w8.heap.size := ⟨_, rfl⟩
         rw [← hgo1] at rO
         rw [← hgo1]
         replace hgo : w8.heap.size ≤ go := by omega)
      | (have rO := setRow_heap _ _ _ #[.int .i64 1, .int .i64 1, .int .i64 draw, .int .i64 a, .string (bs qn), .int .i64 qt, .int .i64 qc, .int .i64 draw, .string (bs ln), .int .i64 qt, .int .i64 qc, .int .i64 now] _ _ (row_new (w := w9) (.cells #[.int .i64 0, .int .i64 0, .int .i64 0, .int .i64 0, .string ⟨#[]⟩, .int .i64 0, .int .i64 0, .int .i64 0, .string ⟨#[]⟩, .int .i64 0, .int .i64 0, .int .i64 0] 75 (0, 0)) rfl)
         have AA := AkX.set' hX9 (.cells #[.int .i64 0, .int .i64 0, .int .i64 0, .int .i64 0, .string ⟨#[]⟩, .int .i64 0, .int .i64 0, .int .i64 0, .string ⟨#[]⟩, .int .i64 0, .int .i64 0, .int .i64 0] 75) #[.int .i64 1, .int .i64 1, .int .i64 draw, .int .i64 a, .string (bs qn), .int .i64 qt, .int .i64 qc, .int .i64 draw, .string (bs ln), .int .i64 qt, .int .i64 qc, .int .i64 now]
         have MM := Below.setRow (Below.alloc b89 b89.size (.cells #[.int .i64 0, .int .i64 0, .int .i64 0, .int .i64 0, .string ⟨#[]⟩, .int .i64 0, .int .i64 0, .int .i64 0, .string ⟨#[]⟩, .int .i64 0, .int .i64 0, .int .i64 0] 75)) b89.size #[.int .i64 1, .int .i64 1, .int .i64 draw, .int .i64 a, .string (bs qn), .int .i64 qt, .int .i64 qc, .int .i64 draw, .string (bs ln), .int .i64 qt, .int .i64 qc, .int .i64 now]
         have hgo := b89.size
         generalize (w9.alloc (.cells #[.int .i64 0, .int .i64 0, .int .i64 0, .int .i64 0, .string ⟨#[]⟩, .int .i64 0, .int .i64 0, .int .i64 0, .string ⟨#[]⟩, .int .i64 0, .int .i64 0, .int .i64 0] 75)).setRow w9.heap.size #[.int .i64 1, .int .i64 1, .int .i64 draw, .int .i64 a, .string (bs qn), .int .i64 qt, .int .i64 qc, .int .i64 draw, .string (bs ln), .int .i64 qt, .int .i64 qc, .int .i64 now] = wa at *
         obtain ⟨go, hgo1⟩ : ∃ go, go = w9.heap.size := ⟨_, rfl⟩
         rw [← hgo1] at rO
         rw [← hgo1]
         replace hgo : w8.heap.size ≤ go := by omega)
    have hl8 := A8.lt
    have hla := (Array.getElem?_eq_some_iff.1 rO).1
    obtain ⟨wb, hwb⟩ : ∃ wb, wb = (wa.alloc (.cells #[.int .i64 1, .int .i64 1, .int .i64 draw, .int .i64 a, .string (bs qn), .int .i64 qt, .int .i64 qc, .int .i64 draw, .string (bs ln), .int .i64 qt, .int .i64 qc, .int .i64 now] 75)).drew := ⟨_, rfl⟩
    have bab : Below wa.heap.size wa wb := by rw [hwb]; exact Below.drew (Below.alloc (Below.refl _ _) (Nat.le_refl _) _)
    have rb : wb.heap[wa.heap.size]? = some (.cells #[.int .i64 1, .int .i64 1, .int .i64 draw, .int .i64 a, .string (bs qn), .int .i64 qt, .int .i64 qc, .int .i64 draw, .string (bs ln), .int .i64 qt, .int .i64 qc, .int .i64 now] 75 (0, 0)) := by rw [hwb]; exact row_drew (row_new _ rfl)
    have AB := AA.on bab
    have rOb : wb.heap[go]? = some (.cells #[.int .i64 1, .int .i64 1, .int .i64 draw, .int .i64 a, .string (bs qn), .int .i64 qt, .int .i64 qc, .int .i64 draw, .string (bs ln), .int .i64 qt, .int .i64 qc, .int .i64 now] 75 (0, 0)) := (bab.block go hla).trans rO
    obtain ⟨v', wc, run1, o1, bbc⟩ := run_app_o wb 68 wa.heap.size 1 (#[.int .i64 1, .int .i64 1, .int .i64 draw, .int .i64 a, .string (bs qn), .int .i64 qt, .int .i64 qc, .int .i64 draw, .string (bs ln), .int .i64 qt, .int .i64 qc, .int .i64 now]).toList rfl (by simp [Value.oneCell']) (fun j u hu => by rw [cell_of_row _ _ (0 + j) _ _ _ rb]; simpa using hu)
    obtain ⟨vb, cap, hv'⟩ : ∃ b cap, v' = .slice (some ⟨b, 0, none⟩) 1 cap := by
      rcases o1.2 with ⟨_, e⟩ | ⟨b, cap, cur, e, _⟩
      · simp at e
      · exact ⟨b, cap, e⟩
    rw [hv'] at run1
    have AC := AB.on bbc
    have rOc : wc.heap[go]? = some (.cells #[.int .i64 1, .int .i64 1, .int .i64 draw, .int .i64 a, .string (bs qn), .int .i64 qt, .int .i64 qc, .int .i64 draw, .string (bs ln), .int .i64 qt, .int .i64 qc, .int .i64 now] 75 (0, 0)) := (bbc.block go (by have := bab.size; omega)).trans rOb
    have k3a : wa.drew.cell? ⟨gc, 3, none⟩ = some (.slice none 0 0) := AA.drew.c3
    have k3b := AB.c3
    have k3c := AC.c3
    have z3c : wc.frozen? ⟨gc, 3, none⟩ = false := by obtain ⟨_, hc⟩ := AC.c; exact frozen_of_row _ _ _ _ _ hc
    have y1 : loadOq (.pointer (some ⟨go, 0, none⟩)) wa.drew = .ok (.value (.agg #[.int .i64 1, .int .i64 1, .int .i64 draw, .int .i64 a, .string (bs qn), .int .i64 qt, .int .i64 qc, .int .i64 draw, .string (bs ln), .int .i64 qt, .int .i64 qc, .int .i64 now])) wa.drew := loadOq_row (row_drew rO) hIo
    have y2 : loadOq (.pointer (some ⟨go, 0, none⟩)) wb = .ok (.value (.agg #[.int .i64 1, .int .i64 1, .int .i64 draw, .int .i64 a, .string (bs qn), .int .i64 qt, .int .i64 qc, .int .i64 draw, .string (bs ln), .int .i64 qt, .int .i64 qc, .int .i64 now])) wb := loadOq_row rOb hIo
    obtain ⟨wd, hwd⟩ : ∃ wd, wd = wc.setCell ⟨gc, 3, none⟩ (.slice (some ⟨vb, 0, none⟩) 1 cap) := ⟨_, rfl⟩
    have hne : go ≠ gc := by omega
    have y3 : loadOq (.pointer (some ⟨go, 0, none⟩)) wd = .ok (.value (.agg #[.int .i64 1, .int .i64 1, .int .i64 draw, .int .i64 a, .string (bs qn), .int .i64 qt, .int .i64 qc, .int .i64 draw, .string (bs ln), .int .i64 qt, .int .i64 qc, .int .i64 now])) wd := loadOq_row (by rw [hwd]; exact row_other _ rOc hne) hIo
    have od : wd.heap[w.heap.size + 1]? = some (.cells #[.int .i64 0, .int .i64 0, .int .i64 0, .int .i64 0, .string ⟨#[]⟩, .int .i64 0, .int .i64 0] 41 (0, 0)) := by rw [hwd]; exact (Below.heap_setCell _ _ _ _ (by show w.heap.size + 1 ≠ gc; omega)).trans AC.o
    have Md : Mod (fun k => k = g ∨ k = gc ∨ k = w.heap.size + 1) w7 wd := (((HM8.out.then MM).then bab).then bbc).trans (S' := fun k => k = gc) (by rw [hwd]; exact ⟨rfl, rfl, rfl, by simp, fun i _ hn => Below.heap_setCell _ _ _ _ hn⟩) (fun i e => .inl (.inr (.inl e)))
    have HMd := Lib.hid Md
    have HOd := Lib.hid od
    have HWD := Lib.hid hwd
    clear F5 F6 F7 F8 F9 KN hBx hX9 A8 b89 rO AA MM hgo hgo1 hl8 hla bab rb AB rOb o1 bbc hv' AC rOc hne od Md hwd
    subst hwb
    go_wp2_with fail
    go_region
    all_goals
      rw [← HWD.out]
      go_wp2_with fail
      refine (KC.out _).mono ?_
      rintro e we ⟨rfl, be⟩
      have oe := (be.block _ (Array.getElem?_eq_some_iff.1 HOd.out).1).trans HOd.out
      have RF := setRow_heap _ _ _ #[.int .i64 1, .int .i64 1, .int .i64 draw, .int .i64 a, .string (bs qn), .int .i64 qt, .int .i64 qc] _ _ oe
      have Mf : Mod (fun k => k = g ∨ k = gc ∨ k = w.heap.size + 1) w7 (we.setRow (w.heap.size + 1) #[.int .i64 1, .int .i64 1, .int .i64 draw, .int .i64 a, .string (bs qn), .int .i64 qt, .int .i64 qc]) := (HMd.out.then be).trans (S' := fun k => k = w.heap.size + 1) ⟨rfl, rfl, rfl, by rw [size_setRow]; exact Nat.le_refl _, fun i _ hn => setRow_other _ _ _ _ hn⟩ (fun i e => .inl (.inr (.inr e)))
      have NF := HN7.out.mod Mf (fun k hk e => by have := HFT7.out k hk; omega)
      have MF : Mod (fun i => SP n m m1 m2 i ∨ i = g) w (we.setRow (w.heap.size + 1) #[.int .i64 1, .int .i64 1, .int .i64 draw, .int .i64 a, .string (bs qn), .int .i64 qt, .int .i64 qc]) := (HM57.out.wide (S' := fun i => SP n m m1 m2 i ∨ i = g) (fun i e => .inl e)).trans Mf (fun i e => by
        rcases e with e | e | e
        · exact .inl (.inr e)
        · exact .inr (by omega)
        · exact .inr (by omega))
      have HNF := Lib.hid NF
      have HMF := Lib.hid MF
      clear NF MF Mf be
      go_wp2_with (first
        | (refine wpList_store_row rfl 41 (.tmp 10) (.tmp 94) rfl (w.heap.size + 1) #[.int .i64 1, .int .i64 1, .int .i64 draw, .int .i64 a, .string (bs qn), .int .i64 qt, .int .i64 qc] rfl rfl 41 _ oe hIa rfl (by simp [Value.oneCell']) ?_)
        | fail)
      refine bodyPost_ret (v := .tuple #[.agg #[.int .i64 1, .int .i64 1, .int .i64 draw, .int .i64 a, .string (bs qn), .int .i64 qt, .int .i64 qc], .int .i64 0]) (results_ask rfl rfl RF rfl) rfl ?_
      exact ⟨rfl, ⟨_, fun i h => h, HMF.out⟩, gx, v7, by rw [HXQ.out]; exact HNF.out, fun k hk => by
        rw [HXQ.out] at hk
        have := HFT7.out k hk
        omega⟩
end Go.Proofs.YtgfahkgnblkhaaaGreatDoor
namespace Go.Proofs.YtgfahkgnblkhaaaGreatDoor
open Go.RowKit Go.Maps
set_option linter.unusedVariables false
set_option maxRecDepth 100000

def q1 : Qu := ⟨[0], 1, 1⟩
theorem can_0 : can [0] = true := by decide +kernel
theorem can_q1 (id : Int) (h0 : 0 ≤ id) (h1 : id ≤ 65535) : canM (qMsg id q1) = true := by
  have h2 : canQ q1 = true := by simp [canQ, q1, can_0]
  have h3 : canHd (qMsg id q1).h 1 0 0 0 = true := by simp [canHd, canH, qMsg]; omega
  show (canHd (qMsg id q1).h 1 0 0 0 && ([q1].all canQ && ([] : List Rr).all canR)) = true
  rw [h3]
  simp [h2]
theorem enc_q1 (id : Int) : ∃ X, encX (qMsg id q1) = some X ∧ X.b.length = 17 := by
  obtain ⟨X0, hX0⟩ : ∃ X0, X0 = headM (qMsg id q1) := ⟨_, rfl⟩
  have h0 : X0.b.length = 12 := by rw [hX0]; exact headB_len _ _ _ _ _
  have hP : ∀ m, X0.P m = none := by rw [hX0]; exact fun m => rfl
  have h1 : (quW q1 X0).b.length = 17 := by
    obtain ⟨e1, -⟩ := nmW_first can_0 hP (by omega)
    unfold quW; rw [twW_len, twW_len]; show (nmW [0] X0).b.length + 2 + 2 = 17; rw [e1, h0]; rfl
  refine ⟨quW q1 X0, ?_, h1⟩
  unfold encX
  rw [← hX0]
  show ((partsW quW [q1] X0).bind (partsW rrW [])) = _
  rw [partsW, if_neg (by omega)]
  simp [partsW]
set_option maxHeartbeats 2000000 in
theorem asks_any (w : World) (hk : Masks w) : Calls Tryz.prog 10 #[] w fun e w' => e = .returned (.bool true) ∧ Below w.heap.size w w' := by
  have N := Lib.hid (NewN_any w)
  go_enter Tryz.func10, Tryz.ntmps10
  go_wp2_with fail
  refine N.out.mono ?_
  rintro e w1 ⟨rfl, n1, b1, z1⟩
  have P := Lib.hid (NewP_any _ _ _ _ w1 n1)
  have HN1 := Lib.hid n1
  have HB1 := Lib.hid b1
  have HZ1 := Lib.hid z1
  clear n1 b1 z1 N
  go_wp2_with fail
  refine P.out.mono ?_
  rintro e w2 ⟨rfl, p2, b2⟩
  have hMk : ∀ W, Mod (SP (w.heap.size + 1) w.heap.size w1.heap.size (w1.heap.size + 1)) w2 W → Masks W := fun W hM => hk.on (Below.trans (Below.trans HB1.out (b2.mono HB1.out.size)) (hM.toBelow (by have := b2.size; have := HB1.out.size; omega) (fun i hi => by have := HZ1.out; unfold SP at hi; omega)))
  have AK := Lib.hid (askF_any (w.heap.size + 1) w.heap.size (w1.heap.size + 2) w1.heap.size (w1.heap.size + 1) 5 (by omega) q1 9 0 (by omega) (by omega) (by simp [q1]) w2 (HN1.out.below b2) p2 (by have := HZ1.out; omega) (by have := HZ1.out; omega) (by omega) (by omega) (hMk w2 (Mod.refl _ _)) hMk can_q1 (fun id => (enc_q1 id).choose) (fun id => (enc_q1 id).choose_spec.1) (fun id => by rw [(enc_q1 id).choose_spec.2]; omega))
  have hxl : (encP ((enc_q1 9).choose).b).length = 19 := by simp [encP, (enc_q1 9).choose_spec.2]
  generalize encP ((enc_q1 9).choose).b = x at *
  have B2 := Below.trans HB1.out (b2.mono HB1.out.size)
  have hs2 := b2.size
  have HX := Lib.hid hxl
  simp only [quC, quL, q1, bs] at AK
  clear P p2 hMk b2 hxl
  go_wp2_with fail
  refine AK.out.mono ?_
  rintro e w3 ⟨rfl, ⟨S, hS, M3⟩, gx, v3, N3, FT3⟩
  simp only [asL]
  obtain ⟨w4, hw4⟩ : ∃ w4, w4 = w3.alloc (.cells #[.int .i64 1, .int .i64 1, .int .i64 9, .int .i64 5, .string (bs [0]), .int .i64 1, .int .i64 1] 41) := ⟨_, rfl⟩
  have b34 : Below w3.heap.size w3 w4 := by rw [hw4]; exact Below.alloc (Below.refl _ _) (Nat.le_refl _) _
  have r4 : w4.heap[w3.heap.size]? = some (.cells #[.int .i64 1, .int .i64 1, .int .i64 9, .int .i64 5, .string (bs [0]), .int .i64 1, .int .i64 1] 41 (0, 0)) := by rw [hw4]; exact row_new _ rfl
  have hs3 := M3.size
  have TK := Lib.hid (Take_yes w4 (N3.below b34) 1 ⟨by omega, by omega⟩ (c := ⟨1, ((5 : Nat) : Int), gx, v3, x⟩) rfl (by show x.length ≤ _; rw [HX.out]; omega))
  have hft : Hid (¬ FootN (w.heap.size + 1) w.heap.size [⟨1, ((5 : Nat) : Int), gx, v3, x⟩] w3.heap.size) := Lib.hid (fun hf => by have := N3.lt hf; omega)
  have hfb : Hid (∀ i, FootN (w.heap.size + 1) w.heap.size [⟨1, ((5 : Nat) : Int), gx, v3, x⟩] i → w.heap.size ≤ i) := Lib.hid (fun i hi => by have := FT3 i hi; have := HZ1.out; omega)
  have B3 : Below w.heap.size w w4 := Below.trans (B2.trans (M3.toBelow (by have := HZ1.out; omega) (fun i hi => by have := HZ1.out; have := hS i hi; unfold SP at this; omega))) (b34.mono (by have := HZ1.out; omega))
  have HW4 := Lib.hid hw4
  have HR4 := Lib.hid r4
  have HB3 := Lib.hid B3
  clear AK M3 N3 FT3 hS hw4 b34 r4 B2 B3 hs2
  go_wp2_with fail
  rw [← HW4.out]
  refine TK.out.mono ?_
  rintro e w5 ⟨v', rfl, o5, L', -, -, M5, -⟩
  have r5 := M5.row HR4.out hft.out
  have B5 := HB3.out.trans (M5.toBelow (by have := HB3.out.size; omega) hfb.out)
  have d0 := (cell_of_row _ _ 0 _ _ _ r5).trans rfl
  have d2 := (cell_of_row _ _ 2 _ _ _ r5).trans rfl
  obtain ⟨va, vc, hv, -, -, -⟩ := row_slice o5
  subst hv
  have hl : (x.length : Int) = 19 := by have := HX.out; omega
  clear TK o5 M5 r5 HX hs3
  generalize x.length = xl at *
  obtain rfl : xl = 19 := by omega
  go_wp2_with fail
  go_ret
  exact ⟨rfl, B5⟩
end Go.Proofs.YtgfahkgnblkhaaaGreatDoor
namespace Go.Proofs.YtgfahkgnblkhaaaGreatDoor
open Go.RowKit Go.Maps
set_option linter.unusedVariables false
set_option maxRecDepth 100000

/-- A pointer to a pool that no call made. -/
def NobP (w : World) (p : Value) : Prop := p = .pointer none ∨ ∃ g, p = .pointer (some ⟨g, 0, none⟩) ∧ w.heap[g]? = some (.cells #[.pointer none, .map none, .map none, .int .i64 0] 38 (0, 0))
theorem NobP.on {w w1 : World} {p : Value} (h : NobP w p) (k : Below w.heap.size w w1) : NobP w1 p := by
  rcases h with h | ⟨g, h, hr⟩
  · exact .inl h
  · exact .inr ⟨g, h, (k.block _ (Array.getElem?_eq_some_iff.1 hr).1).trans hr⟩
theorem madeP_nob (p : Value) (w : World) (h : NobP w p) : Calls Tryz.prog 11 #[p] w fun e w' => e = .returned (.bool false) ∧ w' = w := by
  rcases h with rfl | ⟨g, rfl, hr⟩
  · go_enter Tryz.func11, Tryz.ntmps11
    go_wp2_with fail
    go_ret
    exact ⟨rfl, rfl⟩
  · have c0 := (cell_of_row _ g 0 _ _ _ hr).trans rfl
    clear hr
    go_enter Tryz.func11, Tryz.ntmps11
    go_wp2_with fail
    go_ret
    exact ⟨rfl, rfl⟩
theorem findP_nob (p x : Value) (w : World) (h : NobP w p) : Calls Tryz.prog 20 #[p, x] w fun e w' => e = .returned (.pointer none) ∧ w' = w := by
  have M := Lib.hid (madeP_nob p w h)
  clear h
  go_enter Tryz.func20, Tryz.ntmps20
  go_wp2_with fail
  refine M.out.mono ?_
  rintro e w1 ⟨rfl, rfl⟩
  go_wp2_with fail
  go_ret
  exact ⟨rfl, rfl⟩
theorem FeedP_nob (p x y z : Value) (w : World) (h : NobP w p) : Calls Tryz.prog 5 #[p, x, y, z] w fun e w' => e = .returned (.slice none 0 0) ∧ w' = w := by
  have M := Lib.hid (findP_nob p x w h)
  clear h
  go_enter Tryz.func5, Tryz.ntmps5
  go_wp2_with fail
  refine M.out.mono ?_
  rintro e w1 ⟨rfl, rfl⟩
  go_wp2_with fail
  go_ret
  exact ⟨rfl, rfl⟩
theorem EndedP_nob (p x : Value) (w : World) (h : NobP w p) : Calls Tryz.prog 6 #[p, x] w fun e w' => e = .returned (.slice none 0 0) ∧ Below w.heap.size w w' := by
  have M := Lib.hid (findP_nob p x w h)
  have B : Below w.heap.size w (w.alloc (.cells #[.pointer none] 62)) := Below.alloc (Below.refl _ _) (Nat.le_refl _) _
  have d := (cell_of_row _ _ 0 _ _ _ (row_new (w := w) (.cells #[.pointer none] 62 (0, 0)) rfl)).trans rfl
  clear h
  go_enter Tryz.func6, Tryz.ntmps6
  go_wp2_with fail
  refine M.out.mono ?_
  rintro e w1 ⟨rfl, rfl⟩
  go_wp2_with fail
  go_ret
  exact ⟨rfl, B⟩
theorem TickP_nob (p : Value) (x : Int) (w : World) (h : NobP w p) : Calls Tryz.prog 7 #[p, .int .i64 x] w fun e w' => e = .returned (.slice none 0 0) ∧ Below w.heap.size w w' := by
  have B : Below w.heap.size w (w.alloc (.cells #[.int .i64 x] 3)) := Below.alloc (Below.refl _ _) (Nat.le_refl _) _
  have M := Lib.hid (madeP_nob p _ (h.on B))
  clear h
  go_enter Tryz.func7, Tryz.ntmps7
  go_wp2_with fail
  refine M.out.mono ?_
  rintro e w1 ⟨rfl, rfl⟩
  go_wp2_with fail
  go_ret
  exact ⟨rfl, B⟩
theorem OpenP_nob (p : Value) (w : World) (h : NobP w p) : Calls Tryz.prog 8 #[p] w fun e w' => e = .returned (.slice none 0 0) ∧ Below w.heap.size w w' := by
  have M := Lib.hid (madeP_nob p w h)
  clear h
  go_enter Tryz.func8, Tryz.ntmps8
  go_wp2_with fail
  refine M.out.mono ?_
  rintro e w1 ⟨rfl, rfl⟩
  go_wp2_with fail
  go_ret
  exact ⟨rfl, Below.refl _ _⟩
end Go.Proofs.YtgfahkgnblkhaaaGreatDoor
namespace Go.Proofs.YtgfahkgnblkhaaaGreatDoor
open Go.RowKit Go.Maps
set_option linter.unusedVariables false
set_option maxRecDepth 100000

def NobNt (w : World) (p : Value) : Prop := p = .pointer none ∨ ∃ g, p = .pointer (some ⟨g, 0, none⟩) ∧ w.heap[g]? = some (.cells #[.map none, .int .i64 0] 53 (0, 0))
theorem madeNt_nob (p : Value) (w : World) (h : NobNt w p) : Calls Tryz.prog 76 #[p] w fun e w' => e = .returned (.bool false) ∧ w' = w := by
  rcases h with rfl | ⟨g, rfl, hr⟩
  · go_enter Tryz.func76, Tryz.ntmps76
    go_wp2_with fail
    go_ret
    exact ⟨rfl, rfl⟩
  · have c0 := (cell_of_row _ g 0 _ _ _ hr).trans rfl
    have hm := run_neq_map_nil (P := Tryz.prog) w 51 3 117 none Tryz.underlying51
    clear hr
    go_enter Tryz.func76, Tryz.ntmps76
    go_wp2_with fail
    go_ret
    exact ⟨rfl, rfl⟩
theorem findNt_nob (p x : Value) (w : World) (h : NobNt w p) : Calls Tryz.prog 48 #[p, x] w fun e w' => e = .returned (.tuple #[.pointer none, .int .i64 2]) ∧ w' = w := by
  have M := Lib.hid (madeNt_nob p w h)
  clear h
  go_enter Tryz.func48, Tryz.ntmps48
  go_wp2_with fail
  refine M.out.mono ?_
  rintro e w1 ⟨rfl, rfl⟩
  go_wp2_with fail
  go_ret2
  exact ⟨rfl, rfl⟩
theorem WriteNt_nob (p x y : Value) (w : World) (h : NobNt w p) : Calls Tryz.prog 16 #[p, x, y] w fun e w' => e = .returned (.int .i64 2) ∧ w' = w := by
  have M := Lib.hid (findNt_nob p x w h)
  clear h
  go_enter Tryz.func16, Tryz.ntmps16
  go_wp2_with fail
  refine M.out.mono ?_
  rintro e w1 ⟨rfl, rfl⟩
  go_wp2_with fail
  go_ret
  exact ⟨rfl, rfl⟩
theorem NewP_nob (p : Value) (w : World) (h : NobNt w p) : Calls Tryz.prog 9 #[p] w fun e w' => e = .returned (.tuple #[.pointer none, .int .i64 2]) ∧ w' = w := by
  have M := Lib.hid (WriteNt_nob p (.int .i64 0) (.slice none 0 0) w h)
  clear h
  go_enter Tryz.func9, Tryz.ntmps9
  go_wp2_with fail
  refine M.out.mono ?_
  rintro e w1 ⟨rfl, rfl⟩
  go_wp2_with fail
  go_ret2
  exact ⟨rfl, rfl⟩
set_option maxHeartbeats 1000000 in
theorem AskP_nob (p a n t c d k : Value) (w : World) (h : NobP w p) : Calls Tryz.prog 4 #[p, a, .agg #[n, t, c], d, k] w fun e w' => e = .returned (.tuple #[.agg #[.int .i64 0, .int .i64 0, .int .i64 0, .int .i64 0, .string ⟨#[]⟩, .int .i64 0, .int .i64 0], .int .i64 2]) ∧ Below w.heap.size w w' := by
  have B : Below w.heap.size w ((w.alloc (.cells #[n, t, c] 23)).alloc (.cells #[.int .i64 0, .int .i64 0, .int .i64 0, .int .i64 0, .string ⟨#[]⟩, .int .i64 0, .int .i64 0] 41)) := Below.alloc (Below.alloc (Below.refl _ _) (Nat.le_refl _) _) (by simp) _
  have M := Lib.hid (madeP_nob p _ (h.on B))
  clear h
  go_enter Tryz.func4, Tryz.ntmps4
  go_wp2_with fail
  refine M.out.mono ?_
  rintro e w1 ⟨rfl, rfl⟩
  go_wp2_with fail
  refine bodyPost_ret (v := .tuple #[.agg #[.int .i64 0, .int .i64 0, .int .i64 0, .int .i64 0, .string ⟨#[]⟩, .int .i64 0, .int .i64 0], .int .i64 2]) (results_ask rfl rfl (row_new _ (by simp)) rfl) rfl ?_
  exact ⟨rfl, B⟩
end Go.Proofs.YtgfahkgnblkhaaaGreatDoor
namespace Go.Proofs.YtgfahkgnblkhaaaGreatDoor
open Go.RowKit Go.Maps
set_option linter.unusedVariables false
set_option maxRecDepth 100000

/-- The call in its box, the two pools, ahead of a world that grows. -/
structure PX (w0 : World) (L : Array Value) (wr : World) : Prop where
  d : wr.heap[w0.heap.size]? = some (.cells L 32 (0, 0))
  s : wr.heap[w0.heap.size + 2]? = some (.cells #[.pointer none, .pointer (some ⟨w0.heap.size + 1, 0, none⟩)] 33 (0, 0))
  p : wr.heap[w0.heap.size + 1]? = some (.cells #[.pointer none, .map none, .map none, .int .i64 0] 38 (0, 0))
  b : Below w0.heap.size w0 wr
section
variable {w0 wr w1 : World} {L : Array Value}
theorem PX.on (h : PX w0 L wr) (k : Below wr.heap.size wr w1) : PX w0 L w1 := ⟨(k.block _ (Array.getElem?_eq_some_iff.1 h.d).1).trans h.d, (k.block _ (Array.getElem?_eq_some_iff.1 h.s).1).trans h.s, (k.block _ (Array.getElem?_eq_some_iff.1 h.p).1).trans h.p, Below.trans h.b (k.mono h.b.size)⟩
theorem PX.cell (h : PX w0 L wr) {j : Nat} {x : Value} (hj : L[j]? = some x) : wr.cell? ⟨w0.heap.size, j, none⟩ = some x := (cell_of_row _ _ j _ _ _ h.d).trans hj
theorem PX.at (h : PX w0 L wr) {i : Nat} (hi : i < 2) : ∃ p, wr.cell? ⟨w0.heap.size + 2, i, none⟩ = some p ∧ NobP wr p := by
  match i, hi with
  | 0, _ => exact ⟨_, (cell_of_row _ _ 0 _ _ _ h.s).trans rfl, .inl rfl⟩
  | 1, _ => exact ⟨_, (cell_of_row _ _ 1 _ _ _ h.s).trans rfl, .inr ⟨_, rfl, h.p⟩⟩
end
/-- While the pools are asked: besides, what Ask answered. -/
structure PY (w0 : World) (L : Array Value) (p : Value) (g : Nat) (wr : World) : Prop where
  x : PX w0 L wr
  n : NobP wr p
  a : wr.heap[g]? = some (.cells #[.int .i64 0, .int .i64 0, .int .i64 0, .int .i64 0, .string ⟨#[]⟩, .int .i64 0, .int .i64 0] 41 (0, 0))
theorem PY.on {w0 wr w1 : World} {L : Array Value} {p : Value} {g : Nat} (h : PY w0 L p g wr) (k : Below wr.heap.size wr w1) : PY w0 L p g w1 := ⟨h.x.on k, h.n.on k, (k.block _ (Array.getElem?_eq_some_iff.1 h.a).1).trans h.a⟩
theorem PY.drew {w0 wr : World} {L : Array Value} {p : Value} {g : Nat} (h : PY w0 L p g wr) : PY w0 L p g wr.drew := h.on (Below.drew (Below.refl _ _))
noncomputable def neqAs (v u : Value) (w : World) : Result Next := ((do eqGuard .neq 41 (.tmp 0) (.tmp 0) v u; binOp .neq 41 v u : Sem Value).run Tryz.prog w).andThen fun a w' => .ok (.value a) w'
attribute [local go_sem ↓] exec_loadAs exec_loadQu
set_option maxHeartbeats 4000000 in
set_option maxRecDepth 100000 in
theorem PoolNobody_any (x0 x1 x2 x4 x5 x6 x7 x8 x9 x10 x11 x12 x13 x14 x15 x16 x17 x18 x19 x20 x21 x22 : Value) (k3 : Int) (w : World) (hk : Masks w) : Calls Tryz.prog 3 #[.agg #[x0, x1, x2, .int .i64 k3, x4, x5, x6, x7, x8, x9, x10, x11, x12, x13, x14, x15, x16, x17, x18, x19, x20, x21, x22]] w fun e w' => e = .returned (.bool true) ∧ Below w.heap.size w w' := by

  obtain ⟨L, hL⟩ : ∃ L : Array Value, L = #[x0, x1, x2, .int .i64 k3, x4, x5, x6, x7, x8, x9, x10, x11, x12, x13, x14, x15, x16, x17, x18, x19, x20, x21, x22] := ⟨_, rfl⟩
  obtain ⟨W, hW⟩ : ∃ W, W = ((w.alloc (.cells L 32)).alloc (.cells #[.pointer none, .map none, .map none, .int .i64 0] 38)).alloc (.cells #[.pointer none, .pointer (some ⟨w.heap.size + 1, 0, none⟩)] 33) := ⟨_, rfl⟩
  have X0 : PX w L W := by
    rw [hW]
    exact ⟨row_old _ (row_old _ (row_new _ rfl)), row_new _ (by simp), row_old _ (row_new _ (by simp)), Below.alloc (Below.alloc (Below.alloc (Below.refl _ _) (Nat.le_refl _) _) (by simp) _) (by simp; omega) _⟩
  have F1 : ∀ W, PX w L W → W.cell? ⟨w.heap.size, 1, none⟩ = some x1 := fun W h => h.cell (by rw [hL]; rfl)
  have F2 : ∀ W, PX w L W → W.cell? ⟨w.heap.size, 2, none⟩ = some x2 := fun W h => h.cell (by rw [hL]; rfl)
  have F3 : ∀ W, PX w L W → W.cell? ⟨w.heap.size, 3, none⟩ = some (.int .i64 k3) := fun W h => h.cell (by rw [hL]; rfl)
  have F4 : ∀ W, PX w L W → W.cell? ⟨w.heap.size, 4, none⟩ = some x4 := fun W h => h.cell (by rw [hL]; rfl)
  have F6 : ∀ W, PX w L W → loadQu (.pointer (some ⟨w.heap.size, 6, none⟩)) W = .ok (.value (.agg #[x6, x7, x8])) W := fun W h => loadQu_mid (l := [x6, x7, x8]) (fun j v hv => by
    rw [cell_of_row _ _ (6 + j) _ _ _ h.d, hL]
    match j, hv with
    | 0, hv => exact hv
    | 1, hv => exact hv
    | 2, hv => exact hv
    | j + 3, hv => simp at hv) info_qu
  have F21 : ∀ W, PX w L W → W.cell? ⟨w.heap.size, 21, none⟩ = some x21 := fun W h => h.cell (by rw [hL]; rfl)
  have HX := Lib.hid X0
  have HK := Lib.hid hk
  have HLL := Lib.hid hL
  have HWW := Lib.hid hW
  clear X0 hk hW
  rw [← hL]
  clear hL
  go_enter Tryz.func3, Tryz.ntmps3
  go_wp2_with fail
  rw [← HWW.out]
  go_loopw [15] (fun v15 wr => ∃ i : Nat, v15 = .int .i64 i ∧ i ≤ 2 ∧ Hid (PX w L wr)) (fun v15 _ => 2 - (intOf v15).toNat)
  case atStart => exact ⟨0, rfl, by omega, HX⟩
  case round =>
    obtain ⟨i, rfl, hi, HXi⟩ := hrel
    rename World => wr
    by_cases hlt : i < 2
    · have hlt' : (i : Int) < 2 := by omega
      obtain ⟨p, hp, hn⟩ := HXi.out.at hlt
      have AK := Lib.hid (AskP_nob p x1 x6 x7 x8 x2 (.int .i64 k3) wr hn)
      have e1 := F1 _ HXi.out
      have e2 := F2 _ HXi.out
      have e3 := F3 _ HXi.out
      have e6 := F6 _ HXi.out
      have HN := Lib.hid hn
      clear hn
      go_wp2_with fail
      refine AK.out.mono ?_
      rintro e w1 ⟨rfl, b1⟩
      obtain ⟨w2, hw2⟩ : ∃ w2, w2 = w1.alloc (.cells #[.int .i64 0, .int .i64 0, .int .i64 0, .int .i64 0, .string ⟨#[]⟩, .int .i64 0, .int .i64 0] 41) := ⟨_, rfl⟩
      have Y2 : PY w L p w1.heap.size w2 := by
        rw [hw2]
        exact ⟨(HXi.out.on b1).on (Below.alloc (Below.refl _ _) (Nat.le_refl _) _), (HN.out.on b1).on (Below.alloc (Below.refl _ _) (Nat.le_refl _) _), row_new _ rfl⟩
      have G3 : ∀ W, PY w L p w1.heap.size W → W.cell? ⟨w.heap.size, 3, none⟩ = some (.int .i64 k3) := fun W h => F3 W h.x
      have G4 : ∀ W, PY w L p w1.heap.size W → W.cell? ⟨w.heap.size, 4, none⟩ = some x4 := fun W h => F4 W h.x
      have G21 : ∀ W, PY w L p w1.heap.size W → W.cell? ⟨w.heap.size, 21, none⟩ = some x21 := fun W h => F21 W h.x
      have GA : ∀ W, PY w L p w1.heap.size W → loadAs (.pointer (some ⟨w1.heap.size, 0, none⟩)) W = .ok (.value (.agg #[.int .i64 0, .int .i64 0, .int .i64 0, .int .i64 0, .string ⟨#[]⟩, .int .i64 0, .int .i64 0])) W := fun W h => loadAs_row h.a info_as
      have FE : Hid (∀ W, NobP W p → Calls Tryz.prog 5 #[p, x4, x21, .int .i64 k3] W fun e w' => e = .returned (.slice none 0 0) ∧ Below W.heap.size W w') := Lib.hid (fun W (h : NobP W p) => (FeedP_nob p x4 x21 (.int .i64 k3) W h).mono (fun e w' ⟨h1, h2⟩ => ⟨h1, by rw [h2]; exact Below.refl _ _⟩))
      have ED := Lib.hid (fun W (h : NobP W p) => EndedP_nob p x4 W h)
      have TI := Lib.hid (fun W (h : NobP W p) => TickP_nob p k3 W h)
      have OP := Lib.hid (fun W (h : NobP W p) => OpenP_nob p W h)
      have HW2 := Lib.hid hw2
      clear AK e1 e2 e3 e6 HN hw2 b1 hp F1 F2 F3 F4 F6 F21
      go_wp2_with fail
      rw [← HW2.out]
      go_region_held3 (fun w' => PY w L p w1.heap.size w')
        (first | assumption | exact PY.drew (by assumption) | exact PY.on (by assumption) (by assumption) | exact PY.on (PY.drew (by assumption)) (by assumption))
        (first
          | (go_at_call 5; (with_reducible refine (FE.out _ Y2.drew.n).mono ?_); rintro e w3 ⟨rfl, hB3⟩; have Y3 := Y2.drew.on hB3)
          | (go_at_call 6; (with_reducible refine (ED.out _ Y3.n).mono ?_); rintro e w4 ⟨rfl, hB4⟩; have Y4 := Y3.on hB4)
          | (go_at_call 7; (with_reducible refine (TI.out _ Y4.n).mono ?_); rintro e w5 ⟨rfl, hB5⟩; have Y5 := Y4.on hB5)
          | (go_at_call 8; (with_reducible refine (OP.out _ Y5.n).mono ?_); rintro e w6 ⟨rfl, hB6⟩; have Y6 := Y5.on hB6))
      have HX6 := Lib.hid Y6.x
      clear G3 G4 G21 GA FE ED TI OP Y2 Y3 Y4 Y5 Y6 hB3 hB4 hB5 hB6
      go_wp2_with fail
      go_roundw
      case rel => exact ⟨i + 1, by go_num, by omega, HX6⟩
      case measure => simp [intOf]; omega
    · have hlt' : ¬ (i : Int) < 2 := by omega
      have BX := HXi.out.b
      obtain ⟨V, hV⟩ : ∃ V, V = (wr.alloc (.cells #[.map none, .int .i64 0] 53)).alloc (.cells #[.pointer none, .pointer (some ⟨wr.heap.size, 0, none⟩)] 34) := ⟨_, rfl⟩
      have BV : Below w.heap.size w V := by rw [hV]; exact Below.alloc (Below.alloc BX BX.size _) (by have := BX.size; simp; omega) _
      have rs : V.heap[wr.heap.size + 1]? = some (.cells #[.pointer none, .pointer (some ⟨wr.heap.size, 0, none⟩)] 34 (0, 0)) := by rw [hV]; exact row_new _ (by simp)
      have rn : V.heap[wr.heap.size]? = some (.cells #[.map none, .int .i64 0] 53 (0, 0)) := by rw [hV]; exact row_old _ (row_new _ rfl)
      have NT : Hid (∀ i : Nat, i < 2 → ∃ p, V.cell? ⟨wr.heap.size + 1, i, none⟩ = some p ∧ NobNt V p) := Lib.hid (fun i hi => by
        match i, hi with
        | 0, _ => exact ⟨_, (cell_of_row _ _ 0 _ _ _ rs).trans rfl, .inl rfl⟩
        | 1, _ => exact ⟨_, (cell_of_row _ _ 1 _ _ _ rs).trans rfl, .inr ⟨_, rfl, rn⟩⟩)
      have AS := Lib.hid (asks_any V (HK.out.on BV))
      have HV := Lib.hid hV
      have HBV := Lib.hid BV
      clear BX hV BV rs rn F1 F2 F3 F4 F6 F21
      go_wp2_with fail
      rw [← HV.out]
      go_loopw [72] (fun v72 w9 => ∃ i : Nat, v72 = .int .i64 i ∧ i ≤ 2 ∧ w9 = V) (fun v72 _ => 2 - (intOf v72).toNat)
      case atStart => exact ⟨0, rfl, by omega, rfl⟩
      case round =>
        obtain ⟨k, rfl, hk2, rfl⟩ := hrel
        by_cases hl2 : k < 2
        · have hl2' : (k : Int) < 2 := by omega
          obtain ⟨p, hp, hn⟩ := NT.out k hl2
          have NP := Lib.hid (NewP_nob p _ hn)
          clear hn
          go_wp2_with fail
          refine NP.out.mono ?_
          rintro e w5 ⟨rfl, hw5⟩
          rw [hw5]
          clear hw5 NP
          go_wp2_with fail
          go_roundw
          case rel => exact ⟨k + 1, by go_num, by omega, trivial⟩
          case measure => simp [intOf]; omega
        · have hl2' : ¬ (k : Int) < 2 := by omega
          go_wp2_with fail
          refine AS.out.mono ?_
          rintro e w5 ⟨rfl, b5⟩
          have BF := HBV.out.trans (b5.mono HBV.out.size)
          go_wp2_with fail
          go_ret
          exact ⟨rfl, BF⟩
end Go.Proofs.YtgfahkgnblkhaaaGreatDoor
