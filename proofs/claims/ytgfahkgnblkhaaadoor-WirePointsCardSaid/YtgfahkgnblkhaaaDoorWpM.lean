/-
  wire.Encode: the walk.
  How long a message is whose records bear the question's name: plain.
  Questions copied (slices.Clone); rows of structs laid end to end.
  The walk of WirePoints.
  The table of header's masks, as the rows list it.
-/
import Derived.Test.YtgfahkgnblkhaaaDoorWrK
import Derived.Test.YtgfahkgnblkhaaaDoorWrA
import Derived.Test.YtgfahkgnblkhaaaDoorWmE
import Derived.Test.YtgfahkgnblkhaaaDoorQc
import Derived.Test.YtgfahkgnblkhaaaDoorNmJ
import Derived.Test.YtgfahkgnblkhaaaDoorMk
import Derived.Test.YtgfahkgnblkhaaaDoorCards
import Derived.Lib.LaidTab
import Derived.Stop.LaidErr
namespace Go.Proofs.YtgfahkgnblkhaaaDoor
open Go.RowKit Go.Maps
set_option linter.unusedVariables false
set_option maxRecDepth 100000
attribute [local go_sem ↓] exec_loadMg exec_loadHd

/-- What is written of a message that can be. -/
def headM (m : Msg) : Wt := ⟨headB m.h m.q.length m.an.length m.au.length m.ad.length, fun _ => none⟩
def encX (m : Msg) : Option Wt := (partsW quW m.q (headM m)).bind (partsW rrW m.rs)
def EncP (w : World) (m : Msg) (e : Ending) (w' : World) : Prop := ∃ v k, e = .returned (.tuple #[v, .int .i64 k]) ∧ Below w.heap.size w w' ∧ (canM m = false → v = .slice none 0 0 ∧ k = 1) ∧ (canM m = true → encX m = none → v = .slice none 0 0 ∧ k = 42) ∧ (∀ X, canM m = true → encX m = some X → k = 0 ∧ OwnR w' w.heap.size v X.b ∧ v ≠ .slice none 0 0)
def rsFrom (m : Msg) (v : MV) (j : Nat) : List Rr := ((secs m v).drop j).flatMap (·.l)
theorem rsFrom_zero (m : Msg) (v : MV) : rsFrom m v 0 = m.rs := by simp [rsFrom, secs, Msg.rs]
theorem rsFrom_at (m : Msg) (v : MV) (j : Nat) (hj : j < (secs m v).length) : rsFrom m v j = (secs m v)[j].l ++ rsFrom m v (j + 1) := by
  unfold rsFrom
  rw [List.drop_eq_getElem_cons hj, List.flatMap_cons]
theorem rsFrom_end (m : Msg) (v : MV) (j : Nat) (hj : 3 ≤ j) : rsFrom m v j = [] := by
  unfold rsFrom
  rw [List.drop_eq_nil_of_le (by simpa [secs] using hj)]
  rfl
theorem partsW_at {α : Type} (f : α → Wt → Wt) {l : List α} {k : Nat} (h : k < l.length) (X : Wt) : partsW f (l.drop k) X = if 65535 < (f l[k] X).b.length then none else partsW f (l.drop (k + 1)) (f l[k] X) := by
  rw [List.drop_eq_getElem_cons h]
  rfl
theorem headB_len (h : Hd) (a b c d : Nat) : (headB h a b c d).length = 12 := by simp [headB, tw_len]
/-- A writer that nobody has written to. -/
theorem WtM.made {w : World} {base gv c : Nat} {b : Bs} (hr : OwnR w base (.slice (some ⟨gv, 0, none⟩) b.length c) b) (hb : base ≤ w.heap.size) : WtM (w.heap.size + 1) w.heap.size 0 (.slice (some ⟨gv, 0, none⟩) b.length c) base ⟨b, fun _ => none⟩ ((w.alloc (.map #[] 0)).alloc (.cells #[.slice (some ⟨gv, 0, none⟩) b.length c, .map (some w.heap.size)] 67)) := by
  have hm := World.ownsMap_made (H := Unit) w Tryd.prog 9 intE
  exact ⟨row_new _ (by simp), (hr.alloc _).alloc _, (fun h => by cases h), ⟨_, hm.alloc _, fun n => by simp [DataW.atKey], fun n => by simp [Maps.has]⟩, (fun n p hp => by cases hp), by omega, hb⟩
theorem OwnR.lower {w : World} {base base' : Nat} {v : Value} {l : Bs} (h : OwnR w base v l) (hb : base' ≤ base) : OwnR w base' v l := by
  obtain ⟨h1, h2⟩ := h
  refine ⟨h1, ?_⟩
  rcases h2 with h2 | ⟨g, cap, cur, hv, hg, r⟩
  · exact .inl h2
  · exact .inr ⟨g, cap, cur, hv, by omega, r⟩
theorem HEnc_from (h : Hd) (n0 n1 n2 n3 : Nat) (w : World) (hm : Masks w) (base : Nat) (hb : base ≤ w.heap.size) : Calls Tryd.prog 24 #[.agg (hdC h), ctV n0 n1 n2 n3] w fun e w' => ∃ v k, e = .returned (.tuple #[v, .int .i64 k]) ∧ Below w.heap.size w w' ∧ (canHd h n0 n1 n2 n3 = false → v = .slice none 0 0 ∧ k = 1) ∧ (canHd h n0 n1 n2 n3 = true → k = 0 ∧ OwnR w' base v (headB h n0 n1 n2 n3) ∧ v ≠ .slice none 0 0) :=
  (HEnc_any h n0 n1 n2 n3 w hm).mono fun e w' ⟨v, k, h1, h2, h3, h4⟩ => ⟨v, k, h1, h2, h3, fun hc => ⟨(h4 hc).1, (h4 hc).2.1.lower hb, (h4 hc).2.2⟩⟩
theorem BM.far {W wr w1 : World} {m : Msg} {v : MV} (h : BM W m v wr) (hk : Masks W) (k : Below (W.heap.size + 1) wr w1) : BM W m v w1 := by
  have b : Below W.heap.size W w1 := Below.trans h.b (k.mono (by omega))
  exact ⟨(k.block _ (by omega)).trans h.r, hk.on b, b⟩
theorem partsW_cons {α : Type} (f : α → Wt → Wt) (x : α) (l : List α) (X : Wt) : partsW f (x :: l) X = if 65535 < (f x X).b.length then none else partsW f l (f x X) := rfl
set_option maxHeartbeats 4000000 in
set_option maxRecDepth 100000 in
theorem Encode_any (m : Msg) (v : MV) (w : World) (hM : Ms w m v) (hk : Masks w) : Calls Tryd.prog 7 #[.agg (msL m v).toArray] w (EncP w m) := by
  have HD : Hid (∀ e w', EncP w m e w' ↔ ∃ v k, e = .returned (.tuple #[v, .int .i64 k]) ∧ Below w.heap.size w w' ∧ (canM m = false → v = .slice none 0 0 ∧ k = 1) ∧ (canM m = true → encX m = none → v = .slice none 0 0 ∧ k = 42) ∧ (∀ X, canM m = true → encX m = some X → k = 0 ∧ OwnR w' w.heap.size v X.b ∧ v ≠ .slice none 0 0)) := Lib.hid (fun _ _ => Iff.rfl)
  have X0 := BM.start w m v hk
  obtain ⟨C, hC⟩ : ∃ C, C = (msL m v).toArray := ⟨_, rfl⟩
  have hCs : (Tryd.prog.info? 27).map (·.size) = some C.size := by rw [hC]; exact info_ms
  have K0 := Lib.hid (fun W (h : BM w m v W) => by have := CanM_any m v W (hM.on h.b) h.k; rw [← hC] at this; exact this)
  have K1 := Lib.hid (fun W (h : BM w m v W) => by have := counts_any m v W; rw [← hC] at this; exact this)
  have K2 := Lib.hid (fun W (h : BM w m v W) => HEnc_from m.h m.q.length m.an.length m.au.length m.ad.length W h.k (w.heap.size + 1) h.lt)
  have F1 : ∀ W, BM w m v W → loadHd (.pointer (some ⟨w.heap.size, 0, none⟩)) W = .ok (.value (.agg (hdC m.h))) W := fun W h => ms_head h.r
  have F2 : ∀ W, BM w m v W → loadMg (.pointer (some ⟨w.heap.size, 0, none⟩)) W = .ok (.value (.agg C)) W := fun W h => loadMg_row (by rw [hC]; exact h.r) hCs
  obtain ⟨hcd, hhc⟩ : ∃ z, z = hdC m.h := ⟨_, rfl⟩
  rw [← hhc] at K2 F1
  have K5 := Lib.hid (sections_any m v)
  have HIX := Lib.hid (secs_ix m v)
  have HRS := Lib.hid (fun j hj => secs_rs hM j hj)
  have HKM := Lib.hid hk
  obtain ⟨aq, haq⟩ : ∃ a, a = v.aq := ⟨_, rfl⟩
  have HQS := Lib.hid (fun W (h : BM w m v W) => by have := hM.q.on h.b; rw [← haq] at this; exact this)
  have hql := hM.lq
  obtain ⟨nq, hnq⟩ : ∃ n, n = m.q.length := ⟨_, rfl⟩
  have HCQ : Hid (∀ W, BM w m v W → W.cell? ⟨w.heap.size, 8, none⟩ = some (.slice aq nq v.cq)) := Lib.hid (fun W h => by rw [hnq, haq]; exact (ms_cell h.r).1)
  have HNQ := Lib.hid hnq
  rw [← hC] at K5
  rw [← hC] at X0 ⊢
  have HC := Lib.hid hC
  obtain ⟨cm, hcm⟩ : ∃ b, b = canM m := ⟨_, rfl⟩
  have HCM := Lib.hid hcm
  rw [← hcm] at K0 HD
  generalize hQ : EncP w m = Q at *
  clear hQ
  have fm0 := F2 _ X0
  have k0 := K0.out _ X0
  have HX0 := Lib.hid X0
  clear hM hk hhc hnq hC hCs haq hcm X0
  cases cm with
  | false =>
    have HK0 := Lib.hid k0
    clear k0 F1 F2
    go_enter Tryd.func7, Tryd.ntmps7
    go_wp2_with fail
    refine HK0.out.mono ?_
    rintro e w1 ⟨rfl, b1⟩
    have HF := Lib.hid ((HD.out (.returned (.tuple #[.slice none 0 0, .int .i64 1])) w1).2 ⟨_, _, rfl, (HX0.out.on b1).b, fun _ => ⟨rfl, rfl⟩, (fun h => by cases h), fun X h => by cases h⟩)
    go_wp2_with fail
    exact HF.out
  | true =>
    have HK0 := Lib.hid k0
    clear k0
    go_enter Tryd.func7, Tryd.ntmps7
    go_wp2_with fail
    refine HK0.out.mono ?_
    rintro e w1 ⟨rfl, b1⟩
    have X1 := HX0.out.on b1
    clear b1 fm0 HK0 K0
    go_wp2_with fail
    have hXd := X1.drew
    clear X1
    go_region_law ((first
      | (go_simp; go_at_call 25; (with_reducible refine (K1.out _ (by assumption)).mono ?_); rintro e w' ⟨rfl, hBx⟩; have hX2 := BM.on (by assumption) hBx)
      | (go_simp; go_at_call 24; (with_reducible refine (K2.out _ (by assumption)).mono ?_); rintro e w' ⟨vh, kh, rfl, hBx, hno, hyes⟩; have hX2 := BM.on (by assumption) hBx)))
    all_goals
      have hXE : BM w m v w' := by assumption
      have HXE := Lib.hid hXE
      have hcd2 : canHd m.h m.q.length m.an.length m.au.length m.ad.length = true := by
        have := HCM.out
        unfold canM at this
        cases hh : canHd m.h m.q.length m.an.length m.au.length m.ad.length with
        | true => rfl
        | false => rw [hh] at this; cases this
      obtain ⟨rfl, o1, n1⟩ := hyes hcd2
      obtain ⟨gv1, c1, hv1, -⟩ := OwnR.slice_form o1 n1
      have hXb : w.heap.size + 1 ≤ w'.heap.size := hXE.lt
      rw [hv1] at o1
      have HW0 := Lib.hid (WtM.made o1 hXb)
      rw [headB_len] at hv1 HW0
      subst hv1
      have HBX : Hid (Below w'.heap.size w' ((w'.alloc (.map #[] 0)).alloc (.cells #[.slice (some ⟨gv1, 0, none⟩) 12 c1, .map (some w'.heap.size)] 67))) := Lib.hid (Below.alloc (Below.alloc (Below.refl _ _) (Nat.le_refl _) _) (by simp) _)
      have HXF := Lib.hid (hXE.on HBX.out)
      have hmm := @run_makeMap Tryd.prog
      clear hno hyes hXd F1 K1 K2 hBx hX2 o1 n1 hcd2 hXE
      have c8 := HCQ.out _ HXF.out
      have HAQ : Hid (∀ q ∈ m.q, canQ q = true) := Lib.hid (by
        have := HCM.out
        unfold canM at this
        intro q hq
        have h2 := this.symm
        simp only [Bool.and_eq_true, List.all_eq_true] at h2
        exact h2.2.1 q hq)
      have HAR : Hid (∀ r ∈ m.rs, canR r = true) := Lib.hid (by
        have := HCM.out
        unfold canM at this
        intro q hq
        have h2 := this.symm
        simp only [Bool.and_eq_true, List.all_eq_true] at h2
        exact h2.2.2 q hq)
      have HT0 : Hid (encX m = (partsW quW (m.q.drop 0) (headM m)).bind (partsW rrW m.rs)) := Lib.hid rfl
      have HL0 : Hid ((headM m).b.length ≤ 65535) := Lib.hid (by show (headB _ _ _ _ _).length ≤ _; rw [headB_len]; omega)
      have HWN : Hid (WtM (w'.heap.size + 1) w'.heap.size 0 (.slice (some ⟨gv1, 0, none⟩) 12 c1) (w.heap.size + 1) (headM m) ((w'.alloc (.map #[] 0)).alloc (.cells #[.slice (some ⟨gv1, 0, none⟩) 12 c1, .map (some w'.heap.size)] 67)) ∧ 0 ≤ (headM m).b.length) := Lib.hid ⟨HW0.out, Nat.zero_le _⟩
      clear HW0 HCM HXE
      obtain ⟨gB, hgB⟩ : ∃ g, g = w'.heap.size + 1 := ⟨_, rfl⟩
      go_wp2_with fail
      rw [← hgB]
      rw [← hgB] at HWN
      have HGB := Lib.hid hgB
      clear hgB
      go_loopw [30] (fun v30 wr => ∃ (i N : Nat) (u : Value) (X : Wt), v30 = .int .i64 i ∧ i ≤ nq ∧ Hid (WtM gB w'.heap.size N u (w.heap.size + 1) X wr ∧ N ≤ X.b.length) ∧ Hid (BM w m v wr) ∧ Hid (X.b.length ≤ 65535) ∧ Hid (encX m = (partsW quW (m.q.drop i) X).bind (partsW rrW m.rs))) (fun v30 _ => nq - (intOf v30).toNat)
      case atStart => exact ⟨0, 0, _, headM m, rfl, by omega, HWN, HXF, HL0, HT0⟩
      case round =>
        clear HWN HXF HL0 HT0 HBX hmm
        obtain ⟨i, N, u, X, rfl, hi, HW, HB, HL, HT⟩ := hrel
        rename World => wr
        by_cases hlt : i < nq
        · have hlt' : (i : Int) < (nq : Int) := by omega
          have hiq : i < m.q.length := by rw [← HNQ.out]; exact hlt
          obtain ⟨gq, oq, hAq, hcq⟩ := HQS.out _ HB.out (by omega)
          have hr := hcq i hiq
          have ht := HT.out
          have hcq2 := HAQ.out _ (List.getElem_mem hiq)
          rw [partsW_at quW hiq] at ht
          generalize m.q[i] = q at *
          obtain ⟨r8, q8⟩ := box_row wr #[.string ⟨#[]⟩, .int .i64 0, .int .i64 0] (quL q) 40
          obtain ⟨W1, hW1⟩ : ∃ W1, W1 = (wr.alloc (.cells #[.string ⟨#[]⟩, .int .i64 0, .int .i64 0] 40)).setRow wr.heap.size (quL q).toArray := ⟨_, rfl⟩
          have rZ := row_new (w := wr) (k := wr.heap.size) (.cells #[.string ⟨#[]⟩, .int .i64 0, .int .i64 0] 40 (0, 0)) rfl
          rw [← hW1] at r8 q8
          have HB1 := HB.out.on q8
          have HH1 := HW.out.1.below q8
          have i1 : Hid ((Tryd.prog.info? 40).map (·.size) = some (quL q).toArray.size) := Lib.hid info_qu
          have j1 : Hid ((Tryd.prog.info? 40).map (·.size) = some (quL q).length) := Lib.hid info_qu
          have z1 : Hid ((#[.string ⟨#[]⟩, .int .i64 0, .int .i64 0] : Array Value).size = (quL q).toArray.size) := Lib.hid rfl
          have one1 : Hid ((quL q).toArray.all (·.oneCell') = true) := Lib.hid (qu_one q)
          have CB := Lib.hid (question_any q W1 HH1 HW.out.2 hcq2 (by have := HL.out; omega))
          have HLQ := Lib.hid (quW_len X (show can q.n = true by unfold canQ at hcq2; simp only [Bool.and_eq_true] at hcq2; exact hcq2.1))
          have HF := Lib.hid (fun X' w2 N2 v2 (k : WrQ gB w'.heap.size u (w.heap.size + 1) X' W1 w2 N2 v2) => HB1.far HKM.out (k.big HH1.big (fun i hi => HH1.base_le hi)))
          unfold quC at CB
          have HW1 := Lib.hid hW1
          have HTT := Lib.hid ht
          clear hcq ht HT hW1 q8 HB1 HH1 hcq2
          subst hAq
          generalize hl1 : quL q = l1 at *
          go_wp2_with (first
            | (refine wpList_load_mid rfl 40 (.tmp 32) rfl gq (oq + i * 3) rfl l1 _ hr Tryd.underlying40 rfl j1.out ?_)
            | (refine wpList_store_row rfl 40 (.tmp 8) (.tmp 33) rfl wr.heap.size l1.toArray rfl rfl 40 _ rZ i1.out (by first | exact z1.out | exact z1.out.symm) one1.out ?_; rw [← HW1.out])
            | (refine wpList_load_row rfl 40 (.tmp 8) rfl wr.heap.size rfl 40 l1.toArray (0, 0) _ r8 Tryd.underlying40 rfl i1.out ?_)
            | fail)
          refine CB.out.mono ?_
          rintro e w3 ⟨rfl, h3⟩
          obtain ⟨N3, v3, q3⟩ := h3.open
          have HB3 := Lib.hid (HF.out _ _ _ _ q3)
          have HQ3 := Lib.hid q3
          have LG := Lib.hid (long_any w3 q3.at')
          clear h3 q3 CB HF r8 rZ hr
          go_wp2_with fail
          refine LG.out.mono ?_
          rintro e w4 ⟨rfl, rfl⟩
          clear LG
          by_cases hlong : 65535 < (quW q X).b.length
          · have HNN : Hid (encX m = none) := Lib.hid (by rw [HTT.out, if_pos hlong]; rfl)
            rw [decide_eq_true hlong]
            have HFN := Lib.hid ((HD.out (.returned (.tuple #[.slice none 0 0, .int .i64 42])) w4).2 ⟨_, _, rfl, HB3.out.b, (fun h => by cases h), fun _ _ => ⟨rfl, rfl⟩, fun X2 _ h => by rw [HNN.out] at h; cases h⟩)
            clear HTT hlong
            go_wp2_with fail
            exact HFN.out
          · have HT2 : Hid (encX m = (partsW quW (m.q.drop (i + 1)) (quW q X)).bind (partsW rrW m.rs)) := Lib.hid (by rw [HTT.out, if_neg hlong])
            rw [decide_eq_false hlong]
            have HL2 : Hid ((quW q X).b.length ≤ 65535) := Lib.hid (by omega)
            clear HTT hlong
            go_wp2_with fail
            go_roundw
            case rel => exact ⟨i + 1, N3, v3, quW q X, by go_num, by omega, Lib.hid ⟨HQ3.out.at', HQ3.out.le⟩, HB3, HL2, HT2⟩
            case measure => simp [intOf]; omega
        · have hlt' : ¬ (i : Int) < (nq : Int) := by omega
          have HT2 : Hid (encX m = partsW rrW (rsFrom m v 0) X) := Lib.hid (by rw [HT.out, rsFrom_zero, List.drop_eq_nil_of_le (by rw [← HNQ.out]; omega)]; rfl)
          have fm := F2 wr HB.out
          clear HT HQS F2 HAQ
          go_wp2_with fail
          refine (K5.out _).mono ?_
          rintro e w5 ⟨rfl, b5⟩
          have HB5 := Lib.hid (HB.out.on b5)
          have HW5 := Lib.hid (⟨HW.out.1.below b5, HW.out.2⟩ : WtM gB w'.heap.size N u (w.heap.size + 1) X w5 ∧ N ≤ X.b.length)
          clear b5 fm K5 c8 HW HB
          go_wp2_with fail
          go_loopw [40] (fun v40 wr2 => ∃ (j N : Nat) (u : Value) (X : Wt), v40 = .int .i64 j ∧ j ≤ 3 ∧ Hid (WtM gB w'.heap.size N u (w.heap.size + 1) X wr2 ∧ N ≤ X.b.length) ∧ Hid (BM w m v wr2) ∧ Hid (X.b.length ≤ 65535) ∧ Hid (encX m = partsW rrW (rsFrom m v j) X)) (fun v40 _ => 3 - (intOf v40).toNat)
          case atStart => exact ⟨0, N, u, X, rfl, by omega, HW5, HB5, HL, HT2⟩
          case round =>
            clear HB5 HT2 HW5 HL
            obtain ⟨j, N, u, X, rfl, hj, HW, HBj, HL, HTj⟩ := hrel
            rename World => wr2
            by_cases hj3 : j < 3
            · have hj3' : (j : Int) < 3 := by omega
              have ix := HIX.out j hj3
              have hjs : j < (secs m v).length := by simpa [secs] using hj3
              have htj := HTj.out
              rw [rsFrom_at m v j hjs] at htj
              have HRJ := HRS.out j hj3
              have hin : ∀ r ∈ (secs m v)[j].l, r ∈ m.rs := fun r hr => by
                rw [← rsFrom_zero m v]
                unfold rsFrom
                rw [List.drop_zero]
                exact List.mem_flatMap.2 ⟨_, List.getElem_mem hjs, hr⟩
              obtain ⟨S, hS⟩ : ∃ S, S = (secs m v)[j] := ⟨_, rfl⟩
              rw [← hS] at htj HRJ hin
              simp only [← hS] at ix
              obtain ⟨sl, sA, sc⟩ := S
              simp only at htj HRJ hin
              obtain ⟨ns, hns⟩ : ∃ n, n = sl.length := ⟨_, rfl⟩
              have HNS := Lib.hid hns
              have ix2 : ∀ W : World, (Instr.index 69 (.agg #[.slice v.a1 m.an.length v.c1, .slice v.a2 m.au.length v.c2, .slice v.a3 m.ad.length v.c3]) (.int .i64 (j : Int))).run Tryd.prog W = .ok (.slice sA ns sc) W := fun W => by rw [hns]; exact ix W
              have HTK : Hid (encX m = partsW rrW (sl.drop 0 ++ rsFrom m v (j + 1)) X) := Lib.hid htj
              have hlim := HRJ.2
              have HRR := Lib.hid HRJ.1
              have HIN := Lib.hid hin
              rw [← hns] at hlim
              clear ix hS htj hns HRJ hin HTj
              go_wp2_with fail
              go_loopw [45] (fun v45 wr3 => ∃ (k N : Nat) (u : Value) (X : Wt), v45 = .int .i64 k ∧ k ≤ ns ∧ Hid (WtM gB w'.heap.size N u (w.heap.size + 1) X wr3 ∧ N ≤ X.b.length) ∧ Hid (BM w m v wr3) ∧ Hid (X.b.length ≤ 65535) ∧ Hid (encX m = partsW rrW (sl.drop k ++ rsFrom m v (j + 1)) X)) (fun v45 _ => ns - (intOf v45).toNat)
              case atStart => exact ⟨0, N, u, X, rfl, by omega, HW, HBj, HL, HTK⟩
              case round =>
                clear HTK HW HBj HL
                obtain ⟨k, N, u, X, rfl, hk, HW, HBk, HL, HTk⟩ := hrel
                rename World => wr3
                by_cases hlk : k < ns
                · have hlk' : (k : Int) < (ns : Int) := by omega
                  have hks : k < sl.length := by rw [← HNS.out]; exact hlk
                  obtain ⟨gr, orr, hAr, hcr⟩ := HRR.out (by omega)
                  obtain ⟨ra, rc, D1, R0⟩ := hcr k hks
                  have R1 := range_on R0 HBk.out.b
                  have htk := HTk.out
                  rw [List.drop_eq_getElem_cons hks, List.cons_append, partsW_cons] at htk
                  have hcr2 := HAR.out _ (HIN.out _ (List.getElem_mem hks))
                  generalize sl[k] = r at *
                  obtain ⟨r8, q8⟩ := box_row wr3 #[.string ⟨#[]⟩, .int .i64 0, .int .i64 0, .int .i64 0, .slice none 0 0] (rrL r ra rc) 42
                  obtain ⟨W1, hW1⟩ : ∃ W1, W1 = (wr3.alloc (.cells #[.string ⟨#[]⟩, .int .i64 0, .int .i64 0, .int .i64 0, .slice none 0 0] 42)).setRow wr3.heap.size (rrL r ra rc).toArray := ⟨_, rfl⟩
                  have rZ := row_new (w := wr3) (k := wr3.heap.size) (.cells #[.string ⟨#[]⟩, .int .i64 0, .int .i64 0, .int .i64 0, .slice none 0 0] 42 (0, 0)) rfl
                  rw [← hW1] at r8 q8
                  have HB1 := HBk.out.on q8
                  have HH1 := HW.out.1.below q8
                  have i1 : Hid ((Tryd.prog.info? 42).map (·.size) = some (rrL r ra rc).toArray.size) := Lib.hid info_rr
                  have j1 : Hid ((Tryd.prog.info? 42).map (·.size) = some (rrL r ra rc).length) := Lib.hid info_rr
                  have z1 : Hid ((#[.string ⟨#[]⟩, .int .i64 0, .int .i64 0, .int .i64 0, .slice none 0 0] : Array Value).size = (rrL r ra rc).toArray.size) := Lib.hid rfl
                  have one1 : Hid ((rrL r ra rc).toArray.all (·.oneCell') = true) := Lib.hid (rr_one r ra rc)
                  have CB := Lib.hid (record_any r ra rc W1 HH1 HW.out.2 hcr2 (fun W hb => by
                    have hw := (HB1.far HKM.out hb).b
                    have := D1.on hw
                    exact ⟨this.bys, this.le, this.max, this.nil⟩) (by have := HL.out; omega))
                  have HF := Lib.hid (fun X' w2 N2 v2 (k : WrQ gB w'.heap.size u (w.heap.size + 1) X' W1 w2 N2 v2) => HB1.far HKM.out (k.big HH1.big (fun i hi => HH1.base_le hi)))
                  unfold rrC at CB
                  have HW1 := Lib.hid hW1
                  have HTT := Lib.hid htk
                  clear hcr htk HTk hW1 q8 D1 HB1 HH1 hcr2 R0
                  subst hAr
                  generalize hl1 : rrL r ra rc = l1 at *
                  go_wp2_with (first
                    | (refine wpList_load_mid rfl 42 (.tmp 47) rfl gr (orr + k * 5) rfl l1 _ R1 Tryd.underlying42 rfl j1.out ?_)
                    | (refine wpList_store_row rfl 42 (.tmp 12) (.tmp 48) rfl wr3.heap.size l1.toArray rfl rfl 42 _ rZ i1.out (by first | exact z1.out | exact z1.out.symm) one1.out ?_; rw [← HW1.out])
                    | (refine wpList_load_row rfl 42 (.tmp 12) rfl wr3.heap.size rfl 42 l1.toArray (0, 0) _ r8 Tryd.underlying42 rfl i1.out ?_)
                    | fail)
                  refine CB.out.mono ?_
                  rintro e w6 ⟨rfl, h6⟩
                  obtain ⟨N6, v6, q6⟩ := h6.open
                  have HB6 := Lib.hid (HF.out _ _ _ _ q6)
                  have HQ6 := Lib.hid q6
                  have LG := Lib.hid (long_any w6 q6.at')
                  clear h6 q6 CB HF r8 rZ R1
                  go_wp2_with fail
                  refine LG.out.mono ?_
                  rintro e w7 ⟨rfl, rfl⟩
                  clear LG
                  by_cases hlong : 65535 < (rrW r X).b.length
                  · have HNN : Hid (encX m = none) := Lib.hid (by rw [HTT.out, if_pos hlong])
                    rw [decide_eq_true hlong]
                    have HFN := Lib.hid ((HD.out (.returned (.tuple #[.slice none 0 0, .int .i64 42])) w7).2 ⟨_, _, rfl, HB6.out.b, (fun h => by cases h), fun _ _ => ⟨rfl, rfl⟩, fun X2 _ h => by rw [HNN.out] at h; cases h⟩)
                    clear HTT hlong
                    go_wp2_with fail
                    exact HFN.out
                  · have HT2 : Hid (encX m = partsW rrW (sl.drop (k + 1) ++ rsFrom m v (j + 1)) (rrW r X)) := Lib.hid (by rw [HTT.out, if_neg hlong])
                    rw [decide_eq_false hlong]
                    have HL2 : Hid ((rrW r X).b.length ≤ 65535) := Lib.hid (by omega)
                    clear HTT hlong
                    go_wp2_with fail
                    go_roundw
                    case rel => exact ⟨k + 1, N6, v6, rrW r X, by go_num, by omega, Lib.hid ⟨HQ6.out.at', HQ6.out.le⟩, HB6, HL2, HT2⟩
                    case measure => simp [intOf]; omega
                · have hlk' : ¬ (k : Int) < (ns : Int) := by omega
                  have HT2 : Hid (encX m = partsW rrW (rsFrom m v (j + 1)) X) := Lib.hid (by rw [HTk.out, List.drop_eq_nil_of_le (by rw [← HNS.out]; omega), List.nil_append])
                  clear HTk
                  go_wp2_with fail
                  go_roundw
                  case rel => exact ⟨j + 1, N, u, X, by go_num, by omega, HW, HBk, HL, HT2⟩
                  case measure => simp [intOf]; omega
            · have hj3' : ¬ (j : Int) < 3 := by omega
              have HRT : Hid (encX m = some X) := Lib.hid (by rw [HTj.out, rsFrom_end m v j (by omega)]; rfl)
              obtain ⟨d0, -, -⟩ := HW.out.1.cells
              obtain ⟨gu, cu, hu, -⟩ := HW.out.1.form
              have HFN := Lib.hid ((HD.out (.returned (.tuple #[u, .int .i64 0])) wr2).2 ⟨_, _, rfl, HBj.out.b, (fun h => by cases h), (fun _ h => by rw [HRT.out] at h; cases h), fun X2 _ h => by
                rw [HRT.out] at h
                injection h with h
                subst h
                exact ⟨rfl, HW.out.1.row.lower (by omega), HW.out.1.nn⟩⟩)
              obtain ⟨lx, hlx⟩ : ∃ l, l = X.b.length := ⟨_, rfl⟩
              rw [← hlx] at hu
              rw [hu] at HFN d0
              clear HTj hu hlx
              go_wp2_with fail
              exact HFN.out
end Go.Proofs.YtgfahkgnblkhaaaDoor
namespace Go.Proofs.YtgfahkgnblkhaaaDoor
open Go.RowKit
set_option linter.unusedVariables false
set_option maxRecDepth 100000

theorem join_len_cons (x : Bs) (L : List Bs) : (join (x :: L)).length = 1 + x.length + (join L).length := by simp [join, enc]; omega
theorem nameW_keep : ∀ (L : List Bs) (X : Wt) (m : Bs), (join L).length < m.length → (nameW L X).P m = X.P m
  | [], X, m, _ => rfl
  | x :: L, X, m, h => by
    have hj := join_len_cons x L
    unfold nameW
    split
    · rfl
    · rw [nameW_keep L _ m (by omega)]
      simp only
      split
      · unfold putP
        rw [if_neg]
        intro e
        rw [e] at h
        omega
      · rfl
theorem nameW_new : ∀ (L : List Bs) (X : Wt), (∀ m : Bs, m.length ≤ (join L).length → X.P m = none) → (nameW L X).b = X.b ++ join L
  | [], X, _ => rfl
  | x :: L, X, h => by
    have hj := join_len_cons x L
    unfold nameW
    rw [h _ (Nat.le_refl _)]
    simp only
    rw [nameW_new L]
    · simp [join, enc]
    · intro m hm
      simp only
      have h1 := h m (by omega)
      split
      · unfold putP
        rw [if_neg]
        · exact h1
        · intro e
          rw [e] at hm
          omega
      · exact h1
theorem nameW_puts (x : Bs) (L : List Bs) (X : Wt) (h : X.P (join (x :: L)) = none) (hl : X.b.length < 16384) : (nameW (x :: L) X).P (join (x :: L)) = some X.b.length := by
  have hj := join_len_cons x L
  unfold nameW
  rw [h]
  simp only
  rw [nameW_keep L _ _ (by omega)]
  simp only [if_pos hl]
  unfold putP
  rw [if_pos rfl]
/-- A name that is there, or the root's. -/
def ThereW (n : Bs) (X : Wt) : Prop := n ≠ [0] → ∃ p, X.P n = some p
def ownW (n : Bs) : Nat := if n = [0] then 1 else 2
theorem nmW_there {n : Bs} {X : Wt} (hc : can n = true) (h : ThereW n X) : (nmW n X).b.length = X.b.length + ownW n ∧ (nmW n X).P = X.P := by
  obtain ⟨_, _, e, hL⟩ := can_out hc
  unfold nmW ownW
  cases hl : labels n with
  | nil =>
    rw [hl] at e
    have e2 : n = [0] := e
    rw [if_pos e2]
    exact ⟨by simp [nameW], rfl⟩
  | cons x L =>
    rw [hl] at e
    have hx : 1 ≤ x.length := (hL x (by rw [hl]; simp)).1
    have hne : n ≠ [0] := fun e2 => by
      have := congrArg List.length (e.symm.trans e2)
      rw [join_len_cons] at this
      simp [join] at this
      omega
    obtain ⟨p, hp⟩ := h hne
    rw [e] at hp
    rw [if_neg hne]
    unfold nameW
    rw [hp]
    exact ⟨by simp [tw_len], rfl⟩
theorem nmW_first {n : Bs} {X : Wt} (hc : can n = true) (h : ∀ m, X.P m = none) (hl : X.b.length < 16384) : (nmW n X).b.length = X.b.length + n.length ∧ ThereW n (nmW n X) := by
  obtain ⟨_, _, e, hL⟩ := can_out hc
  refine ⟨?_, fun hne => ?_⟩
  · unfold nmW
    rw [nameW_new _ _ (fun m _ => h m), ← e, List.length_append]
  · unfold nmW
    cases hl2 : labels n with
    | nil =>
      rw [hl2] at e
      exact absurd e hne
    | cons x L =>
      rw [hl2] at e
      refine ⟨X.b.length, ?_⟩
      rw [e]
      exact nameW_puts x L X (h _) hl
theorem names300 (d : Bs) (hd : d.length ≤ 65535) : canD 300 d = true ∧ namesD 300 d = [] ∧ aheadW 300 = 0 := by
  have hc : canD 300 d = true := by unfold canD; rw [if_neg (by omega)]; simp
  exact ⟨hc, by unfold namesD; rw [if_pos hc]; simp, rfl⟩
theorem daW_there {d : Bs} (Y : Wt) (hd : d.length ≤ 65535) : (daW 300 d Y).b.length = Y.b.length + (2 + d.length) ∧ (daW 300 d Y).P = Y.P := by
  obtain ⟨_, h3, h4⟩ := names300 d hd
  unfold daW
  rw [h3, h4]
  refine ⟨?_, rfl⟩
  simp [nmsW, sumL]
  omega
theorem rrW_there {n d : Bs} {X : Wt} (hc : can n = true) (hd : d.length ≤ 65535) (h : ThereW n X) : (rrW ⟨n, 300, 1, 0, d⟩ X).b.length = X.b.length + (ownW n + 10 + d.length) ∧ (rrW ⟨n, 300, 1, 0, d⟩ X).P = X.P := by
  obtain ⟨h1, h2⟩ := nmW_there hc h
  unfold rrW
  obtain ⟨h3, h4⟩ := daW_there (twW (0 : Int).toNat (twW ((0 : Int).toNat / 65536) (twW (1 : Int).toNat (twW (300 : Int).toNat (nmW n X))))) hd
  refine ⟨?_, h4.trans h2⟩
  rw [h3, twW_len, twW_len, twW_len, twW_len, h1]
  omega
theorem parts_there {n d : Bs} (hc : can n = true) (hd : d.length ≤ 40) : ∀ (k : Nat) (X : Wt), ThereW n X → X.b.length + k * (ownW n + 10 + d.length) ≤ 65535 → ∃ X', partsW rrW (List.replicate k ⟨n, 300, 1, 0, d⟩) X = some X' ∧ X'.b.length = X.b.length + k * (ownW n + 10 + d.length)
  | 0, X, _, _ => ⟨X, rfl, by simp⟩
  | k + 1, X, h, hl => by
    obtain ⟨h1, h2⟩ := rrW_there (d := d) hc (by omega) h
    have ih := parts_there hc hd k (rrW ⟨n, 300, 1, 0, d⟩ X) (fun hne => by rw [h2]; exact h hne)
    generalize ownW n + 10 + d.length = E at *
    rw [Nat.succ_mul] at hl ⊢
    generalize k * E = K at *
    rw [List.replicate_succ, partsW, if_neg (by omega)]
    obtain ⟨X', h3, h4⟩ := ih (by omega)
    exact ⟨X', h3, by omega⟩
end Go.Proofs.YtgfahkgnblkhaaaDoor
namespace Go.Proofs.YtgfahkgnblkhaaaDoor
open Go.RowKit
set_option linter.unusedVariables false
set_option maxRecDepth 100000

theorem flat_len {α β : Type} {f : α → List β} {s : Nat} (hs : ∀ x, (f x).length = s) : ∀ L : List α, (L.flatMap f).length = L.length * s
  | [] => by simp
  | a :: L => by rw [List.flatMap_cons, List.length_append, hs, flat_len hs L, List.length_cons, Nat.add_mul]; omega
theorem flat_at {α β : Type} {f : α → List β} {s : Nat} (hs : ∀ x, (f x).length = s) : ∀ (L : List α) (i k : Nat) (hk : k < s) (hi : i < L.length), (L.flatMap f)[i * s + k]? = (f L[i])[k]?
  | a :: L, 0, k, hk, _ => by
    rw [List.flatMap_cons, Nat.zero_mul, Nat.zero_add, List.getElem?_append_left (by rw [hs]; exact hk)]
    rfl
  | a :: L, i + 1, k, hk, hi => by
    rw [List.flatMap_cons, List.getElem?_append_right (by rw [hs, Nat.add_mul]; omega), hs, show (i + 1) * s + k - s = i * s + k by rw [Nat.add_mul]; omega, flat_at hs L i k hk (by simpa using hi)]
    rfl
theorem quL_len (q : Qu) : (quL q).length = 3 := rfl
theorem flat_range {α : Type} {f : α → List Value} {s : Nat} (hs : ∀ x, (f x).length = s) {L : List α} {w : World} {g : Nat} {cur : Array Value} {t : TypeId} (hh : w.heap[g]? = some (.cells cur t (0, 0))) (ht : cur.toList.take (L.length * s) = L.flatMap f) (j : Nat) (hj : j < L.length) : w.rangeAt g (j * s) (f L[j]) := by
  intro k v hk
  obtain ⟨hkl, _⟩ := List.getElem?_eq_some_iff.1 hk
  rw [hs] at hkl
  have h1 := flat_at hs L j k hkl hj
  have hlt : j * s + k < L.length * s := by
    have := Nat.mul_le_mul_right s (show j + 1 ≤ L.length by omega)
    rw [Nat.add_mul] at this; omega
  rw [cell_of_row _ g (j * s + k) _ _ _ hh]
  rw [hk, ← ht, List.getElem?_take_of_lt hlt] at h1
  simpa using h1

/-- A slice of questions in a block of its own. -/
def QsT (w : World) (A : Option Addr) (L : List Qu) : Prop := 0 < L.length → ∃ g off cs, A = some ⟨g, off, none⟩ ∧ w.heap[g]? = some (.cells cs 40 (0, 0)) ∧ ∀ j (h : j < L.length), w.rangeAt g (off + j * 3) (quL L[j])
theorem info_q3 : (Tryd.prog.info? 40).map (fun i => (i.zero, i.size, i.bytes)) = some (some (.agg #[.string ⟨#[]⟩, .int .i64 0, .int .i64 0]), 3, 32) := by kernel_rfl

set_option maxHeartbeats 1000000 in
theorem CloneQ_any (A : Option Addr) (L : List Qu) (c : Nat) (w : World) (hS : Qs w A L) (hl : L.length * 32 ≤ 140737488351232) :
    Calls Tryd.prog 22 #[.slice A L.length c] w fun e w' => ∃ A' c', e = .returned (.slice A' L.length c') ∧ QsT w' A' L ∧ L.length ≤ c' ∧ c' ≤ 9223372036854775807 ∧ Below w.heap.size w w' := by
  have q : ∀ (w : World) (a : Option Addr) (n c n' c' : Nat), (binOp .eql 24 (.slice a n c) (.slice none n' c')).run Tryd.prog w = .ok (.bool a.isNone) w := fun w a n c n' c' => Lib.run_eql_slice_nil w _ _ a n c n' c' Tryd.underlying24
  cases A with
  | none =>
    have hl0 : L = [] := by
      rcases L with _ | ⟨b, l⟩
      · rfl
      · obtain ⟨g, off, h, _⟩ := hS (by simp)
        cases h
    subst hl0
    clear hS
    go_enter Tryd.func22, Tryd.ntmps22
    go_wp2_with fail
    go_ret
    exact ⟨none, 0, rfl, fun h => absurd h (by simp), by simp, by omega, Below.refl _ _⟩
  | some p =>
    have hcells : ∀ (o : Obj) j u, (L.flatMap quL)[j]? = some u → (w.alloc o).cell? (p.add j) = some u := by
      intro o j u hj
      obtain ⟨hjl, _⟩ := List.getElem?_eq_some_iff.1 hj
      rw [flat_len quL_len] at hjl
      have hn : 0 < L.length := by omega
      obtain ⟨g, off, hp, hcs⟩ := hS hn
      injection hp with hp
      subst hp
      have hi : j / 3 < L.length := by omega
      have h1 := flat_at quL_len L (j / 3) (j % 3) (by omega) hi
      rw [show j / 3 * 3 + j % 3 = j by omega, hj] at h1
      have h2 := hcs (j / 3) hi (j % 3) u h1.symm
      have h3 : (w.alloc o).cell? ⟨g, off + j / 3 * 3 + j % 3, none⟩ = some u := cell_on h2 (Below.alloc (Below.refl _ _) (Nat.le_refl _) _)
      rw [Addr.add_lit]
      rw [show off + j / 3 * 3 + j % 3 = off + j by omega] at h3
      exact h3
    have HC := Lib.hid hcells
    obtain ⟨xs, hxs⟩ : ∃ xs, L.flatMap quL = xs := ⟨_, rfl⟩
    rw [hxs] at HC
    have HX := Lib.hid hxs
    clear hxs hcells hS
    obtain ⟨n, hn⟩ : ∃ n, n = L.length := ⟨_, rfl⟩
    rw [← hn]
    rw [← hn] at hl
    have HN := Lib.hid hn
    have hxl : xs.length = n * 3 := by rw [← HX.out, flat_len quL_len, hn]
    have h1c : ∀ u ∈ xs, u.oneCell' = true := fun u hu => by
      rw [← HX.out] at hu
      obtain ⟨q, _, hq⟩ := List.mem_flatMap.1 hu
      simp [quL] at hq
      rcases hq with rfl | rfl | rfl <;> rfl
    have H1 := Lib.hid h1c
    have HXL := Lib.hid hxl
    obtain ⟨i0, hi, hz0, hz1, hz2⟩ := info_parts info_q3
    clear hxl h1c hn
    go_enter Tryd.func22, Tryd.ntmps22
    go_wp2_with (at_builtin; refine wpList_append_own _ rfl _ _ 24 rfl w.heap.size 40 i0 (.agg #[.string ⟨#[]⟩, .int .i64 0, .int .i64 0]) 3 32 Tryd.underlying24 hi hz0 hz1 hz2 rfl (by decide) _ _ _ rfl (World.ownsRow_made w #[] 0 (Nat.le_refl _) (Nat.zero_le _) rfl) p n c xs rfl HXL.out (HC.out _) H1.out (by unfold maxLen; omega) (by omega) (by simp) ?_)
    intro v' w1 hown hgrow _
    have hb : Below w.heap.size w w1 := ((Below.refl _ w).alloc (Nat.le_refl _) _).grown hgrow (by simp) (by intro k hk; simp [Value.ownBlock] at hk; omega)
    have hres : ∃ A' c', v' = .slice A' n c' ∧ QsT w1 A' L ∧ n ≤ c' ∧ c' ≤ 9223372036854775807 := by
      rcases hown.2 with ⟨hv, h0⟩ | ⟨g, cap, cur, hv, _, hh, hnc, hcm, hsz, ht⟩
      · have hn0 : n = 0 := by simpa using h0
        exact ⟨none, 0, by rw [hv, hn0], fun h => by rw [← HN.out, hn0] at h; omega, by omega, by omega⟩
      · refine ⟨_, cap, by rw [hv], fun _ => ⟨g, 0, cur, rfl, hh, fun j hj => ?_⟩, by omega, by unfold maxLen at hcm; omega⟩
        have ht' : cur.toList.take (L.length * 3) = L.flatMap quL := by
          rw [HX.out, ← HN.out]
          simpa using ht
        rw [Nat.zero_add]
        exact flat_range quL_len hh ht' j hj
    obtain ⟨A', c', rfl, r1, r2, r3⟩ := hres
    clear hown hgrow
    go_wp2_with fail
    go_ret
    exact ⟨A', c', rfl, r1, r2, r3, hb⟩
end Go.Proofs.YtgfahkgnblkhaaaDoor
namespace Go.Proofs.YtgfahkgnblkhaaaDoor
open Go.RowKit Go.Maps
set_option linter.unusedVariables false
set_option maxRecDepth 100000
attribute [local go_sem ↓] exec_loadMg

theorem tabW_len (r : Nat) : (tab r).length ≤ 3 := by
  unfold tab
  split <;> simp
theorem encW_tab : ∀ l : Bs, (enc (l.map fun c => tab (c.toNat % 6))).length ≤ 4 * l.length
  | [] => by simp [enc]
  | c :: l => by
    have := encW_tab l
    have := tabW_len (c.toNat % 6)
    rw [List.map_cons, enc_len_cons]
    simp; omega
theorem joinW_nameOf (l : Bs) : can (join (nameOf l)) = true ∧ labels (join (nameOf l)) = nameOf l :=
  can_join (nameOf_lab l) (by
    have := encW_tab (l.take 4)
    rw [List.length_take] at this
    rw [join_len]
    unfold nameOf
    omega)

theorem info_r5 : (Tryd.prog.info? 42).map (fun i => (i.zero, i.size, i.bytes)) = some (some (.agg #[.string ⟨#[]⟩, .int .i64 0, .int .i64 0, .int .i64 0, .slice none 0 0]), 5, 64) := by kernel_rfl
theorem info_r5z : rrL ⟨[], 0, 0, 0, []⟩ none 0 = [.string ⟨#[]⟩, .int .i64 0, .int .i64 0, .int .i64 0, .slice none 0 0] := rfl
def hd0 : Hd := ⟨0, false, 0, false, false, false, false, 0⟩
def ptM (n d : Bs) (k : Nat) : Msg := ⟨hd0, [⟨n, 1, 1⟩], List.replicate k ⟨n, 300, 1, 0, d⟩, [], []⟩
def ptC (g : Nat) (u : Value) : Array Value := #[.int .i64 0, .bool false, .int .i64 0, .bool false, .bool false, .bool false, .bool false, .int .i64 0, .slice (some ⟨g, 0, none⟩) 1 1, u, .slice none 0 0, .slice none 0 0]
def ptV (g : Nat) (a : Option Addr) (c : Nat) : MV := ⟨some ⟨g, 0, none⟩, a, none, none, 1, c, 0, 0⟩
theorem ptM_can {n d : Bs} {k : Nat} (hc : can n = true) (hd : d.length ≤ 40) (hk : k ≤ 20) : canM (ptM n d k) = true := by
  obtain ⟨h1, _, _⟩ := names300 d (by omega)
  have hq : canQ ⟨n, 1, 1⟩ = true := by unfold canQ; rw [hc]; rfl
  have hr : canR ⟨n, 300, 1, 0, d⟩ = true := by unfold canR; rw [hc, h1]; rfl
  have hh : canHd hd0 1 k 0 0 = true := canH_true (by simp only [hd0]; omega)
  show (canHd hd0 1 (List.replicate k (⟨n, 300, 1, 0, d⟩ : Rr)).length 0 0 && (([⟨n, 1, 1⟩] : List Qu).all canQ && (List.replicate k (⟨n, 300, 1, 0, d⟩ : Rr) ++ ([] ++ [])).all canR)) = true
  rw [List.length_replicate, hh]
  simp [hq, hr]
theorem ptM_enc {n d : Bs} {k : Nat} (hc : can n = true) (hd : d.length ≤ 40) (hk : k ≤ 20) : ∃ X, encX (ptM n d k) = some X ∧ X.b.length = 16 + n.length + k * (ownW n + 10 + d.length) := by
  have hn := (can_out hc).1
  have ho : ownW n ≤ 2 := by unfold ownW; split <;> omega
  obtain ⟨X0, hX0⟩ : ∃ X0, X0 = headM (ptM n d k) := ⟨_, rfl⟩
  have h0 : X0.b.length = 12 := by rw [hX0]; exact headB_len _ _ _ _ _
  have hP : ∀ m, X0.P m = none := by rw [hX0]; exact fun m => rfl
  obtain ⟨h1, h2⟩ := nmW_first hc hP (by omega)
  have hq : (quW ⟨n, 1, 1⟩ X0).b.length = 16 + n.length := by unfold quW; rw [twW_len, twW_len, h1]; omega
  have ht : ThereW n (quW ⟨n, 1, 1⟩ X0) := h2
  have hm : k * (ownW n + 10 + d.length) ≤ 20 * 52 := Nat.mul_le_mul hk (by omega)
  obtain ⟨X, h3, h4⟩ := parts_there (d := d) hc hd k (quW ⟨n, 1, 1⟩ X0) ht (by omega)
  refine ⟨X, ?_, by omega⟩
  unfold encX
  rw [← hX0]
  show ((partsW quW [⟨n, 1, 1⟩] X0).bind (partsW rrW (List.replicate k ⟨n, 300, 1, 0, d⟩ ++ ([] ++ [])))) = _
  rw [partsW, if_neg (by omega)]
  simp only [partsW, Option.bind_some, List.append_nil]
  exact h3
theorem count_of (n : Int) : ∃ m : Nat, wrap64 ((IntKind.u64.wrap n).tmod 20) = m ∧ m < 20 := by
  have h0 : 0 ≤ IntKind.u64.wrap n := by rw [IntKind.wrap_u64]; omega
  rw [Int.tmod_eq_emod_of_nonneg h0]
  generalize IntKind.u64.wrap n = u at *
  refine ⟨(u % 20).toNat, ?_, by omega⟩
  unfold wrap64
  omega
set_option maxHeartbeats 4000000 in
set_option maxRecDepth 100000 in
theorem WirePoints_any (A0 : Option Addr) (l0 : Bs) (c0 : Nat) (cnt : Int) (A : Option Addr) (l : Bs) (c : Nat) (w : World) (h0 : Sl w A0 c0 l0) (h : Sl w A c l) (hk : Masks w) : Calls Tryd.prog 4 #[.slice A0 l0.length c0, .int .i64 cnt, .slice A l.length c] w fun e w' => e = .returned (.bool true) ∧ Below w.heap.size w w' := by
  obtain ⟨i0, hi, hz0, hz1, hz2⟩ := info_parts info_r5
  have N0 := Lib.hid (Name_any A0 c0 l0 w h0.bys h0.le h0.max)
  obtain ⟨hcn, -⟩ := joinW_nameOf l0
  obtain ⟨n, hn⟩ : ∃ n, n = join (nameOf l0) := ⟨_, rfl⟩
  rw [← hn] at N0 hcn
  obtain ⟨k, hkk, hk20⟩ := count_of cnt
  have hpre := slice_pre A l c (min l.length 40) (min (l.length : Int) 40) (by omega) h.le (by omega)
  have hd0 : (l.take (min l.length 40)).length = min l.length 40 := by rw [List.length_take]; omega
  have hS : ∀ W, Below w.heap.size w W → Sl W A c (l.take (min l.length 40)) := fun W hB => ⟨(h.bys.on hB).pre _, by rw [hd0]; have := h.le; omega, h.max, h.nil⟩
  obtain ⟨d, hd⟩ : ∃ d, d = l.take (min l.length 40) := ⟨_, rfl⟩
  rw [← hd] at hpre hS hd0
  have hdl : d.length ≤ 40 := by omega
  obtain ⟨nd, hnd⟩ : ∃ x, x = d.length := ⟨_, rfl⟩
  rw [← hnd] at hpre
  obtain ⟨q, hq⟩ : ∃ x, x = l.length := ⟨_, rfl⟩
  rw [← hq] at hpre ⊢
  obtain ⟨p, hp⟩ : ∃ x, x = l0.length := ⟨_, rfl⟩
  rw [← hp] at N0 ⊢
  have HS := Lib.hid hS
  have HK := Lib.hid hk
  have HCN := Lib.hid hcn
  have HDL := Lib.hid hdl
  have HND := Lib.hid hnd
  have RC := Lib.hid (rCan_any n)
  rw [hcn] at RC
  have hnl := (can_out hcn).1
  have hszn : (bs n).size = n.length := bs_size n
  clear h0 h hn hd0 hd hk hS hcn hdl hnd hq hp
  go_enter Tryd.func4, Tryd.ntmps4
  go_wp2_with fail
  refine N0.out.mono ?_
  rintro e w1 ⟨rfl, b1⟩
  have s1 := b1.size
  have HB1 := Lib.hid b1
  clear b1 N0
  go_wp2_with fail
  rw [hkk]
  have HKK := Lib.hid hkk
  obtain ⟨G, hG⟩ : ∃ G, G = w1.heap.size + 1 := ⟨_, rfl⟩
  obtain ⟨Q, hQ⟩ : ∃ Q, Q = w1.heap.size := ⟨_, rfl⟩
  have rq := row_old (.cells (ptC w1.heap.size (.slice none 0 0)) 27 (0, 0)) (row_new (w := w1) (k := w1.heap.size) (.cells #[.string (bs n), .int .i64 1, .int .i64 1] 40 (0, 0)) rfl)
  have rg := row_new (w := w1.alloc (.cells #[.string (bs n), .int .i64 1, .int .i64 1] 40 (0, 0))) (k := w1.heap.size + 1) (.cells (ptC w1.heap.size (.slice none 0 0)) 27 (0, 0)) (by simp)
  have bA : Below w.heap.size w ((w1.alloc (.cells #[.string (bs n), .int .i64 1, .int .i64 1] 40 (0, 0))).alloc (.cells (ptC w1.heap.size (.slice none 0 0)) 27 (0, 0))) := Below.alloc (Below.alloc HB1.out s1 _) (by simp; omega) _
  have HRQ := Lib.hid rq
  have HRG := Lib.hid rg
  have HBA := Lib.hid bA
  unfold ptC at HRQ HRG HBA
  rw [← hG] at HRG ⊢
  have HGQ : Hid (w.heap.size ≤ Q ∧ G = Q + 1) := Lib.hid ⟨by omega, by omega⟩
  rw [← hQ] at HRQ HRG HBA ⊢
  obtain ⟨WA, hWA⟩ : ∃ WA, WA = (w1.alloc (.cells #[.string (bs n), .int .i64 1, .int .i64 1] 40)).alloc (.cells #[.int .i64 0, .bool false, .int .i64 0, .bool false, .bool false, .bool false, .bool false, .int .i64 0, .slice (some ⟨Q, 0, none⟩) 1 1, .slice none 0 0, .slice none 0 0, .slice none 0 0] 27) := ⟨_, rfl⟩
  rw [← hWA] at HRQ HRG HBA ⊢
  clear rq rg bA hG hQ hWA hkk HB1 s1 hpre
  go_loopw [28] (fun v28 wr => ∃ (i : Nat) (a : Option Addr) (cp : Nat), v28 = .int .i64 i ∧ i ≤ k ∧ Hid (wr.heap[Q]? = some (.cells #[.string (bs n), .int .i64 1, .int .i64 1] 40 (0, 0))) ∧ Hid (wr.heap[G]? = some (.cells (ptC Q (.slice a i cp)) 27 (0, 0))) ∧ Hid (wr.ownsRow w.heap.size 42 5 (.slice a i cp) i ((List.replicate i (⟨n, 300, 1, 0, d⟩ : Rr)).flatMap (fun r => rrL r A c))) ∧ Hid (Below w.heap.size w wr)) (fun v28 _ => k - (intOf v28).toNat)
  case atStart => exact ⟨0, none, 0, rfl, by omega, HRQ, HRG, Lib.hid (World.ownsRow_nil _ _ _ _), HBA⟩
  case round =>
    clear HRQ HRG HBA
    obtain ⟨i, a, cp, rfl, hik, HRQ, HRG, HOW, HBA⟩ := hrel
    rename World => wr
    by_cases hlt : i < k
    · have hlt' : (i : Int) < (k : Int) := by omega
      have g9 : wr.cell? ⟨G, 9, none⟩ = some (.slice a i cp) := (cell_of_row _ G 9 _ _ _ HRG.out).trans rfl
      have hsz := HBA.out.size
      have hGl : G < wr.heap.size := (Array.getElem?_eq_some_iff.1 HRG.out).1
      have hown := HOW.out
      have hGne : (Value.slice a i cp).ownBlock ≠ some G := fun e => by
        rcases hown.2 with ⟨e0, _⟩ | ⟨g, cap, cur, e0, _, hh, _⟩
        · rw [e0] at e; cases e
        · rw [e0] at e
          injection e with e
          have e : g = G := e
          rw [e, HRG.out] at hh
          injection hh with hh
          injection hh with _ hh
          cases hh
      have hQne : (Value.slice a i cp).ownBlock ≠ some Q := fun e => by
        rcases hown.2 with ⟨e0, _⟩ | ⟨g, cap, cur, e0, _, hh, _⟩
        · rw [e0] at e; cases e
        · rw [e0] at e
          injection e with e
          have e : g = Q := e
          rw [e, HRQ.out] at hh
          injection hh with hh
          injection hh with _ hh
          cases hh
      have HNE := Lib.hid hGne
      have HNQ := Lib.hid hQne
      have HO := Lib.hid (hown.alloc (.cells #[.string (bs n), .int .i64 300, .int .i64 1, .int .i64 0, .slice A nd c] 42))
      clear hown hGne hQne
      go_wp2_with (first
        | (at_builtin; refine wpList_append_own _ rfl (.tmp 31) (.tmp 35) 25 rfl w.heap.size 42 i0 (.agg #[.string ⟨#[]⟩, .int .i64 0, .int .i64 0, .int .i64 0, .slice none 0 0]) 5 64 Tryd.underlying25 hi hz0 hz1 hz2 rfl (by decide) _ _ _ rfl HO.out ⟨wr.heap.size, 0, none⟩ 1 1 [.string (bs n), .int .i64 300, .int .i64 1, .int .i64 0, .slice A nd c] rfl rfl ?c1 ?c2 ?c3 ?c4 ?c5 ?_)
        | fail)
      case c1 => exact World.news_of_block (cs := #[.string (bs n), .int .i64 300, .int .i64 1, .int .i64 0, .slice A nd c]) (t := 42) (fr := (0, 0)) (row_new _ rfl)
      case c2 => simp [Value.oneCell']
      case c3 => unfold maxLen; omega
      case c4 => omega
      case c5 => simp; omega
      intro v' w5 hown5 hgrow _
      obtain ⟨a5, c5, rfl⟩ : ∃ a5 c5, v' = .slice a5 (i + 1) c5 := by
        rcases hown5.2 with ⟨_, h0⟩ | ⟨g, cap, cur, e, _⟩
        · omega
        · exact ⟨_, _, e⟩
      have eG : w5.heap[G]? = some (.cells (ptC Q (.slice a i cp)) 27 (0, 0)) := (hgrow.block G (by simp; omega) (fun e => HNE.out e.symm)).trans (row_old _ HRG.out)
      have eQ : w5.heap[Q]? = some (.cells #[.string (bs n), .int .i64 1, .int .i64 1] 40 (0, 0)) := (hgrow.block Q (by have := HGQ.out; simp; omega) (fun e => HNQ.out e.symm)).trans (row_old _ HRQ.out)
      have d9 : w5.cell? ⟨G, 9, none⟩ = some (.slice a i cp) := (cell_of_row _ G 9 _ _ _ eG).trans rfl
      have z9 : w5.frozen? ⟨G, 9, none⟩ = false := frozen_of_row _ _ 9 _ _ eG
      have b5 : Below w.heap.size w w5 := Below.grown (Below.alloc HBA.out hsz _) hgrow (by simp; omega) (fun g e => (HOW.out.lt g e).1)
      have HG2 : Hid ((w5.setCell ⟨G, 9, none⟩ (.slice a5 (i + 1) c5)).heap[G]? = some (.cells (ptC Q (.slice a5 (i + 1) c5)) 27 (0, 0))) := Lib.hid (row_set _ eG)
      have HQ2 : Hid ((w5.setCell ⟨G, 9, none⟩ (.slice a5 (i + 1) c5)).heap[Q]? = some (.cells #[.string (bs n), .int .i64 1, .int .i64 1] 40 (0, 0))) := Lib.hid (row_other _ eQ (by have := HGQ.out; omega))
      have HB2 : Hid (Below w.heap.size w (w5.setCell ⟨G, 9, none⟩ (.slice a5 (i + 1) c5))) := Lib.hid (b5.setCell (show w.heap.size ≤ G by have := HGQ.out; omega) _)
      have hG5 : (Value.slice a5 (i + 1) c5).ownBlock ≠ some G := fun e => by
        rcases hown5.2 with ⟨e0, _⟩ | ⟨g, cap, cur, e0, _, hh, _⟩
        · rw [e0] at e; cases e
        · rw [e0] at e
          injection e with e
          have e : g = G := e
          rw [e, eG] at hh
          injection hh with hh
          injection hh with _ hh
          cases hh
      have HO2 : Hid ((w5.setCell ⟨G, 9, none⟩ (.slice a5 (i + 1) c5)).ownsRow w.heap.size 42 5 (.slice a5 (i + 1) c5) (i + 1) ((List.replicate (i + 1) (⟨n, 300, 1, 0, d⟩ : Rr)).flatMap (fun r => rrL r A c))) := Lib.hid (by
        have e : (List.replicate (i + 1) (⟨n, 300, 1, 0, d⟩ : Rr)).flatMap (fun r => rrL r A c) = (List.replicate i (⟨n, 300, 1, 0, d⟩ : Rr)).flatMap (fun r => rrL r A c) ++ [.string (bs n), .int .i64 300, .int .i64 1, .int .i64 0, .slice A nd c] := by
          rw [List.replicate_succ', List.flatMap_append, HND.out]
          rfl
        rw [e]
        refine ⟨hown5.1, ?_⟩
        rcases hown5.2 with h | ⟨g, cap, cur, e0, hb, hh, r⟩
        · exact .inl h
        · exact .inr ⟨g, cap, cur, e0, hb, row_other _ hh (fun e3 => hG5 (by rw [e0, e3]; rfl)), r⟩)
      clear hown5 hgrow eG eQ b5 hG5 HO HNE HNQ HOW HRG HRQ HBA g9
      go_wp2_with fail
      go_roundw
      case rel => exact ⟨i + 1, a5, c5, by go_num, by omega, HQ2, HG2, HO2, HB2⟩
      case measure => simp [intOf]; omega
    · have hlt' : ¬ (i : Int) < (k : Int) := by omega
      obtain rfl : i = k := by omega
      have fm : loadMg (.pointer (some ⟨G, 0, none⟩)) wr = .ok (.value (.agg (ptC Q (.slice a i cp)))) wr := loadMg_row HRG.out (by kernel_rfl)
      have hcC : ptC Q (.slice a i cp) = (msL (ptM n d i) (ptV Q a cp)).toArray := by
        simp [ptC, msL, ptM, ptV, hdC, hd0]
      have hSd := HS.out wr HBA.out
      have hms : Ms wr (ptM n d i) (ptV Q a cp) := by
        refine ⟨fun _ => ⟨Q, 0, rfl, fun j hj => ?_⟩, fun hl => ?_, (fun hl => absurd hl (by simp [ptM])), (fun hl => absurd hl (by simp [ptM])), ⟨by simp [ptM, ptV], by simp [ptV]⟩, ?_, ⟨by simp [ptM, ptV], by simp [ptV]⟩, ⟨by simp [ptM, ptV], by simp [ptV]⟩⟩
        · have hj0 : j = 0 := by simp [ptM] at hj; omega
          subst hj0
          intro x vx hx
          rw [cell_of_row _ Q _ _ _ _ HRQ.out]
          simpa [ptM, quL] using hx
        · have hk0 : 0 < i := by simpa [ptM] using hl
          rcases HOW.out.2 with ⟨_, h0⟩ | ⟨g, cap, cur, e0, hb, hh, hc1, hc2, hc3, ht⟩
          · omega
          · injection e0 with e0 _ _
            refine ⟨g, 0, e0, fun j hj => ⟨A, c, ?_, ?_⟩⟩
            · have : (ptM n d i).an[j].d = d := by simp [ptM]
              rw [this]
              exact ⟨hSd.bys, hSd.le, hSd.max, hSd.nil⟩
            · have := flat_range (f := fun r => rrL r A c) (s := 5) (fun _ => rfl) (L := List.replicate i (⟨n, 300, 1, 0, d⟩ : Rr)) hh (by rw [List.length_replicate]; exact ht) j hj
              rw [Nat.zero_add]
              exact this
        · show (List.replicate i _).length ≤ cp ∧ cp ≤ 9223372036854775807
          rw [List.length_replicate]
          rcases HOW.out.2 with ⟨e0, h0⟩ | ⟨g, cap, cur, e0, hb, hh, hc1, hc2, _⟩
          · injection e0 with _ _ e0
            omega
          · injection e0 with _ _ e0
            subst e0
            unfold maxLen at hc2
            omega
      have EN := Lib.hid (Encode_any (ptM n d i) (ptV Q a cp) wr hms (HK.out.on HBA.out))
      rw [← hcC] at EN
      have HEX := Lib.hid (ptM_enc (d := d) HCN.out HDL.out (Nat.le_of_lt hk20))
      have HCA := Lib.hid (ptM_can (d := d) HCN.out HDL.out (Nat.le_of_lt hk20))
      obtain ⟨ow, how⟩ : ∃ x, x = ownW n := ⟨_, rfl⟩
      have how2 : ow ≤ 2 := by rw [how]; unfold ownW; split <;> omega
      have HOWN := Lib.hid how
      obtain ⟨tot, htot⟩ : ∃ x, x = i * (ow + 10 + nd) := ⟨_, rfl⟩
      have htl : tot ≤ 20 * 52 := by rw [htot]; exact Nat.mul_le_mul (by omega) (by have := HDL.out; have := HND.out; omega)
      have HTOT := Lib.hid htot
      have wm : wrap64 ((i : Int) * ((ow : Int) + 10 + (nd : Int))) = (tot : Int) := by
        rw [htot]
        have : ((i * (ow + 10 + nd) : Nat) : Int) = (i : Int) * ((ow : Int) + 10 + (nd : Int)) := by simp
        rw [← this, ← htot]
        unfold wrap64
        omega
      clear hSd hms hcC HRQ HOW hi hz0 hz1 hz2 how htot HS HK
      cases hn0 : (n == [0]) with
      | true =>
        have ho1 : ow = 1 := by rw [HOWN.out]; unfold ownW; rw [if_pos (by simpa using hn0)]
        subst ho1
        have wm2 : wrap64 ((i : Int) * (11 + (nd : Int))) = (tot : Int) := by rw [show (11 : Int) + (nd : Int) = ((1 : Nat) : Int) + 10 + (nd : Int) by omega]; exact wm
        have hndl : nd ≤ 40 := by have := HDL.out; have := HND.out; omega
        obtain ⟨nl, hnl2⟩ : ∃ x, x = n.length := ⟨_, rfl⟩
        rw [← hnl2] at hnl hszn
        have wa : IntKind.i64.wrap (12 + (nl : Int)) = 12 + (nl : Int) := IntWalk.i64_in _ (by omega)
        have wb : IntKind.i64.wrap (12 + (nl : Int) + 4) = 12 + (nl : Int) + 4 := IntWalk.i64_in _ (by omega)
        have wc : IntKind.i64.wrap (11 + (nd : Int)) = 11 + (nd : Int) := IntWalk.i64_in _ (by omega)
        have wd : IntKind.i64.wrap (12 + (nl : Int) + 4 + (tot : Int)) = 12 + (nl : Int) + 4 + (tot : Int) := IntWalk.i64_in _ (by omega)
        obtain ⟨X, hX, hlen⟩ := HEX.out
        have hlen2 : X.b.length = 16 + nl + tot := by rw [hlen, HTOT.out, HOWN.out, hnl2, HND.out]
        obtain ⟨z, hz⟩ : ∃ z, z = X.b.length := ⟨_, rfl⟩
        have heq : ((z : Int) == 12 + (nl : Int) + 4 + (tot : Int)) = true := by rw [beq_iff_eq, hz, hlen2]; omega
        have HX := Lib.hid hX
        have HZ := Lib.hid hz
        have HB := Lib.hid HBA.out
        clear hX hlen hlen2 hz hnl2 HEX HOWN HTOT wm HBA hk20 hik HDL HND
        go_wp2_with fail
        refine EN.out.mono ?_
        rintro e w3 ⟨v3, k3, rfl, b3, -, -, h5⟩
        obtain ⟨rfl, hrow, hnn⟩ := h5 X HCA.out HX.out
        obtain ⟨g3, c3, hv3, -⟩ := OwnR.slice_form hrow hnn
        rw [← HZ.out] at hv3
        have HB3 := Lib.hid (Below.trans HB.out (b3.mono HB.out.size))
        clear hrow hnn h5 b3 EN HX HCA
        subst hv3
        go_wp2_with fail
        refine (RC.out _).mono ?_
        rintro e w4 ⟨rfl, rfl⟩
        go_wp2_with fail
        go_ret
        exact ⟨rfl, HB3.out⟩
      | false =>
        have ho1 : ow = 2 := by rw [HOWN.out]; unfold ownW; rw [if_neg (by simpa using hn0)]
        subst ho1
        have wm2 : wrap64 ((i : Int) * (12 + (nd : Int))) = (tot : Int) := by rw [show (12 : Int) + (nd : Int) = ((2 : Nat) : Int) + 10 + (nd : Int) by omega]; exact wm
        have hndl : nd ≤ 40 := by have := HDL.out; have := HND.out; omega
        obtain ⟨nl, hnl2⟩ : ∃ x, x = n.length := ⟨_, rfl⟩
        rw [← hnl2] at hnl hszn
        have wa : IntKind.i64.wrap (12 + (nl : Int)) = 12 + (nl : Int) := IntWalk.i64_in _ (by omega)
        have wb : IntKind.i64.wrap (12 + (nl : Int) + 4) = 12 + (nl : Int) + 4 := IntWalk.i64_in _ (by omega)
        have wc : IntKind.i64.wrap (12 + (nd : Int)) = 12 + (nd : Int) := IntWalk.i64_in _ (by omega)
        have wd : IntKind.i64.wrap (12 + (nl : Int) + 4 + (tot : Int)) = 12 + (nl : Int) + 4 + (tot : Int) := IntWalk.i64_in _ (by omega)
        obtain ⟨X, hX, hlen⟩ := HEX.out
        have hlen2 : X.b.length = 16 + nl + tot := by rw [hlen, HTOT.out, HOWN.out, hnl2, HND.out]
        obtain ⟨z, hz⟩ : ∃ z, z = X.b.length := ⟨_, rfl⟩
        have heq : ((z : Int) == 12 + (nl : Int) + 4 + (tot : Int)) = true := by rw [beq_iff_eq, hz, hlen2]; omega
        have HX := Lib.hid hX
        have HZ := Lib.hid hz
        have HB := Lib.hid HBA.out
        clear hX hlen hlen2 hz hnl2 HEX HOWN HTOT wm HBA hk20 hik HDL HND
        go_wp2_with fail
        refine EN.out.mono ?_
        rintro e w3 ⟨v3, k3, rfl, b3, -, -, h5⟩
        obtain ⟨rfl, hrow, hnn⟩ := h5 X HCA.out HX.out
        obtain ⟨g3, c3, hv3, -⟩ := OwnR.slice_form hrow hnn
        rw [← HZ.out] at hv3
        have HB3 := Lib.hid (Below.trans HB.out (b3.mono HB.out.size))
        clear hrow hnn h5 b3 EN HX HCA
        subst hv3
        go_wp2_with fail
        refine (RC.out _).mono ?_
        rintro e w4 ⟨rfl, rfl⟩
        go_wp2_with fail
        go_ret
        exact ⟨rfl, HB3.out⟩
end Go.Proofs.YtgfahkgnblkhaaaDoor
namespace Go.Proofs.YtgfahkgnblkhaaaDoor
open Go.ChangeShapes Go.WideShapes Go.ChangeAt Go.RowKit
set_option linter.unusedVariables false
set_option maxRecDepth 100000

theorem mk_data : (Rows.laid_cicerone_header_masks : DataW Unit) = Lib.tabData .i64 [32768, 1024, 512, 256, 128] := by kernel_rfl
theorem masks_laid {W : World} (h : laidMetH Tryd.prog [("cicerone/header.masks", Rows.laid_cicerone_header_masks)] W) : Masks W := by
  have h' : laidMet Tryd.prog [("cicerone/header.masks", Rows.laid_cicerone_header_masks)] W := h
  rw [mk_data] at h'
  exact masks_of (Lib.tabIs_of_head gMask gMaskType Tryd.underlying122 Tryd.underlying3 (by kernel_rfl) (by kernel_rfl) h')
end Go.Proofs.YtgfahkgnblkhaaaDoor
