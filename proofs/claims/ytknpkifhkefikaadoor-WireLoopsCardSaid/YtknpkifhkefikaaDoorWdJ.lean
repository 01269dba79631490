/-
  The document's Encode for a message.
-/
import Derived.Test.YtknpkifhkefikaaDoorWdI
import Derived.Deep.RegionLaw
import Derived.Deep.CutBlock
import Derived.Deep.DeepCutAuto
namespace Go.Proofs.YtknpkifhkefikaaDoor
open Go.RowKit Go.Maps
set_option linter.unusedVariables false
set_option maxRecDepth 100000
attribute [local go_sem ↓] exec_loadMg exec_loadHd

/-- The message in its box, a writer at g that nobody has written to. -/
structure BG (w : World) (m : Msg) (v : MV) (g : Nat) (W : World) : Prop where
  bm : BM w m v W
  rw' : W.heap[g]? = some (.cells #[.slice none 0 0, .slice none 0 0] 77 (0, 0))
theorem BG.on {w W W' : World} {m : Msg} {v : MV} {g : Nat} (h : BG w m v g W) (k : Below W.heap.size W W') : BG w m v g W' := ⟨h.bm.on k, (k.block _ (Array.getElem?_eq_some_iff.1 h.rw').1).trans h.rw'⟩
theorem BG.drew {w W : World} {m : Msg} {v : MV} {g : Nat} (h : BG w m v g W) : BG w m v g W.drew := h.on (Below.drew (Below.refl _ _))
def SEQ (g kb : Nat) (v0 : Value) (t k : Nat) : Nat → Value → Prop
  | 0, v => v = .pointer (some ⟨g, 0, none⟩)
  | 1, v => v = .pointer (some ⟨g, 0, none⟩)
  | 2, v => v = .pointer (some ⟨g, 0, none⟩)
  | 3, v => v = .pointer (some ⟨g, 0, none⟩)
  | 4, v => v = v0
  | 5, v => v = .pointer (some ⟨kb, 1, none⟩)
  | 6, v => v = .int .i64 t
  | 9, v => v = .pointer (some ⟨kb, 2, none⟩)
  | 10, v => v = .int .i64 k
  | 13, v => v = .pointer (some ⟨g, 0, none⟩)
  | 14, v => v = .pointer (some ⟨g, 0, none⟩)
  | _, _ => True

set_option maxHeartbeats 4000000 in
set_option maxRecDepth 100000 in
theorem dEncode_any (m : Msg) (v : MV) (w : World) (hM : Ms w m v) (hk : Masks w) : Calls Tryd.prog 10 #[.agg (msL m v).toArray] w (EncP w m) := by
  have HD : Hid (∀ e w', EncP w m e w' ↔ ∃ v k, e = .returned (.tuple #[v, .int .i64 k]) ∧ Below w.heap.size w w' ∧ (canM m = false → v = .slice none 0 0 ∧ k = 1) ∧ (canM m = true → encX m = none → v = .slice none 0 0 ∧ k = 42) ∧ (∀ X, canM m = true → encX m = some X → k = 0 ∧ OwnR w' w.heap.size v X.b ∧ v ≠ .slice none 0 0)) := Lib.hid (fun _ _ => Iff.rfl)
  have X0 := BM.start w m v hk
  obtain ⟨C, hC⟩ : ∃ C, C = (msL m v).toArray := ⟨_, rfl⟩
  have hCs : (Tryd.prog.info? 27).map (·.size) = some C.size := by rw [hC]; exact info_ms
  have K0 := Lib.hid (fun W (h : BM w m v W) => by have := dCanM_any m v W (hM.on h.b) h.k; rw [← hC] at this; exact this)
  have HC1 : Hid (canM m = true → canHd m.h m.q.length m.an.length m.au.length m.ad.length = true) := Lib.hid (fun h => by
    unfold canM at h
    simp only [Bool.and_eq_true] at h
    exact h.1)
  have HLEN : Hid (canM m = true → m.q.length ≤ 65535 ∧ m.an.length ≤ 65535 ∧ m.au.length ≤ 65535 ∧ m.ad.length ≤ 65535) := Lib.hid (fun h => by
    obtain ⟨b0, b1, b2, b3, bI, bO, bC⟩ := canH_out (HC1.out h)
    omega)
  have K1 := Lib.hid (fun g W (h : BG w m v g W) => by have := dcounts_any m v W; rw [← hC] at this; exact this)
  have K2 := Lib.hid (fun g W (h : BG w m v g W) (hc : canM m = true) => dHEnc_any m.h m.q.length m.an.length m.au.length m.ad.length W (g + 1) (Array.getElem?_eq_some_iff.1 h.rw').1 (HC1.out hc))
  have F1 : ∀ W, BM w m v W → loadHd (.pointer (some ⟨w.heap.size, 0, none⟩)) W = .ok (.value (.agg (hdC m.h))) W := fun W h => ms_head h.r
  have F2 : ∀ W, BM w m v W → loadMg (.pointer (some ⟨w.heap.size, 0, none⟩)) W = .ok (.value (.agg C)) W := fun W h => loadMg_row (by rw [hC]; exact h.r) hCs
  obtain ⟨hcd, hhc⟩ : ∃ z, z = hdC m.h := ⟨_, rfl⟩
  rw [← hhc] at K2 F1
  have K5 := Lib.hid (fun W (h : BM w m v W) (hc : canM m = true) => by have := dall_any m v w W h.b hM (HLEN.out hc).2.1 (HLEN.out hc).2.2.1 (HLEN.out hc).2.2.2; rw [← hC] at this; exact this)
  have HKM := Lib.hid hk
  obtain ⟨aq, haq⟩ : ∃ a, a = v.aq := ⟨_, rfl⟩
  have HQS := Lib.hid (fun W (h : BM w m v W) => by have := hM.q.on h.b; rw [← haq] at this; exact this)
  have hql := hM.lq
  obtain ⟨nq, hnq⟩ : ∃ n, n = m.q.length := ⟨_, rfl⟩
  have HCQ : Hid (∀ W, BM w m v W → W.cell? ⟨w.heap.size, 8, none⟩ = some (.slice aq nq v.cq)) := Lib.hid (fun W h => by rw [hnq, haq]; exact (ms_cell h.r).1)
  have HNQ := Lib.hid hnq
  rw [← hC] at X0 ⊢
  have HC := Lib.hid hC
  obtain ⟨cm, hcm⟩ : ∃ b, b = canM m := ⟨_, rfl⟩
  have HAQ : Hid (cm = true → ∀ q ∈ m.q, canQ q = true) := Lib.hid (fun hc q hq => by
    rw [hcm] at hc
    unfold canM at hc
    simp only [Bool.and_eq_true, List.all_eq_true] at hc
    exact hc.2.1 q hq)
  have HAR : Hid (cm = true → ∀ r ∈ m.rs, canR r = true) := Lib.hid (fun hc r hr => by
    rw [hcm] at hc
    unfold canM at hc
    simp only [Bool.and_eq_true, List.all_eq_true] at hc
    exact hc.2.2 r hr)
  rw [← hcm] at K0 HD K2 K5 HLEN
  generalize hQ : EncP w m = Q at *
  clear hQ
  have fm0 := F2 _ X0
  have k0 := K0.out _ X0
  have HX0 := Lib.hid X0
  clear hM hk hhc hnq hC hCs haq hcm X0 HC1
  cases cm with
  | false =>
    have HK0 := Lib.hid k0
    clear k0 F1 F2
    go_enter Tryd.func10, Tryd.ntmps10
    go_wp2_with fail
    refine HK0.out.mono ?_
    rintro e w1 ⟨rfl, b1⟩
    have HF := Lib.hid ((HD.out (.returned (.tuple #[.slice none 0 0, .int .i64 1])) w1).2 ⟨_, _, rfl, (HX0.out.on b1).b, fun _ => ⟨rfl, rfl⟩, (fun h => by cases h), fun X h => by cases h⟩)
    go_wp2_with fail
    exact HF.out
  | true =>
    have HK0 := Lib.hid k0
    have BQ := Lib.hid (HAQ.out rfl)
    have BR := Lib.hid (HAR.out rfl)
    have BLEN := Lib.hid (HLEN.out rfl)
    have J2 := Lib.hid (fun g W h => K2.out g W h rfl)
    have J5 := Lib.hid (fun W h => K5.out W h rfl)
    have HEX := Lib.hid (encX_fold m BQ.out BR.out)
    clear k0 HAQ HAR HLEN K2 K5
    go_enter Tryd.func10, Tryd.ntmps10
    go_wp2_with fail
    refine HK0.out.mono ?_
    rintro e w1 ⟨rfl, b1⟩
    have X1 := HX0.out.on b1
    have hgw : w.heap.size + 1 ≤ w1.heap.size := X1.lt
    have BA : Below w1.heap.size w1 (w1.alloc (.cells #[.slice none 0 0, .slice none 0 0] 77 (0, 0))) := Below.alloc (Below.refl _ _) (Nat.le_refl _) _
    have HG0 := Lib.hid (⟨X1.on BA, row_new _ rfl⟩ : BG w m v w1.heap.size (w1.alloc (.cells #[.slice none 0 0, .slice none 0 0] 77 (0, 0))))
    obtain ⟨g, hg⟩ : ∃ g, g = w1.heap.size := ⟨_, rfl⟩
    have HGE := Lib.hid hg
    rw [← hg] at HG0 hgw
    have hgw := Lib.hid hgw
    clear b1 fm0 HK0 K0 X1 BA hg
    go_upto_region 4 with fail
    rw [← HGE.out]
    go_cut [14] (fun _ wx => ∃ vh, Hid (DtM g vh (.slice none 0 0) (w.heap.size + 1) (headM m) [] wx) ∧ Hid (BM w m v wx))
    case first =>
      have hXd := HG0.out.drew
      have G1 : ∀ W, BG w m v g W → loadHd (.pointer (some ⟨w.heap.size, 0, none⟩)) W = .ok (.value (.agg hcd)) W := fun W h => F1 W h.bm
      have G2 : ∀ W, BG w m v g W → loadMg (.pointer (some ⟨w.heap.size, 0, none⟩)) W = .ok (.value (.agg C)) W := fun W h => F2 W h.bm
      have G3 : ∀ W, BG w m v g W → W.cell? ⟨g, 0, none⟩ = some (.slice none 0 0) := fun W h => (cell_of_row _ g 0 _ _ _ h.rw').trans rfl
      have G4 : ∀ W, BG w m v g W → W.frozen? ⟨g, 0, none⟩ = false := fun W h => frozen_of_row _ g 0 _ _ h.rw'
      clear F1 F2
      go_region_law ((first
        | (go_simp; go_at_call 35; (with_reducible refine (K1.out g _ (by assumption)).mono ?_); rintro e w' ⟨rfl, hBx⟩; have hX2 := BG.on (by assumption) hBx)
        | (go_simp; go_at_call 34; (with_reducible refine (J2.out g _ (by assumption)).mono ?_); rintro e w' ⟨vh, rfl, hBx, o1, n1⟩; obtain ⟨gv1, c1, rfl, -⟩ := OwnR.slice_form o1 n1; have hX2 := BG.on (by assumption) hBx)))
      all_goals
        have hXE : BG w m v g w' := by assumption
        have HDM := Lib.hid (DtM.made hXE.rw' o1 n1 hgw.out)
        have HBM := Lib.hid (hXE.bm.far HKM.out (Below.setCell (p := ⟨g, 0, none⟩) (Below.refl _ _) hgw.out (.slice (some ⟨gv1, 0, none⟩) (headB m.h m.q.length m.an.length m.au.length m.ad.length).length c1)))
        clear hXd hX2 hBx G1 G2 o1 n1
        go_wp2_with fail
        go_meet
        exact ⟨_, HDM, HBM⟩
    case rest =>
      obtain ⟨vh, HDM, HB4⟩ := hcut
      rename World => w4
      have c8 := HCQ.out _ HB4.out
      obtain ⟨base, hbase⟩ : ∃ b, b = w.heap.size + 1 := ⟨_, rfl⟩
      rw [← hbase] at HDM
      have HBE := Lib.hid hbase
      have HQ4 : Hid (DrP g vh (.slice none 0 0) base (foldW quW (m.q.take 0) (headM m)) w4 w4) := Lib.hid ⟨vh, _, [], HDM.out, by rw [show foldW quW (m.q.take 0) (headM m) = headM m from rfl, headM_len]; simp, Mod.refl _ _, fun k hk => .inl (.inr hk)⟩
      have HFAR : Hid (∀ (v1 vp1 : Value) (X X' : Wt) (L : List Plc) (W W' : World), BM w m v W → DtM g v1 vp1 base X L W → DrP g v1 vp1 base X' W W' → BM w m v W') := Lib.hid (fun v1 vp1 X X' L W W' hb hd ⟨_, _, _, _, _, hm, _⟩ => by
        subst hbase
        exact hb.far HKM.out (hm.toBelow hb.lt (fun i hi => hd.base_le hi)))
      clear hbase HG0 K1 J2 F1 HX0
      go_wp2_with fail
      go_loopw [28] (fun v28 wr => ∃ i : Nat, v28 = .int .i64 i ∧ i ≤ nq ∧ Hid (DrP g vh (.slice none 0 0) base (foldW quW (m.q.take i) (headM m)) w4 wr) ∧ Hid (BM w m v wr)) (fun v28 _ => nq - (intOf v28).toNat)
      case atStart => exact ⟨0, rfl, Nat.zero_le _, HQ4, HB4⟩
      case round =>
        obtain ⟨i, rfl, hi, HP, HB⟩ := hrel
        rename World => wr
        by_cases hlt : i < nq
        · have hlt' : (i : Int) < (nq : Int) := by omega
          have hiq : i < m.q.length := by rw [← HNQ.out]; exact hlt
          obtain ⟨gq, oq, hAq, hcq⟩ := HQS.out _ HB.out (by omega)
          have hr := hcq i hiq
          have hcq2 := BQ.out _ (List.getElem_mem hiq)
          have hft := foldW_take quW hiq (headM m)
          have hfl := foldQ_len (l := m.q.take i) (fun q hq => BQ.out q (List.mem_of_mem_take hq)) (headM m)
          rw [headM_len, List.length_take] at hfl
          have hnl := BLEN.out.1
          generalize m.q[i] = q at *
          obtain ⟨v5, vp5, L5, hD5, hL5, hM5, hF5⟩ := HP.out
          obtain ⟨X, hX⟩ : ∃ X, X = foldW quW (m.q.take i) (headM m) := ⟨_, rfl⟩
          rw [← hX] at hD5 hL5 hft hfl
          have hXl : X.b.length ≤ 20000000 := by omega
          obtain ⟨r8, q8⟩ := box_row wr #[.string ⟨#[]⟩, .int .i64 0, .int .i64 0] (quL q) 44
          obtain ⟨W1, hW1⟩ : ∃ W1, W1 = (wr.alloc (.cells #[.string ⟨#[]⟩, .int .i64 0, .int .i64 0] 44)).setRow wr.heap.size (quL q).toArray := ⟨_, rfl⟩
          have rZ := row_new (w := wr) (k := wr.heap.size) (.cells #[.string ⟨#[]⟩, .int .i64 0, .int .i64 0] 44 (0, 0)) rfl
          rw [← hW1] at r8 q8
          have R1 := RcS.boxed hD5 hL5 q8 r8
          obtain ⟨t, k, hqt, hqc, hcn⟩ : ∃ t k : Nat, q.t = t ∧ q.c = k ∧ can q.n = true := by
            unfold canQ at hcq2
            simp only [Bool.and_eq_true, decide_eq_true_eq] at hcq2
            exact ⟨q.t.toNat, q.c.toNat, by omega, by omega, hcq2.1⟩
          have hqw : quW q X = ⟨(nmW q.n X).b ++ tw t ++ tw k, (nmW q.n X).P⟩ := by
            unfold quW
            rw [hqt, hqc]
            simp [twW]
          have d0 := R1.cell (i := 0) (x := .string (bs q.n)) rfl
          have i1 : Hid ((Tryd.prog.info? 44).map (·.size) = some (quL q).toArray.size) := Lib.hid info_qu
          have j1 : Hid ((Tryd.prog.info? 44).map (·.size) = some (quL q).length) := Lib.hid info_qu
          have z1 : Hid ((#[.string ⟨#[]⟩, .int .i64 0, .int .i64 0] : Array Value).size = (quL q).toArray.size) := Lib.hid rfl
          have one1 : Hid ((quL q).toArray.all (·.oneCell') = true) := Lib.hid (qu_one q)
          have CB := Lib.hid (dNm_any q.n W1 R1.at' R1.le hcn (by omega))
          have hnl2 := nmW_len X hcn
          have hn255 := (can_out hcn).1
          have HW1 := Lib.hid hW1
          have HR1 := Lib.hid R1
          obtain ⟨QL, hQL⟩ : ∃ Z, Z = (quL q).toArray := ⟨_, rfl⟩
          have e1 : QL[1]? = some (.int .i64 (t : Nat)) := by rw [hQL, ← hqt]; rfl
          have e2 : QL[2]? = some (.int .i64 (k : Nat)) := by rw [hQL, ← hqc]; rfl
          have HE1 := Lib.hid e1
          have HE2 := Lib.hid e2
          rw [← hQL] at HR1
          have HFT := Lib.hid hft
          have HQW := Lib.hid hqw
          obtain ⟨X1, hX1⟩ : ∃ X1, X1 = nmW q.n X := ⟨_, rfl⟩
          rw [← hX1] at CB HQW hnl2
          have HX1L : Hid (X1.b.length ≤ 20000255) := Lib.hid (by omega)
          have HPM := Lib.hid (show Mod (Foot4 g vh (.slice none 0 0)) w4 wr ∧ (∀ k, (v5.ownBlock = some k ∨ vp5.ownBlock = some k) → Foot4 g vh (.slice none 0 0) k ∨ w4.heap.size ≤ k) from ⟨hM5, hF5⟩)
          have HD5 := Lib.hid hD5
          clear hcq hX hW1 q8 r8 hcq2 hD5 hL5 hM5 hF5 R1 hft hfl hnl hXl hqt hqc hcn hqw hnl2 hn255 hX1 e1 e2 HP
          subst hAq
          generalize hl1 : quL q = l1 at *
          go_wp2_with (first
            | (refine wpList_load_mid rfl 44 (.tmp 30) rfl gq (oq + i * 3) rfl l1 _ hr Tryd.underlying44 rfl j1.out ?_)
            | (refine wpList_store_row rfl 44 (.tmp 6) (.tmp 31) rfl wr.heap.size l1.toArray rfl rfl 44 _ rZ i1.out (by first | exact z1.out | exact z1.out.symm) one1.out ?_; rw [← HW1.out])
            | fail)
          refine CB.out.mono ?_
          rintro e w2 ⟨rfl, d2⟩
          obtain ⟨v2, vp2, L2, R2⟩ := HR1.out.next d2
          have HR2 := Lib.hid R2
          clear d2 R2 CB HR1 d0 rZ hr
          go_upto_region 9 with fail
          obtain ⟨gv2, c2, hv2, -⟩ := HR2.out.at'.form
          obtain ⟨b, hb⟩ : ∃ b, b = X1.b := ⟨_, rfl⟩
          obtain ⟨q1, hq1⟩ : ∃ q, q = b.length := ⟨_, rfl⟩
          rw [← hb, ← hq1] at hv2
          have hbl : b.length ≤ 20000255 := by rw [hb]; exact HX1L.out
          have ch0 := CH.start HR2.out.at'.row HR2.out.at'.nn HR2.out.at'.big
          rw [← hb] at ch0
          have hC0 := ch0.drew
          have T1 := Lib.hid (fun W => dTwo_any t (t : Nat) rfl W)
          have T2 := Lib.hid (fun W => dTwo_any k (k : Nat) rfl W)
          have F0 : Hid (∀ W, (∃ v l ts, CH w2 base v2 v l ts W) → W.cell? ⟨g, 0, none⟩ = some v2) := Lib.hid fun W ⟨_, _, _, hh⟩ => (cell_of_row _ g 0 _ _ _ (hh.cell HR2.out.at'.head HR2.out.at'.gv)).trans rfl
          have F1 : Hid (∀ W, (∃ v l ts, CH w2 base v2 v l ts W) → W.cell? ⟨wr.heap.size, 1, none⟩ = some (.int .i64 (t : Nat))) := Lib.hid fun W ⟨_, _, _, hh⟩ => (cell_of_row _ wr.heap.size 1 _ _ _ (hh.cell HR2.out.row HR2.out.nb.1)).trans HE1.out
          have F3 : Hid (∀ W, (∃ v l ts, CH w2 base v2 v l ts W) → W.cell? ⟨wr.heap.size, 2, none⟩ = some (.int .i64 (k : Nat))) := Lib.hid fun W ⟨_, _, _, hh⟩ => (cell_of_row _ wr.heap.size 2 _ _ _ (hh.cell HR2.out.row HR2.out.nb.1)).trans HE2.out
          have F4 : Hid (∀ W, (∃ v l ts, CH w2 base v2 v l ts W) → W.frozen? ⟨g, 0, none⟩ = false) := Lib.hid fun W ⟨_, _, _, hh⟩ => frozen_of_row _ _ 0 _ _ (hh.cell HR2.out.at'.head HR2.out.at'.gv)
          have G1 : Hid (b.length + (tw t).length ≤ 140737488355328) := Lib.hid (by simp [tw]; omega)
          have G2 : Hid ((b ++ tw t).length + (tw k).length ≤ 140737488355328) := Lib.hid (by simp [tw]; omega)
          have HB' := Lib.hid hb
          have HC0 := Lib.hid hC0
          clear hb hq1 hbl ch0 hC0 hv2
          refine wp_region_laneJ 15 (by kernel_rfl) (by kernel_rfl) (by kernel_rfl) rfl (d := (fun i => 36 + i)) (S := SEQ g wr.heap.size v2 t k) (J := RJ2 w2 base v2 b (tw t) (tw k)) (fun i j hi hj e => by omega) (fun i hi => by simp; omega) (RJ2.start HC0.out) (fun i hi bq D a' w' un hno hr => ?_) (fun V D w' hV hJ => ?_)
          · obtain ⟨_, o, ho, hall⟩ := mem_ready.1 hr
            have t4 : (a'.tmps[4]?).getD undef = .pointer (some ⟨g, 0, none⟩) := slot_of ((un.old 4 (fun i _ => by omega)).trans rfl)
            have t6 : (a'.tmps[6]?).getD undef = .pointer (some ⟨wr.heap.size, 0, none⟩) := slot_of ((un.old 6 (fun i _ => by omega)).trans rfl)
            match i, hi with
            | 0, _ =>
              obtain rfl := Option.some.inj ho
              refine ⟨_, rfl, rfl, ?_⟩
              clear ho hall hr 
              have PJ := fun v => un.inv.pure (i := 0) v (by decide)
              clear un
              unfold Oper.wp
              go_simp
              first | exact ⟨_, rfl, rfl⟩ | exact ⟨_, rfl, rfl, PJ _⟩
            | 1, _ =>
              obtain rfl := Option.some.inj ho
              refine ⟨_, rfl, rfl, ?_⟩
              clear ho hall hr 
              have PJ := fun v => un.inv.pure (i := 1) v (by decide)
              clear un
              unfold Oper.wp
              go_simp
              first | exact ⟨_, rfl, rfl⟩ | exact ⟨_, rfl, rfl, PJ _⟩
            | 2, _ =>
              obtain rfl := Option.some.inj ho
              have h1 := getD_both_true (hall ⟨1, .data⟩ (by simp) rfl)
              obtain ⟨v1, hD1, hv1, hr1⟩ := un.got 1 (by simp) h1
              obtain rfl := hr1
              have s1 := slot_of (j := 37) hv1
              refine ⟨_, rfl, rfl, ?_⟩
              clear ho hall hr hv1
              have PJ := fun v => un.inv.pure (i := 2) v (by decide)
              clear un
              unfold Oper.wp
              go_simp
              first | exact ⟨_, rfl, rfl⟩ | exact ⟨_, rfl, rfl, PJ _⟩
            | 3, _ =>
              obtain rfl := Option.some.inj ho
              have h2 := getD_both_true (hall ⟨2, .data⟩ (by simp) rfl)
              obtain ⟨v2, hD2, hv2, hr2⟩ := un.got 2 (by simp) h2
              obtain rfl := hr2
              have s2 := slot_of (j := 38) hv2
              refine ⟨_, rfl, rfl, ?_⟩
              clear ho hall hr hv2
              have PJ := fun v => un.inv.pure (i := 3) v (by decide)
              clear un
              unfold Oper.wp
              go_simp
              first | exact ⟨_, rfl, rfl⟩ | exact ⟨_, rfl, rfl, PJ _⟩
            | 4, _ =>
              obtain rfl := Option.some.inj ho
              have h3 := getD_both_true (hall ⟨3, .data⟩ (by simp) rfl)
              obtain ⟨v3, hD3, hv3, hr3⟩ := un.got 3 (by simp) h3
              obtain rfl := hr3
              have s3 := slot_of (j := 39) hv3
              have c := F0.out _ un.inv.chx
              refine ⟨_, rfl, rfl, ?_⟩
              clear ho hall hr hv3
              have PJ := fun v => un.inv.pure (i := 4) v (by decide)
              clear un
              unfold Oper.wp
              go_simp
              first | exact ⟨_, rfl, rfl⟩ | exact ⟨_, rfl, rfl, PJ _⟩
            | 5, _ =>
              obtain rfl := Option.some.inj ho
              refine ⟨_, rfl, rfl, ?_⟩
              clear ho hall hr 
              have PJ := fun v => un.inv.pure (i := 5) v (by decide)
              clear un
              unfold Oper.wp
              go_simp
              first | exact ⟨_, rfl, rfl⟩ | exact ⟨_, rfl, rfl, PJ _⟩
            | 6, _ =>
              obtain rfl := Option.some.inj ho
              have h5 := getD_both_true (hall ⟨5, .data⟩ (by simp) rfl)
              obtain ⟨v5, hD5, hv5, hr5⟩ := un.got 5 (by simp) h5
              obtain rfl := hr5
              have s5 := slot_of (j := 41) hv5
              have c := F1.out _ un.inv.chx
              refine ⟨_, rfl, rfl, ?_⟩
              clear ho hall hr hv5
              have PJ := fun v => un.inv.pure (i := 6) v (by decide)
              clear un
              unfold Oper.wp
              go_simp
              first | exact ⟨_, rfl, rfl⟩ | exact ⟨_, rfl, rfl, PJ _⟩
            | 7, _ =>
              obtain rfl := Option.some.inj ho
              have h6 := getD_both_true (hall ⟨6, .data⟩ (by simp) rfl)
              obtain ⟨v6, hD6, hv6, hr6⟩ := un.got 6 (by simp) h6
              obtain rfl := hr6
              have s6 := slot_of (j := 42) hv6
              refine ⟨_, rfl, rfl, ?_⟩
              clear ho hall hr hv6
              have IJ := un.inv
              clear un
              unfold Oper.wp
              go_simp
              go_at_call 37
              (with_reducible refine (T1.out _).mono ?_)
              rintro e wa ⟨ka, rfl, pa1, pa2, pa3, pa4⟩
              exact ⟨_, rfl, trivial, IJ.call7 pa4 pa1 pa2 (ownR_bys pa3)⟩
            | 8, _ =>
              obtain rfl := Option.some.inj ho
              have h4 := getD_both_true (hall ⟨4, .data⟩ (by simp) rfl)
              obtain ⟨v4, hD4, hv4, hr4⟩ := un.got 4 (by simp) h4
              obtain rfl := hr4
              have s4 := slot_of (j := 40) hv4
              have h7 := getD_both_true (hall ⟨7, .data⟩ (by simp) rfl)
              obtain ⟨v7, hD7, hv7, hr7⟩ := un.got 7 (by simp) h7
              have s7 := slot_of (j := 43) hv7
              refine ⟨_, rfl, rfl, ?_⟩
              clear ho hall hr hv4 hv7
              have IJ := un.inv
              obtain ⟨v9, w9, hrun, hJ9⟩ := IJ.app8 hno hD7 G1.out
              clear un
              exact wp_app3 rfl (.tmp 40) (.tmp 43) _ rfl _ _ (by simpa [Act.eval] using s4) (by simpa [Act.eval] using s7) hrun ⟨_, rfl, trivial, hJ9⟩
            | 9, _ =>
              obtain rfl := Option.some.inj ho
              refine ⟨_, rfl, rfl, ?_⟩
              clear ho hall hr 
              have PJ := fun v => un.inv.pure (i := 9) v (by decide)
              clear un
              unfold Oper.wp
              go_simp
              first | exact ⟨_, rfl, rfl⟩ | exact ⟨_, rfl, rfl, PJ _⟩
            | 10, _ =>
              obtain rfl := Option.some.inj ho
              have h9 := getD_both_true (hall ⟨9, .data⟩ (by simp) rfl)
              obtain ⟨v9, hD9, hv9, hr9⟩ := un.got 9 (by simp) h9
              obtain rfl := hr9
              have s9 := slot_of (j := 45) hv9
              have c := F3.out _ un.inv.chx
              refine ⟨_, rfl, rfl, ?_⟩
              clear ho hall hr hv9
              have PJ := fun v => un.inv.pure (i := 10) v (by decide)
              clear un
              unfold Oper.wp
              go_simp
              first | exact ⟨_, rfl, rfl⟩ | exact ⟨_, rfl, rfl, PJ _⟩
            | 11, _ =>
              obtain rfl := Option.some.inj ho
              have h10 := getD_both_true (hall ⟨10, .data⟩ (by simp) rfl)
              obtain ⟨v10, hD10, hv10, hr10⟩ := un.got 10 (by simp) h10
              obtain rfl := hr10
              have s10 := slot_of (j := 46) hv10
              refine ⟨_, rfl, rfl, ?_⟩
              clear ho hall hr hv10
              have IJ := un.inv
              clear un
              unfold Oper.wp
              go_simp
              go_at_call 37
              (with_reducible refine (T2.out _).mono ?_)
              rintro e wa ⟨ka, rfl, pa1, pa2, pa3, pa4⟩
              exact ⟨_, rfl, trivial, IJ.call11 pa4 pa1 pa2 (ownR_bys pa3)⟩
            | 12, _ =>
              obtain rfl := Option.some.inj ho
              have h8 := getD_both_true (hall ⟨8, .data⟩ (by simp) rfl)
              obtain ⟨v8, hD8, hv8, hr8⟩ := un.got 8 (by simp) h8
              have s8 := slot_of (j := 44) hv8
              have h11 := getD_both_true (hall ⟨11, .data⟩ (by simp) rfl)
              obtain ⟨v11, hD11, hv11, hr11⟩ := un.got 11 (by simp) h11
              have s11 := slot_of (j := 47) hv11
              refine ⟨_, rfl, rfl, ?_⟩
              clear ho hall hr hv8 hv11
              have IJ := un.inv
              obtain ⟨v9, w9, hrun, hJ9⟩ := IJ.app12 hno hD8 hD11 G2.out
              clear un
              exact wp_app3 rfl (.tmp 44) (.tmp 47) _ rfl _ _ (by simpa [Act.eval] using s8) (by simpa [Act.eval] using s11) hrun ⟨_, rfl, trivial, hJ9⟩
            | 13, _ =>
              obtain rfl := Option.some.inj ho
              have h0 := getD_both_true (hall ⟨0, .data⟩ (by simp) rfl)
              obtain ⟨v0, hD0, hv0, hr0⟩ := un.got 0 (by simp) h0
              obtain rfl := hr0
              have s0 := slot_of (j := 36) hv0
              refine ⟨_, rfl, rfl, ?_⟩
              clear ho hall hr hv0
              have PJ := fun v => un.inv.pure (i := 13) v (by decide)
              clear un
              unfold Oper.wp
              go_simp
              first | exact ⟨_, rfl, rfl⟩ | exact ⟨_, rfl, rfl, PJ _⟩
            | 14, _ =>
              obtain rfl := Option.some.inj ho
              have h13 := getD_both_true (hall ⟨13, .data⟩ (by simp) rfl)
              obtain ⟨v13, hD13, hv13, hr13⟩ := un.got 13 (by simp) h13
              obtain rfl := hr13
              have s13 := slot_of (j := 49) hv13
              refine ⟨_, rfl, rfl, ?_⟩
              clear ho hall hr hv13
              have PJ := fun v => un.inv.pure (i := 14) v (by decide)
              clear un
              unfold Oper.wp
              go_simp
              first | exact ⟨_, rfl, rfl⟩ | exact ⟨_, rfl, rfl, PJ _⟩

          · have h16 := (hV 12 (by omega)).1
            have h18 : V 14 = .pointer (some ⟨g, 0, none⟩) := (hV 14 (by omega)).2
            obtain ⟨ts, hC9⟩ := hJ.done h16
            simp only [putAll, Act.put, h18, Nat.reduceAdd, List.setIfInBounds_toArray, List.set_cons_succ, List.set_cons_zero, List.drop_succ_cons, List.drop_zero]
            generalize V 0 = y0, V 1 = y1, V 2 = y2, V 3 = y3, V 4 = y4, V 5 = y5, V 6 = y6, V 7 = y7, V 8 = y8, V 9 = y9, V 10 = y10, V 11 = y11, V 12 = y12, V 13 = y13 at *
            clear hV hJ h16 h18
            obtain ⟨v7, vp7, L7, R7⟩ := HR2.out.next (DrP.chain HR2.out.at' hC9 (by have := HR2.out.le; rw [← HB'.out] at this; simp; omega))
            rw [show (⟨b ++ tw t ++ tw k, X1.P⟩ : Wt) = quW q X by rw [HQW.out, HB'.out]] at R7
            have HF := R7.shut
            have HB9 := Lib.hid (HFAR.out _ _ _ _ _ _ _ HB.out HD5.out HF)
            have HP9 : Hid (DrP g vh (.slice none 0 0) base (foldW quW (m.q.take (i + 1)) (headM m)) w4 (w'.setCell ⟨g, 0, none⟩ y12)) := Lib.hid (by rw [HFT.out]; exact DrP.trans HPM.out.1 HPM.out.2 HF)
            have cg := F0.out _ ⟨_, _, _, hC9⟩
            have cf := F4.out _ ⟨_, _, _, hC9⟩
            obtain ⟨gv9, cv9, hv9, -⟩ := OwnR.slice_form hC9.own hC9.nn
            obtain ⟨z9, hz9⟩ : ∃ z, z = (b ++ tw t ++ tw k).length := ⟨_, rfl⟩
            rw [← hz9] at hv9
            subst hv9
            clear hC9 R7 HF HR2 HPM HD5 HB hz9
            go_wp2_with fail
            go_roundw
            case rel => exact ⟨i + 1, by go_num, by omega, HP9, HB9⟩
            case measure => simp [intOf]; omega
        · have hlt' : ¬ (i : Int) < (nq : Int) := by omega
          have hiq : m.q.take i = m.q := List.take_of_length_le (by rw [← HNQ.out]; omega)
          obtain ⟨XQ, hXQ⟩ : ∃ X, X = foldW quW m.q (headM m) := ⟨_, rfl⟩
          have hfl := foldQ_len BQ.out (headM m)
          have hnl := BLEN.out.1
          rw [headM_len, ← hXQ] at hfl
          have HXQ : Hid ((foldW rrW (m.rs.take 0) XQ).b.length ≤ 20000000) := Lib.hid (show XQ.b.length ≤ 20000000 by omega)
          have HEX2 : Hid (encX m = if (foldW rrW m.rs XQ).b.length ≤ 65535 then some (foldW rrW m.rs XQ) else none) := Lib.hid (by rw [HEX.out, hXQ])
          have HP5 := HP.out
          rw [hiq, ← hXQ] at HP5
          obtain ⟨v5, vp5, L5, hD5, hL5, -, -⟩ := HP5
          have HD5 := Lib.hid hD5
          have HL5 := Lib.hid hL5
          have fm := F2 wr HB.out
          have K6 := Lib.hid (J5.out _ HB.out)
          clear HEX hiq hXQ hfl hnl hD5 hL5 HP F2 J5 HQ4 HDM HQS c8 HB4
          go_wp2_with fail
          refine K6.out.mono ?_
          rintro e w5 ⟨u, rfl, o5, b5⟩
          have HB5 := Lib.hid (HB.out.on b5)
          have HD6 := Lib.hid (HD5.out.below b5)
          obtain ⟨A5, c5, rfl, hA5⟩ := o5.form
          have HOF : Hid (∀ p, A5 = some p → ¬ Foot4 g v5 vp5 p.block) := Lib.hid (fun p hp hf => by have h1 := (hA5 p hp).1; have h2 := HD5.out.lt hf; omega)
          obtain ⟨nr, hnr⟩ : ∃ n, n = m.rs.length := ⟨_, rfl⟩
          have HNR := Lib.hid hnr
          have hnrb : nr ≤ 196605 := by
            obtain ⟨x0, x1, x2, x3⟩ := BLEN.out
            rw [hnr]
            simp [Msg.rs]
            omega
          rw [← hnr] at o5 ⊢
          have HO5 := Lib.hid o5
          have HP6 : Hid (DrP g v5 vp5 base (foldW rrW (m.rs.take 0) XQ) w5 w5) := Lib.hid ⟨v5, vp5, L5, HD6.out, HL5.out, Mod.refl _ _, fun k hk => .inl (.inr hk)⟩
          clear b5 fm K6 o5 hnr hA5 HB HD5 HL5 HD6
          go_wp2_with fail
          go_loopw [55] (fun v55 wr3 => ∃ k : Nat, v55 = .int .i64 k ∧ k ≤ nr ∧ Hid (DrP g v5 vp5 base (foldW rrW (m.rs.take k) XQ) w5 wr3) ∧ Hid (BM w m v wr3) ∧ Hid ((foldW rrW (m.rs.take k) XQ).b.length ≤ 20000000)) (fun v55 _ => nr - (intOf v55).toNat)
          case atStart => exact ⟨0, rfl, Nat.zero_le _, HP6, HB5, HXQ⟩
          case round =>
            clear HP6 HB5 HXQ
            obtain ⟨k, rfl, hk, HP, HB, HXL⟩ := hrel
            rename World => wr3
            by_cases hlk : k < nr
            · have hlk' : (k : Int) < (nr : Int) := by omega
              have hks : k < m.rs.length := by rw [← HNR.out]; exact hlk
              obtain ⟨gr, c6, ra, rc, hu, hbg, R0, D1⟩ := HO5.out.at hks
              injection hu with hu1 hum hu2
              obtain ⟨v6, vp6, L6, hD6, hL6, hM6, hF6⟩ := HP.out
              have hng : ¬ Foot4 g v5 vp5 gr := HOF.out _ hu1
              have R1 : wr3.rangeAt gr (k * 5) (rrL m.rs[k] ra rc) := fun i x hx => hM6.cell (R0 i x hx) hng
              have hcr2 := BR.out _ (List.getElem_mem hks)
              have hft := foldW_take rrW hks XQ
              have hge := foldW_ge (f := rrW) (l := m.rs) (fun r h X => rrW_mono (BR.out r h) X) (k + 1) XQ
              have hxl := HXL.out
              generalize m.rs[k] = r at *
              obtain ⟨X, hX⟩ : ∃ X, X = foldW rrW (m.rs.take k) XQ := ⟨_, rfl⟩
              rw [← hX] at hD6 hL6 hft hxl
              rw [hft] at hge
              obtain ⟨r8, q8⟩ := box_row wr3 #[.string ⟨#[]⟩, .int .i64 0, .int .i64 0, .int .i64 0, .slice none 0 0] (rrL r ra rc) 72
              obtain ⟨W1, hW1⟩ : ∃ W1, W1 = (wr3.alloc (.cells #[.string ⟨#[]⟩, .int .i64 0, .int .i64 0, .int .i64 0, .slice none 0 0] 72)).setRow wr3.heap.size (rrL r ra rc).toArray := ⟨_, rfl⟩
              have rZ := row_new (w := wr3) (k := wr3.heap.size) (.cells #[.string ⟨#[]⟩, .int .i64 0, .int .i64 0, .int .i64 0, .slice none 0 0] 72 (0, 0)) rfl
              rw [← hW1] at r8 q8
              have HB1 := HB.out.on q8
              have HH1 := hD6.below q8
              have i1 : Hid ((Tryd.prog.info? 72).map (·.size) = some (rrL r ra rc).toArray.size) := Lib.hid info_rr
              have j1 : Hid ((Tryd.prog.info? 72).map (·.size) = some (rrL r ra rc).length) := Lib.hid info_rr
              have z1 : Hid ((#[.string ⟨#[]⟩, .int .i64 0, .int .i64 0, .int .i64 0, .slice none 0 0] : Array Value).size = (rrL r ra rc).toArray.size) := Lib.hid rfl
              have one1 : Hid ((rrL r ra rc).toArray.all (·.oneCell') = true) := Lib.hid (rr_one r ra rc)
              have CB := Lib.hid (dRecord_any r ra rc W1 HH1 hL6 hcr2 (fun W hb => by
                have hw := (HB1.far HKM.out (by rw [← HBE.out]; exact hb)).b
                have := D1.on hw
                exact ⟨this.bys, this.le, this.max, this.nil⟩) hxl)
              have HNX := Lib.hid (fun w6 (h6 : DrP g v6 vp6 base (rrW r X) W1 w6) => (show DrP g v5 vp5 base (foldW rrW (m.rs.take (k + 1)) XQ) w5 w6 ∧ BM w m v w6 from ⟨by rw [hft]; exact DrP.trans (hM6.then q8) hF6 h6, HFAR.out _ _ _ _ _ _ _ HB1 HH1 h6⟩))
              have HGE := Lib.hid hge
              have HFT := Lib.hid hft
              unfold rrC at CB
              have HW1 := Lib.hid hW1
              clear hW1 q8 D1 HB1 HH1 hcr2 R0 hD6 hL6 hM6 hF6 hng hft hge hxl hX hbg hum HP HB HXL
              subst hu1
              subst hu2
              generalize hl1 : rrL r ra rc = l1 at *
              go_wp2_with (first
                | (refine wpList_load_mid rfl 72 (.tmp 57) rfl gr (k * 5) rfl l1 _ R1 Tryd.underlying72 rfl j1.out ?_)
                | (refine wpList_store_row rfl 72 (.tmp 8) (.tmp 58) rfl wr3.heap.size l1.toArray rfl rfl 72 _ rZ i1.out (by first | exact z1.out | exact z1.out.symm) one1.out ?_; rw [← HW1.out])
                | (refine wpList_load_row rfl 72 (.tmp 8) rfl wr3.heap.size rfl 72 l1.toArray (0, 0) _ r8 Tryd.underlying72 rfl i1.out ?_)
                | fail)
              refine CB.out.mono ?_
              rintro e w6 ⟨rfl, h6⟩
              obtain ⟨HPn, HBn⟩ := HNX.out w6 h6
              have HPn := Lib.hid HPn
              have HBn := Lib.hid HBn
              obtain ⟨v7, vp7, L7, hD7, -, -, -⟩ := h6
              have c7 := hD7.cells.1
              obtain ⟨gv7, k7, hv7, -⟩ := hD7.form
              obtain ⟨z, hz⟩ : ∃ z, z = (rrW r X).b.length := ⟨_, rfl⟩
              rw [← hz] at hv7
              rw [hv7] at c7
              have HZ := Lib.hid hz
              clear hD7 hv7 hz CB HNX r8 rZ R1
              by_cases hlong : 65535 < z
              · have hlong' : (65535 : Int) < (z : Int) := by omega
                have HFN := Lib.hid ((HD.out (.returned (.tuple #[.slice none 0 0, .int .i64 42])) w6).2 ⟨_, _, rfl, HBn.out.b, (fun h => by cases h), fun _ _ => ⟨rfl, rfl⟩, fun X2 _ h => by
                  rw [HEX2.out, if_neg (by have := HGE.out; have := HZ.out; omega)] at h
                  cases h⟩)
                clear hlong
                go_wp2_with fail
                exact HFN.out
              · have hlong' : ¬ (65535 : Int) < (z : Int) := by omega
                have HXN : Hid ((foldW rrW (m.rs.take (k + 1)) XQ).b.length ≤ 20000000) := Lib.hid (by rw [HFT.out, ← HZ.out]; omega)
                clear hlong
                go_wp2_with fail
                go_roundw
                case rel => exact ⟨k + 1, by go_num, by omega, HPn, HBn, HXN⟩
                case measure => simp [intOf]; omega
            · have hlk' : ¬ (k : Int) < (nr : Int) := by omega
              have hkr : m.rs.take k = m.rs := List.take_of_length_le (by rw [← HNR.out]; omega)
              have hp := HP.out
              rw [hkr] at hp
              obtain ⟨v7, vp7, L7, hD7, -, -, -⟩ := hp
              have c7 := hD7.cells.1
              obtain ⟨gv7, k7, hv7, -⟩ := hD7.form
              obtain ⟨z, hz⟩ : ∃ z, z = (foldW rrW m.rs XQ).b.length := ⟨_, rfl⟩
              have ho := hD7.row
              have hn := hD7.nn
              rw [← hz] at hv7
              rw [hv7] at c7 ho hn
              by_cases hlong : 65535 < z
              · have hlong' : (65535 : Int) < (z : Int) := by omega
                have HFN := Lib.hid ((HD.out (.returned (.tuple #[.slice none 0 0, .int .i64 42])) wr3).2 ⟨_, _, rfl, HB.out.b, (fun h => by cases h), fun _ _ => ⟨rfl, rfl⟩, fun X2 _ h => by
                  rw [HEX2.out, if_neg (by omega)] at h
                  cases h⟩)
                clear hlong hv7 hz hD7 ho hn hkr HP HXL
                go_wp2_with fail
                exact HFN.out
              · have hlong' : ¬ (65535 : Int) < (z : Int) := by omega
                have HFN := Lib.hid ((HD.out (.returned (.tuple #[.slice (some ⟨gv7, 0, none⟩) z k7, .int .i64 0])) wr3).2 ⟨_, _, rfl, HB.out.b, (fun h => by cases h), (fun _ h => by
                  rw [HEX2.out, if_pos (by omega)] at h
                  cases h), fun X2 _ h => by
                  rw [HEX2.out, if_pos (by omega)] at h
                  injection h with h
                  subst h
                  exact ⟨rfl, ho.lower (by rw [HBE.out]; omega), hn⟩⟩)
                clear hlong hv7 hz hD7 ho hn hkr HP HXL
                go_wp2_with fail
                exact HFN.out
end Go.Proofs.YtknpkifhkefikaaDoor
