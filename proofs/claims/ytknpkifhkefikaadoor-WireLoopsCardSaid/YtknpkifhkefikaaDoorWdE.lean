/-
  The document's writer: a record.
-/
import Derived.Test.YtknpkifhkefikaaDoorWj
import Derived.Test.YtknpkifhkefikaaDoorWdF
import Derived.Deep.CutBlock
import Derived.Deep.DeepCutAuto
import Derived.BigRegion
namespace Go.Proofs.YtknpkifhkefikaaDoor
open Go.RowKit Go.Maps
set_option linter.unusedVariables false
set_option maxRecDepth 100000
attribute [local go_sem ↓] exec_appBw

theorem RcS.again {g base kb : Nat} {v vp v' vp' : Value} {w W : World} {C : Array Value} {T : TypeId} {X' : Wt} {L' : List Plc} (h : RcS g v vp base w kb C T X' W v' vp' L') : RcS g v' vp' base W kb C T X' W v' vp' L' := ⟨h.at', h.le, Mod.refl _ _, fun k hk => .inl (.inr hk), h.nb, h.row⟩
theorem Sl.restAll {base c : Nat} {A : Option Addr} {d : Bs} {w : World} (h : ∀ W, Below base w W → Sl W A c d) (W0 : World) (hB : Below base w W0) (k : Nat) (i : Int) (hk : k ≤ d.length) (hi : i = k) : ∃ A', (∀ W : World, (Instr.slice 29 (.slice A d.length c) (some (.int .i64 i)) Option.none Option.none).run Tryd.prog W = .ok (.slice A' (d.drop k).length (c - k)) W) ∧ ∀ W, Below base w W → Sl W A' (c - k) (d.drop k) := by
  obtain ⟨A', e, s, -⟩ := (h W0 hB).rest k i hk hi
  refine ⟨A', e, fun W hW => ?_⟩
  obtain ⟨A2, e2, s2, -⟩ := (h W hW).rest k i hk hi
  have := (e W).symm.trans (e2 W)
  injection this with this
  injection this with this
  subst this
  exact s2
theorem ahead_no {t : Int} (h : t ≠ 15) : aheadW t = 0 := by
  unfold aheadW shapeP
  rw [if_neg h]
  repeat' split
  all_goals rfl
def SE2 (g kb : Nat) (v0 : Value) (t k l : Nat) : Nat → Value → Prop
  | 0, v => v = .pointer (some ⟨g, 0, none⟩)
  | 1, v => v = .pointer (some ⟨g, 0, none⟩)
  | 2, v => v = .pointer (some ⟨g, 0, none⟩)
  | 3, v => v = .pointer (some ⟨g, 0, none⟩)
  | 4, v => v = v0
  | 5, v => v = .pointer (some ⟨kb, 1, none⟩)
  | 6, v => v = .int .i64 t
  | 9, v => v = .pointer (some ⟨kb, 2, none⟩)
  | 10, v => v = .int .i64 k
  | 13, v => v = .pointer (some ⟨kb, 3, none⟩)
  | 14, v => v = .int .i64 l
  | 17, v => v = .pointer (some ⟨g, 0, none⟩)
  | 18, v => v = .pointer (some ⟨g, 0, none⟩)
  | _, _ => True

set_option maxHeartbeats 4000000 in
set_option maxRecDepth 100000 in
theorem dRecord_any (r : Rr) (A : Option Addr) (c : Nat) {g base : Nat} {v vp : Value} {X : Wt} {L : List Plc} (w : World) (h : DtM g v vp base X L w) (hLX : L.length < X.b.length) (hr : canR r = true) (hS : ∀ W, Below base w W → Sl W A c r.d) (hl : X.b.length ≤ 20000000) : Calls Tryd.prog 39 #[.pointer (some ⟨g, 0, none⟩), .agg (rrC r A c)] w fun e w' => e = .returned (.bool true) ∧ DrP g v vp base (rrW r X) w w' := by
  obtain ⟨n, t, k, l, d⟩ := r
  simp only [canR, Bool.and_eq_true, decide_eq_true_eq] at hr
  obtain ⟨hc, ht1, ht2, hc1, hc2, hl1, hl2, hd⟩ := hr
  obtain ⟨t, rfl⟩ := Int.eq_ofNat_of_zero_le ht1
  obtain ⟨k, rfl⟩ := Int.eq_ofNat_of_zero_le hc1
  obtain ⟨l, rfl⟩ := Int.eq_ofNat_of_zero_le hl1
  have hn255 := (can_out hc).1
  have hln := nmW_len X hc
  obtain ⟨hnc, hnl, hd65⟩ := namesD_can hd
  obtain ⟨nd, hnd⟩ : ∃ x, x = d.length := ⟨_, rfl⟩
  obtain ⟨C, hC⟩ : ∃ C : Array Value, C = #[.string (bs n), .int .i64 (t : Nat), .int .i64 (k : Nat), .int .i64 (l : Nat), .slice A nd c] := ⟨_, rfl⟩
  have hCr : rrC ⟨n, (t : Nat), (k : Nat), (l : Nat), d⟩ A c = C := by rw [hC, hnd]; rfl
  rw [hCr]
  have R0 := RcS.start h hLX C 72
  have hbf : ∀ i, Foot4 g v vp i → base ≤ i := fun i hi => h.base_le hi
  have hbig := h.big
  obtain ⟨X1, hX1⟩ : ∃ X1, X1 = nmW n X := ⟨_, rfl⟩
  have hx1l : X1.b.length ≤ 20000255 := by rw [hX1]; omega
  have M1 := Lib.hid (fun W v' vp' L' (q : RcS g v vp base w w.heap.size C 72 X W v' vp' L') => dNm_any n W q.at' q.le hc (by omega))
  rw [← hX1] at M1
  obtain ⟨lh, hlh⟩ : ∃ x, x = l / 65536 := ⟨_, rfl⟩
  obtain ⟨X5, hX5⟩ : ∃ X5, X5 = (⟨X1.b ++ tw t ++ tw k ++ (tw lh ++ tw l), X1.P⟩ : Wt) := ⟨_, rfl⟩
  have hX5e : twW l (twW (l / 65536) (twW k (twW t (nmW n X)))) = X5 := by rw [hX5, hlh, hX1]; simp [twW]
  have hx5l : X5.b.length = X1.b.length + 8 := by rw [hX5]; simp [tw]
  obtain ⟨a, ha⟩ : ∃ a, a = aheadW (t : Nat) := ⟨_, rfl⟩
  obtain ⟨LN, hLN⟩ : ∃ L, L = namesD (t : Nat) d := ⟨_, rfl⟩
  have hLl : LN.length ≤ 2 := by
    rw [hLN]; unfold namesD
    repeat' split
    all_goals first | exact Nat.zero_le _ | exact Nat.le_refl _ | exact Nat.le_succ _
  obtain ⟨q, hq⟩ : ∃ q, q = X5.b.length := ⟨_, rfl⟩
  have HD : Hid (rrW ⟨n, (t : Nat), (k : Nat), (l : Nat), d⟩ X = (let X2 := nmsW LN ⟨X5.b ++ [0, 0] ++ d.take a, X5.P⟩; let b3 := X2.b ++ d.drop (a + sumL LN); ⟨(b3.set q (UInt8.ofNat ((b3.length - (q + 2)) / 256))).set (q + 1) (UInt8.ofNat (b3.length - (q + 2))), X2.P⟩)) := Lib.hid (by
    have e : rrW ⟨n, (t : Nat), (k : Nat), (l : Nat), d⟩ X = daW (t : Nat) d X5 := by rw [← hX5e]; rfl
    rw [e, hLN, ha, hq]
    rfl)
  obtain ⟨XR, hXR⟩ : ∃ XR, XR = rrW ⟨n, (t : Nat), (k : Nat), (l : Nat), d⟩ X := ⟨_, rfl⟩
  rw [← hXR] at HD ⊢
  rw [← hLN, ← ha, ← hnd] at hnl
  rw [← hLN] at hnc
  rw [← hnd] at hd65
  have HNC := Lib.hid hnc
  have HS := Lib.hid hS
  have HND := Lib.hid hnd
  have HA := Lib.hid ha
  have HLN := Lib.hid hLN
  have HBF := Lib.hid hbf
  have HBIG := Lib.hid hbig
  have HX5 := Lib.hid hX5
  have HQ := Lib.hid hq
  have HX1L := Lib.hid hx1l
  have HX5L := Lib.hid hx5l
  have HR0 := Lib.hid R0
  have HC := Lib.hid hC
  have HDD := Lib.hid hd
  have HL32 : Hid (l < 4294967296) := Lib.hid (by omega)
  have HLH := Lib.hid hlh
  have hrow := R0.row
  have e0 : (w.alloc (.cells C 72)).cell? ⟨w.heap.size, 0, none⟩ = some (.string (bs n)) := R0.cell (by rw [hC]; rfl)
  clear h hLX hS hX5e hX5 hx5l hx1l hX1 hlh hnd ha hLN hbf hbig hCr hC R0 hn255 hln hc hl ht1 hc1 hl1 hl2 hd hnc hq hXR hrow
  go_enter Tryd.func39, Tryd.ntmps39
  go_wp2_with fail
  refine (M1.out _ _ _ _ HR0.out).mono ?_
  rintro e w2 ⟨rfl, d2⟩
  obtain ⟨v2, vp2, L2, R2⟩ := HR0.out.next d2
  have HR2 := Lib.hid R2
  clear d2 R2 M1 e0
  go_upto_region 2 with fail
  go_cut [18] (fun _ wx => ∃ v5 vp5 L5, RcS g v vp base w w.heap.size C 72 X5 wx v5 vp5 L5)
  case first =>
    obtain ⟨gv2, c2, hv2, -⟩ := HR2.out.at'.form
    obtain ⟨b, hb⟩ : ∃ b, b = X1.b := ⟨_, rfl⟩
    obtain ⟨q1, hq1⟩ : ∃ q, q = b.length := ⟨_, rfl⟩
    rw [← hb, ← hq1] at hv2
    have hbl : b.length ≤ 20000255 := by rw [hb]; exact HX1L.out
    have ch0 := CH.start HR2.out.at'.row HR2.out.at'.nn HR2.out.at'.big
    rw [← hb] at ch0
    have hC0 := ch0.drew
    have T1 := Lib.hid (fun W => dTwo_any t (t : Nat) rfl W)
    have T2 := Lib.hid (fun W => dTwo_any k (k : Nat) rfl W)
    have T4 := Lib.hid (fun W => dFour_any l (l : Nat) rfl HL32.out W)
    rw [← HLH.out] at T4
    have F0 : ∀ W, (∃ v l ts, CH w2 base v2 v l ts W) → W.cell? ⟨g, 0, none⟩ = some v2 := fun W ⟨_, _, _, hh⟩ => (cell_of_row _ g 0 _ _ _ (hh.cell HR2.out.at'.head HR2.out.at'.gv)).trans rfl
    have F1 : ∀ W, (∃ v l ts, CH w2 base v2 v l ts W) → W.cell? ⟨w.heap.size, 1, none⟩ = some (.int .i64 (t : Nat)) := fun W ⟨_, _, _, hh⟩ => (cell_of_row _ w.heap.size 1 _ _ _ (hh.cell HR2.out.row HR2.out.nb.1)).trans (by rw [HC.out]; rfl)
    have F2 : ∀ W, (∃ v l ts, CH w2 base v2 v l ts W) → W.cell? ⟨w.heap.size, 2, none⟩ = some (.int .i64 (k : Nat)) := fun W ⟨_, _, _, hh⟩ => (cell_of_row _ w.heap.size 2 _ _ _ (hh.cell HR2.out.row HR2.out.nb.1)).trans (by rw [HC.out]; rfl)
    have F3 : ∀ W, (∃ v l ts, CH w2 base v2 v l ts W) → W.cell? ⟨w.heap.size, 3, none⟩ = some (.int .i64 (l : Nat)) := fun W ⟨_, _, _, hh⟩ => (cell_of_row _ w.heap.size 3 _ _ _ (hh.cell HR2.out.row HR2.out.nb.1)).trans (by rw [HC.out]; rfl)
    have F4 : ∀ W, (∃ v l ts, CH w2 base v2 v l ts W) → W.frozen? ⟨g, 0, none⟩ = false := fun W ⟨_, _, _, hh⟩ => frozen_of_row _ _ 0 _ _ (hh.cell HR2.out.at'.head HR2.out.at'.gv)
    have F0 := Lib.hid F0
    have F1 := Lib.hid F1
    have F2 := Lib.hid F2
    have F3 := Lib.hid F3
    have F4 := Lib.hid F4
    have G1 : Hid (b.length + (tw t).length ≤ 140737488355328) := Lib.hid (by simp [tw]; omega)
    have G2 : Hid ((b ++ tw t).length + (tw k).length ≤ 140737488355328) := Lib.hid (by simp [tw]; omega)
    have G3 : Hid ((b ++ tw t ++ tw k).length + (tw lh ++ tw l).length ≤ 140737488355328) := Lib.hid (by simp [tw]; omega)
    have HB := Lib.hid hb
    have HC0 := Lib.hid hC0
    clear hb hq1 hbl ch0 hC0 hv2
    refine wp_region_laneJ 19 (by kernel_rfl) (by kernel_rfl) (by kernel_rfl) rfl (d := (fun i => 14 + i)) (S := SE2 g w.heap.size v2 t k l) (J := RJ w2 base v2 b (tw t) (tw k) (tw lh ++ tw l)) (fun i j hi hj e => by omega) (fun i hi => by simp; omega) (RJ.start HC0.out) (fun i hi b D a' w' un hno hr => ?_) (fun V D w' hV hJ => ?_)
    · obtain ⟨_, o, ho, hall⟩ := mem_ready.1 hr
      have t0 : (a'.tmps[0]?).getD undef = .pointer (some ⟨g, 0, none⟩) := slot_of ((un.old 0 (fun i _ => by omega)).trans rfl)
      have t3 : (a'.tmps[3]?).getD undef = .pointer (some ⟨w.heap.size, 0, none⟩) := slot_of ((un.old 3 (fun i _ => by omega)).trans rfl)
      match i, hi with
      | 0, _ =>
        obtain rfl := Option.some.inj ho
        refine ⟨_, rfl, rfl, ?_⟩
        clear ho hall hr 
        have PJ := fun v => un.inv.pure (i := 0) v (by decide)
        clear un
        unfold Oper.wp
        go_simp
        first | exact ⟨_, rfl, rfl⟩ | exact ⟨_, rfl, rfl, PJ _⟩
      | 1, _ =>
        obtain rfl := Option.some.inj ho
        refine ⟨_, rfl, rfl, ?_⟩
        clear ho hall hr 
        have PJ := fun v => un.inv.pure (i := 1) v (by decide)
        clear un
        unfold Oper.wp
        go_simp
        first | exact ⟨_, rfl, rfl⟩ | exact ⟨_, rfl, rfl, PJ _⟩
      | 2, _ =>
        obtain rfl := Option.some.inj ho
        have h1 := getD_both_true (hall ⟨1, .data⟩ (by simp) rfl)
        obtain ⟨v1, hD1, hv1, hr1⟩ := un.got 1 (by simp) h1
        obtain rfl := hr1
        have s1 := slot_of (j := 15) hv1
        refine ⟨_, rfl, rfl, ?_⟩
        clear ho hall hr hv1
        have PJ := fun v => un.inv.pure (i := 2) v (by decide)
        clear un
        unfold Oper.wp
        go_simp
        first | exact ⟨_, rfl, rfl⟩ | exact ⟨_, rfl, rfl, PJ _⟩
      | 3, _ =>
        obtain rfl := Option.some.inj ho
        have h2 := getD_both_true (hall ⟨2, .data⟩ (by simp) rfl)
        obtain ⟨v2, hD2, hv2, hr2⟩ := un.got 2 (by simp) h2
        obtain rfl := hr2
        have s2 := slot_of (j := 16) hv2
        refine ⟨_, rfl, rfl, ?_⟩
        clear ho hall hr hv2
        have PJ := fun v => un.inv.pure (i := 3) v (by decide)
        clear un
        unfold Oper.wp
        go_simp
        first | exact ⟨_, rfl, rfl⟩ | exact ⟨_, rfl, rfl, PJ _⟩
      | 4, _ =>
        obtain rfl := Option.some.inj ho
        have h3 := getD_both_true (hall ⟨3, .data⟩ (by simp) rfl)
        obtain ⟨v3, hD3, hv3, hr3⟩ := un.got 3 (by simp) h3
        obtain rfl := hr3
        have s3 := slot_of (j := 17) hv3
        have c := F0.out _ un.inv.chx
        refine ⟨_, rfl, rfl, ?_⟩
        clear ho hall hr hv3
        have PJ := fun v => un.inv.pure (i := 4) v (by decide)
        clear un
        unfold Oper.wp
        go_simp
        first | exact ⟨_, rfl, rfl⟩ | exact ⟨_, rfl, rfl, PJ _⟩
      | 5, _ =>
        obtain rfl := Option.some.inj ho
        refine ⟨_, rfl, rfl, ?_⟩
        clear ho hall hr 
        have PJ := fun v => un.inv.pure (i := 5) v (by decide)
        clear un
        unfold Oper.wp
        go_simp
        first | exact ⟨_, rfl, rfl⟩ | exact ⟨_, rfl, rfl, PJ _⟩
      | 6, _ =>
        obtain rfl := Option.some.inj ho
        have h5 := getD_both_true (hall ⟨5, .data⟩ (by simp) rfl)
        obtain ⟨v5, hD5, hv5, hr5⟩ := un.got 5 (by simp) h5
        obtain rfl := hr5
        have s5 := slot_of (j := 19) hv5
        have c := F1.out _ un.inv.chx
        refine ⟨_, rfl, rfl, ?_⟩
        clear ho hall hr hv5
        have PJ := fun v => un.inv.pure (i := 6) v (by decide)
        clear un
        unfold Oper.wp
        go_simp
        first | exact ⟨_, rfl, rfl⟩ | exact ⟨_, rfl, rfl, PJ _⟩
      | 7, _ =>
        obtain rfl := Option.some.inj ho
        have h6 := getD_both_true (hall ⟨6, .data⟩ (by simp) rfl)
        obtain ⟨v6, hD6, hv6, hr6⟩ := un.got 6 (by simp) h6
        obtain rfl := hr6
        have s6 := slot_of (j := 20) hv6
        refine ⟨_, rfl, rfl, ?_⟩
        clear ho hall hr hv6
        have IJ := un.inv
        clear un
        unfold Oper.wp
        go_simp
        go_at_call 37
        (with_reducible refine (T1.out _).mono ?_)
        rintro e wa ⟨ka, rfl, pa1, pa2, pa3, pa4⟩
        exact ⟨_, rfl, trivial, IJ.call7 pa4 pa1 pa2 (ownR_bys pa3)⟩
      | 8, _ =>
        obtain rfl := Option.some.inj ho
        have h4 := getD_both_true (hall ⟨4, .data⟩ (by simp) rfl)
        obtain ⟨v4, hD4, hv4, hr4⟩ := un.got 4 (by simp) h4
        obtain rfl := hr4
        have s4 := slot_of (j := 18) hv4
        have h7 := getD_both_true (hall ⟨7, .data⟩ (by simp) rfl)
        obtain ⟨v7, hD7, hv7, hr7⟩ := un.got 7 (by simp) h7
        have s7 := slot_of (j := 21) hv7
        refine ⟨_, rfl, rfl, ?_⟩
        clear ho hall hr hv4 hv7
        have IJ := un.inv
        obtain ⟨v9, w9, hrun, hJ9⟩ := IJ.app8 hno hD7 G1.out
        clear un
        exact wp_app3 rfl (.tmp 18) (.tmp 21) _ rfl _ _ (by simpa [Act.eval] using s4) (by simpa [Act.eval] using s7) hrun ⟨_, rfl, trivial, hJ9⟩
      | 9, _ =>
        obtain rfl := Option.some.inj ho
        refine ⟨_, rfl, rfl, ?_⟩
        clear ho hall hr 
        have PJ := fun v => un.inv.pure (i := 9) v (by decide)
        clear un
        unfold Oper.wp
        go_simp
        first | exact ⟨_, rfl, rfl⟩ | exact ⟨_, rfl, rfl, PJ _⟩
      | 10, _ =>
        obtain rfl := Option.some.inj ho
        have h9 := getD_both_true (hall ⟨9, .data⟩ (by simp) rfl)
        obtain ⟨v9, hD9, hv9, hr9⟩ := un.got 9 (by simp) h9
        obtain rfl := hr9
        have s9 := slot_of (j := 23) hv9
        have c := F2.out _ un.inv.chx
        refine ⟨_, rfl, rfl, ?_⟩
        clear ho hall hr hv9
        have PJ := fun v => un.inv.pure (i := 10) v (by decide)
        clear un
        unfold Oper.wp
        go_simp
        first | exact ⟨_, rfl, rfl⟩ | exact ⟨_, rfl, rfl, PJ _⟩
      | 11, _ =>
        obtain rfl := Option.some.inj ho
        have h10 := getD_both_true (hall ⟨10, .data⟩ (by simp) rfl)
        obtain ⟨v10, hD10, hv10, hr10⟩ := un.got 10 (by simp) h10
        obtain rfl := hr10
        have s10 := slot_of (j := 24) hv10
        refine ⟨_, rfl, rfl, ?_⟩
        clear ho hall hr hv10
        have IJ := un.inv
        clear un
        unfold Oper.wp
        go_simp
        go_at_call 37
        (with_reducible refine (T2.out _).mono ?_)
        rintro e wa ⟨ka, rfl, pa1, pa2, pa3, pa4⟩
        exact ⟨_, rfl, trivial, IJ.call11 pa4 pa1 pa2 (ownR_bys pa3)⟩
      | 12, _ =>
        obtain rfl := Option.some.inj ho
        have h8 := getD_both_true (hall ⟨8, .data⟩ (by simp) rfl)
        obtain ⟨v8, hD8, hv8, hr8⟩ := un.got 8 (by simp) h8
        have s8 := slot_of (j := 22) hv8
        have h11 := getD_both_true (hall ⟨11, .data⟩ (by simp) rfl)
        obtain ⟨v11, hD11, hv11, hr11⟩ := un.got 11 (by simp) h11
        have s11 := slot_of (j := 25) hv11
        refine ⟨_, rfl, rfl, ?_⟩
        clear ho hall hr hv8 hv11
        have IJ := un.inv
        obtain ⟨v9, w9, hrun, hJ9⟩ := IJ.app12 hno hD8 hD11 G2.out
        clear un
        exact wp_app3 rfl (.tmp 22) (.tmp 25) _ rfl _ _ (by simpa [Act.eval] using s8) (by simpa [Act.eval] using s11) hrun ⟨_, rfl, trivial, hJ9⟩
      | 13, _ =>
        obtain rfl := Option.some.inj ho
        refine ⟨_, rfl, rfl, ?_⟩
        clear ho hall hr 
        have PJ := fun v => un.inv.pure (i := 13) v (by decide)
        clear un
        unfold Oper.wp
        go_simp
        first | exact ⟨_, rfl, rfl⟩ | exact ⟨_, rfl, rfl, PJ _⟩
      | 14, _ =>
        obtain rfl := Option.some.inj ho
        have h13 := getD_both_true (hall ⟨13, .data⟩ (by simp) rfl)
        obtain ⟨v13, hD13, hv13, hr13⟩ := un.got 13 (by simp) h13
        obtain rfl := hr13
        have s13 := slot_of (j := 27) hv13
        have c := F3.out _ un.inv.chx
        refine ⟨_, rfl, rfl, ?_⟩
        clear ho hall hr hv13
        have PJ := fun v => un.inv.pure (i := 14) v (by decide)
        clear un
        unfold Oper.wp
        go_simp
        first | exact ⟨_, rfl, rfl⟩ | exact ⟨_, rfl, rfl, PJ _⟩
      | 15, _ =>
        obtain rfl := Option.some.inj ho
        have h14 := getD_both_true (hall ⟨14, .data⟩ (by simp) rfl)
        obtain ⟨v14, hD14, hv14, hr14⟩ := un.got 14 (by simp) h14
        obtain rfl := hr14
        have s14 := slot_of (j := 28) hv14
        refine ⟨_, rfl, rfl, ?_⟩
        clear ho hall hr hv14
        have IJ := un.inv
        clear un
        unfold Oper.wp
        go_simp
        go_at_call 76
        (with_reducible refine (T4.out _).mono ?_)
        rintro e wa ⟨ka, ca, rfl, pa1, pa2, pa3, pa4⟩
        exact ⟨_, rfl, trivial, IJ.call15 pa4 pa1 pa2 (ownR_bys pa3)⟩
      | 16, _ =>
        obtain rfl := Option.some.inj ho
        have h12 := getD_both_true (hall ⟨12, .data⟩ (by simp) rfl)
        obtain ⟨v12, hD12, hv12, hr12⟩ := un.got 12 (by simp) h12
        have s12 := slot_of (j := 26) hv12
        have h15 := getD_both_true (hall ⟨15, .data⟩ (by simp) rfl)
        obtain ⟨v15, hD15, hv15, hr15⟩ := un.got 15 (by simp) h15
        have s15 := slot_of (j := 29) hv15
        refine ⟨_, rfl, rfl, ?_⟩
        clear ho hall hr hv12 hv15
        have IJ := un.inv
        obtain ⟨v9, w9, hrun, hJ9⟩ := IJ.app16 hno hD12 hD15 G3.out
        clear un
        exact wp_app3 rfl (.tmp 26) (.tmp 29) _ rfl _ _ (by simpa [Act.eval] using s12) (by simpa [Act.eval] using s15) hrun ⟨_, rfl, trivial, hJ9⟩
      | 17, _ =>
        obtain rfl := Option.some.inj ho
        have h0 := getD_both_true (hall ⟨0, .data⟩ (by simp) rfl)
        obtain ⟨v0, hD0, hv0, hr0⟩ := un.got 0 (by simp) h0
        obtain rfl := hr0
        have s0 := slot_of (j := 14) hv0
        refine ⟨_, rfl, rfl, ?_⟩
        clear ho hall hr hv0
        have PJ := fun v => un.inv.pure (i := 17) v (by decide)
        clear un
        unfold Oper.wp
        go_simp
        first | exact ⟨_, rfl, rfl⟩ | exact ⟨_, rfl, rfl, PJ _⟩
      | 18, _ =>
        obtain rfl := Option.some.inj ho
        have h17 := getD_both_true (hall ⟨17, .data⟩ (by simp) rfl)
        obtain ⟨v17, hD17, hv17, hr17⟩ := un.got 17 (by simp) h17
        obtain rfl := hr17
        have s17 := slot_of (j := 31) hv17
        refine ⟨_, rfl, rfl, ?_⟩
        clear ho hall hr hv17
        have PJ := fun v => un.inv.pure (i := 18) v (by decide)
        clear un
        unfold Oper.wp
        go_simp
        first | exact ⟨_, rfl, rfl⟩ | exact ⟨_, rfl, rfl, PJ _⟩
    · have h16 := (hV 16 (by omega)).1
      have h18 : V 18 = .pointer (some ⟨g, 0, none⟩) := (hV 18 (by omega)).2
      obtain ⟨ts, hC9⟩ := hJ.done h16
      simp only [putAll, Act.put, h18, Nat.reduceAdd, List.setIfInBounds_toArray, List.set_cons_succ, List.set_cons_zero, List.drop_succ_cons, List.drop_zero]
      generalize V 0 = y0, V 1 = y1, V 2 = y2, V 3 = y3, V 4 = y4, V 5 = y5, V 6 = y6, V 7 = y7, V 8 = y8, V 9 = y9, V 10 = y10, V 11 = y11, V 12 = y12, V 13 = y13, V 14 = y14, V 15 = y15, V 16 = y16, V 17 = y17 at *
      clear hV hJ h16 h18
      have HF := Lib.hid (HR2.out.next (DrP.chain HR2.out.at' hC9 (by have := HR2.out.le; rw [← HB.out] at this; simp; omega)))
      rw [show (⟨b ++ tw t ++ tw k ++ (tw lh ++ tw l), X1.P⟩ : Wt) = X5 by rw [HX5.out, HB.out]] at HF
      have cg := F0.out _ ⟨_, _, _, hC9⟩
      have cf := F4.out _ ⟨_, _, _, hC9⟩
      obtain ⟨gv9, cv9, hv9, -⟩ := OwnR.slice_form hC9.own hC9.nn
      subst hv9
      clear hC9
      go_wp2_with fail
      go_meet
      simpa only [List.length_append, Nat.add_assoc] using HF.out
  case rest =>
    obtain ⟨v5, vp5, L5, R5⟩ := hcut
    have HR5 := Lib.hid R5
    obtain ⟨gv5, k5, hv5, -⟩ := R5.at'.form
    rw [← HQ.out] at hv5
    have c50 := R5.at'.cells.1
    have BA : Below wc.heap.size wc (wc.alloc (.cells #[.int .u8 0, .int .u8 0] 5 (0, 0))) := Below.alloc (Below.refl _ _) (Nat.le_refl _) _
    have hB0 : Bys (wc.alloc (.cells #[.int .u8 0, .int .u8 0] 5 (0, 0))) (some ⟨wc.heap.size, 0, none⟩) [(0 : UInt8), 0] := (Sl.made (l := [(0 : UInt8), 0]) rfl (by simp)).bys
    have ch0 := (CH.start R5.at'.row R5.at'.nn R5.at'.big).call (k := wc.heap.size) (t := [0, 0]) BA (Nat.le_refl _) (by simp) hB0
    have HC0 := Lib.hid ch0
    have HB0 := Lib.hid hB0
    have hx5l : X5.b.length ≤ 20000263 := by have := HX1L.out; have := HX5L.out; omega
    have HG1 : Hid (X5.b.length + [(0 : UInt8), 0].length ≤ 140737488355328) := Lib.hid (by simp; omega)
    rw [hv5] at c50 HC0
    have HV5 := Lib.hid hv5
    clear R5 hv5 BA hB0 ch0
    go_wp2_with (first
      | (at_builtin; refine wpList_appRF rfl (.tmp 42) (.tmp 43) rfl base _ X5.b rfl HC0.out.own HC0.out.nn _ 2 2 rfl [0, 0] rfl HB0.out (fun h => by cases h) HG1.out HC0.out.big ?_)
      | fail)
    intro v6 w6 o6 g6 f6 n6
    have ch6 := HC0.out.app (k := 0) o6 g6 (by simpa using f6) n6
    rw [← HV5.out] at ch6
    have R6 := HR5.out.next (DrP.chain HR5.out.at' ch6 (by have := HR5.out.le; simp; omega))
    have hrow6 := ch6.cell HR5.out.at'.head HR5.out.at'.gv
    have d60 := (cell_of_row _ g 0 _ _ _ hrow6).trans rfl
    have d61 := frozen_of_row _ _ 0 _ _ hrow6
    obtain ⟨v7, vp7, L7, R7⟩ := R6
    have HR7 := Lib.hid R7
    obtain ⟨gv6, k6, hv6, -⟩ := OwnR.slice_form o6 n6
    obtain ⟨l6, hl6⟩ : ∃ l, l = (X5.b ++ [(0 : UInt8), 0]).length := ⟨_, rfl⟩
    rw [← hl6] at hv6
    have HL6 : Hid (l6 = q + 2) := Lib.hid (by rw [hl6, HQ.out]; simp)
    have b1 := R7.cell (i := 4) (x := .slice A nd c) (by rw [HC.out]; rfl)
    have b2 := R7.cell (i := 1) (x := .int .i64 (t : Nat)) (by rw [HC.out]; rfl)
    subst hv6
    have hl62 := HL6.out
    rw [HL6.out] at HR7 b1 b2
    have d60' : w6.cell? ⟨g, 0, none⟩ = some v5 := d60
    rw [HV5.out] at d60'
    clear R7 f6 n6 ch6 hrow6 HC0 HB0 HG1 c50 hl6 hl62 d60 g6 o6
    generalize hW6 : w6.setCell ⟨g, 0, none⟩ (.slice (some ⟨gv6, 0, none⟩) (q + 2) k6) = W6 at *
    have HW6 := Lib.hid hW6
    clear hW6
    go_upto_region 5 with fail
    rw [HL6.out, HW6.out]
    obtain ⟨X6, hX6⟩ : ∃ X6, X6 = (⟨X5.b ++ [0, 0], X5.P⟩ : Wt) := ⟨_, rfl⟩
    rw [← hX6] at HR7
    have HX6 := Lib.hid hX6
    obtain ⟨X7, hX7⟩ : ∃ X7, X7 = (⟨X6.b ++ d.take a, X6.P⟩ : Wt) := ⟨_, rfl⟩
    have HX7 := Lib.hid hX7
    clear hX6 hX7 HW6 d60' d61
    have hSW : Below base w W6 := HR7.out.out HBF.out HBIG.out
    go_upto_if 51 with fail
    go_cut [6] (fun s6 wx => ∃ (A6 : Option Addr) (n6 c6 : Nat) (y6 : Bs) (v8 vp8 : Value) (L8 : List Plc), s6 = .slice A6 n6 c6 ∧ Hid (n6 = y6.length) ∧ Hid (y6 = d.drop a) ∧ Hid (∀ W, Below base w W → Sl W A6 c6 y6) ∧ Hid (RcS g v vp base w w.heap.size C 72 X7 wx v8 vp8 L8))
    case first =>
      by_cases h15 : t = 15
      · have ht15 : ((t : Int) == 15) = true := by rw [h15]; rfl
        have ha2 : a = 2 := by rw [HA.out, h15]; rfl
        have hdl : 2 ≤ d.length := by rw [← HND.out]; omega
        have sp := slice_pre A d c 2 2 hdl (HS.out _ hSW).le rfl
        have hta : (d.take 2).length = 2 := by rw [List.length_take]; omega
        rw [hta, ← HND.out] at sp
        obtain ⟨A9, sl9, S9⟩ := Sl.restAll HS.out W6 hSW 2 2 hdl rfl
        rw [← HND.out] at sl9
        have HSA := HS.out _ hSW
        obtain ⟨v9, w9, ap9, ⟨e90, e91⟩, ⟨gv9, k9, hv9⟩, q9⟩ := dApp_step HR7.out.at' HR7.out.le A c 2 (d.take 2) hta.symm (HSA.bys.pre _) HSA.nil (by have h1 := HX1L.out; have h2 := HX5L.out; rw [HX6.out]; simp; omega)
        obtain ⟨gv7, k7, hv7, -⟩ := HR7.out.at'.form
        have c7 := HR7.out.at'.cells.1
        obtain ⟨l7, hl7⟩ : ∃ l, l = X6.b.length := ⟨_, rfl⟩
        rw [← hl7] at hv7
        obtain ⟨l9, hl9⟩ : ∃ l, l = (X6.b ++ d.take 2).length := ⟨_, rfl⟩
        rw [← hl9] at hv9
        have HF := Lib.hid (HR7.out.next q9)
        rw [show (⟨X6.b ++ d.take 2, X6.P⟩ : Wt) = X7 by rw [HX7.out, ha2]] at HF
        obtain ⟨yd, hyd⟩ : ∃ y, y = d.drop 2 := ⟨_, rfl⟩
        obtain ⟨yl, hyl⟩ : ∃ y, y = yd.length := ⟨_, rfl⟩
        rw [← hyd] at sl9 S9
        rw [← hyl] at sl9
        have HSF : Hid (Hid (yl = yd.length) ∧ Hid (yd = d.drop a) ∧ Hid (∀ W, Below base w W → Sl W A9 (c - 2) yd)) := Lib.hid ⟨Lib.hid hyl, Lib.hid (by rw [ha2]; exact hyd), Lib.hid S9⟩
        rw [hv7, hv9] at ap9
        rw [hv7] at c7 e90
        rw [hv9] at HF
        clear HSA q9 S9 hta hl7 hl9 hv7 hv9 ha2 hdl h15 hyd hyl
        go_wp2_with fail
        go_region
        all_goals
          go_wp2_with fail
          go_meet
          obtain ⟨v8, vp8, L8, HR8⟩ := HF.out
          exact ⟨_, _, _, yd, v8, vp8, L8, rfl, HSF.out.1, HSF.out.2.1, HSF.out.2.2, Lib.hid HR8⟩
      · have ht15 : ((t : Int) == 15) = false := by rw [beq_eq_false_iff_ne]; omega
        have ha0 : a = 0 := by rw [HA.out]; exact ahead_no (by omega)
        have hX76 : X7 = X6 := by rw [HX7.out, ha0]; simp
        have HSF : Hid (Hid (nd = d.length) ∧ Hid (d = d.drop a) ∧ Hid (∀ W, Below base w W → Sl W A c d)) := Lib.hid ⟨HND, Lib.hid (by rw [ha0]; rfl), HS⟩
        rw [← hX76] at HR7
        clear ha0 hX76 h15
        go_wp2_with fail
        go_meet
        exact ⟨_, _, _, d, v7, vp7, L7, rfl, HSF.out.1, HSF.out.2.1, HSF.out.2.2, HR7⟩
    case rest =>
      obtain ⟨A6, n6, c6, y6, v8, vp8, L8, rfl, HN6, HY6, HS6, HR8⟩ := hcut
      rename World => wq
      have b3 := HR8.out.cell (i := 1) (x := .int .i64 (t : Nat)) (by rw [HC.out]; rfl)
      have b4 := HR8.out.cell (i := 4) (x := .slice A nd c) (by rw [HC.out]; rfl)
      have hSW8 : Below base w wq := HR8.out.out HBF.out HBIG.out
      have DN := rNamesN_any (t : Nat) A d c wq (HS.out _ hSW8).bys (HS.out _ hSW8).le (HS.out _ hSW8).max
      rw [← HLN.out, ← HND.out] at DN
      have DN := Lib.hid DN
      clear b1 b2 hSW HR7 HR5 HR2 HR0
      go_wp2_with fail
      refine DN.out.mono ?_
      rintro e w10 ⟨A2, c2, rfl, hst, hc2, hB, hnew⟩
      have R10 := HR8.out.below hB
      have HOF : Hid (∀ p, A2 = some p → ¬ Foot4 g v8 vp8 p.block) := Lib.hid (fun p hp hf => by have h1 := hnew p hp; have h2 := HR8.out.at'.lt hf; omega)
      have HST := Lib.hid hst
      have HRT := Lib.hid R10
      have HRA := Lib.hid R10.again
      have HNM := Lib.hid (fun i (hi : i ≤ LN.length) => by
        have h1 := nmsW_len (LN.take i) X7 (fun n hn => HNC.out n (List.mem_of_mem_take hn))
        have h2 := sumL_take_le LN i
        exact (show X7.b.length ≤ (nmsW (LN.take i) X7).b.length ∧ (nmsW (LN.take i) X7).b.length ≤ X7.b.length + sumL LN by omega))
      have HX7L : Hid (X7.b.length = q + 2 + a ∧ q ≤ 20000263) := Lib.hid (by
        have h1 := HX1L.out
        have h2 := HX5L.out
        have h3 := HQ.out
        have h4 := HND.out
        rw [HX7.out, HX6.out]
        simp
        omega)
      obtain ⟨ln, hln⟩ : ∃ n, n = LN.length := ⟨_, rfl⟩
      have HLL := Lib.hid hln
      rw [← hln] at hLl hc2 ⊢
      have HSU := Lib.hid (sumL_take_le LN)
      clear hst hB hnew R10 DN HR8 hln b3 b4 hSW8
      go_wp2_with fail
      go_loopw [6, 70] (fun v6 v70 wr => ∃ (i : Nat) (A6 : Option Addr) (n6 c6 : Nat) (y6 : Bs) (v' vp' : Value) (L' : List Plc), v70 = .int .i64 i ∧ i ≤ ln ∧ v6 = .slice A6 n6 c6 ∧ Hid (n6 = y6.length) ∧ Hid (y6 = d.drop (a + sumL (LN.take i))) ∧ Hid (∀ W, Below base w W → Sl W A6 c6 y6) ∧ Hid (RcS g v8 vp8 base w10 w.heap.size C 72 (nmsW (LN.take i) X7) wr v' vp' L')) (fun _ v70 _ => ln - (intOf v70).toNat)
      case atStart => exact ⟨0, _, _, _, y6, _, _, _, rfl, Nat.zero_le _, rfl, HN6, Lib.hid (by rw [HY6.out]; simp [sumL]), HS6, HRA⟩
      case round =>
        obtain ⟨i, A7, n7, c7, y7, v', vp', L', rfl, hi, rfl, HN7, HY7, HS7, HR9⟩ := hrel
        rename World => wr
        by_cases hlt : i < ln
        · have hiL : i < LN.length := by rw [← HLL.out]; exact hlt
          have hlt' : (i : Int) < (ln : Int) := by omega
          obtain ⟨gA, off, hA2, hcs⟩ := (HST.out.mod HR9.out.mod HOF.out) (by omega)
          have hci := hcs i hiL
          have hnx := nmsW_take hiL X7
          have hsx := sumL_take hiL
          have hcn := HNC.out _ (List.getElem_mem hiL)
          generalize LN[i] = x at *
          have hsz : (bs x).size = x.length := bs_size x
          have hb1 := HNM.out i (by omega)
          have hb2 := HSU.out (i + 1)
          obtain ⟨xl, hxl⟩ : ∃ k, k = x.length := ⟨_, rfl⟩
          have hx7 := HX7L.out
          have M := Lib.hid (dNm_any x wr HR9.out.at' HR9.out.le hcn (by omega))
          have hyl : xl ≤ y7.length := by rw [HY7.out, List.length_drop, ← HND.out, hxl]; omega
          obtain ⟨A8, sl8, S8⟩ := Sl.restAll HS7.out wr ((HRT.out.next HR9.out.shut).choose_spec.choose_spec.choose_spec.out HBF.out HBIG.out) xl xl hyl rfl
          obtain ⟨y8, hy8⟩ : ∃ y, y = y7.drop xl := ⟨_, rfl⟩
          rw [← hy8] at sl8 S8
          obtain ⟨n8, hn8⟩ : ∃ y, y = y8.length := ⟨_, rfl⟩
          rw [← hn8, ← HN7.out] at sl8
          have HN8 := Lib.hid hn8
          have HY8 : Hid (y8 = d.drop (a + sumL (LN.take (i + 1)))) := Lib.hid (by rw [hy8, HY7.out, List.drop_drop, hsx, hxl, Nat.add_assoc])
          have HS8 := Lib.hid S8
          rw [← hxl] at hsz
          have HNX2 := Lib.hid hnx
          subst hA2
          clear hcs hnx hsx hcn hb1 hb2 hxl hiL hx7 hyl S8 hy8 hn8
          go_wp2_with fail
          refine M.out.mono ?_
          rintro e w7 ⟨rfl, h7⟩
          obtain ⟨v9, vp9, L9, Q9⟩ := HR9.out.next h7
          rw [← HNX2.out] at Q9
          have HQ9 := Lib.hid Q9
          clear h7 Q9 M
          go_wp2_with fail
          go_roundw
          case rel => exact ⟨i + 1, A8, n8, c7 - xl, y8, v9, vp9, L9, by go_num, by omega, rfl, HN8, HY8, HS8, HQ9⟩
          case measure => simp [intOf]; omega
        · have hlt' : ¬ (i : Int) < (ln : Int) := by omega
          obtain rfl : i = ln := by omega
          have HXN : Hid (LN.take i = LN) := Lib.hid (by rw [HLL.out, List.take_length])
          rw [HXN.out] at HY7 HR9
          have hb1 := HNM.out LN.length (Nat.le_refl _)
          rw [List.take_length] at hb1
          obtain ⟨X8, hX8⟩ : ∃ X8, X8 = nmsW LN X7 := ⟨_, rfl⟩
          rw [← hX8] at hb1 HR9
          have hx7 := HX7L.out
          obtain ⟨v1, vp1, L1, RT⟩ := HRT.out.next HR9.out.shut
          have HSA := HS7.out wr (RT.out HBF.out HBIG.out)
          obtain ⟨b8, hb8⟩ : ∃ b, b = X8.b := ⟨_, rfl⟩
          obtain ⟨gu, cu, hu, -⟩ := RT.at'.form
          have u0 := RT.at'.cells.1
          have c0 := CH.start RT.at'.row RT.at'.nn RT.at'.big
          rw [← hb8] at hu c0
          obtain ⟨lu, hlu⟩ : ∃ l, l = b8.length := ⟨_, rfl⟩
          rw [← hlu] at hu
          rw [hu] at u0 c0
          have HUV := Lib.hid hu
          have HC0 := Lib.hid c0
          have HRU := Lib.hid RT
          have hy7l : y7.length = nd - (a + sumL LN) := by rw [HY7.out, List.length_drop, ← HND.out]
          have HG : Hid (b8.length + y7.length ≤ 140737488355328) := Lib.hid (by rw [hb8]; omega)
          have HYB := Lib.hid HSA.bys
          have HYN := Lib.hid HSA.nil
          obtain ⟨z, hz⟩ : ∃ z, z = (b8 ++ y7).length := ⟨_, rfl⟩
          have hz2 : z = b8.length + y7.length := by rw [hz, List.length_append]
          rw [← hb8] at hb1
          obtain ⟨sz, hsz⟩ : ∃ sz, sz = z - (q + 2) := ⟨_, rfl⟩
          obtain ⟨zq, hzq⟩ : ∃ zq, zq = z - q := ⟨_, rfl⟩
          have wz1 : IntKind.i64.wrap ((z : Int) - (q : Int)) = (zq : Int) := by rw [IntKind.wrap_i64]; omega
          have wz2 : IntKind.i64.wrap ((zq : Int) - 2) = (sz : Int) := by rw [IntKind.wrap_i64]; omega
          have hle : (sz : Int) ≤ 65535 := by omega
          obtain ⟨b0, hb0⟩ : ∃ b, b = UInt8.ofNat (sz / 256) := ⟨_, rfl⟩
          obtain ⟨b1', hb1'⟩ : ∃ b, b = UInt8.ofNat sz := ⟨_, rfl⟩
          have f0 : IntKind.u8.wrap ((sz : Int) / 256) = (b0.toNat : Int) := by rw [hb0]; exact u8_hi sz
          have f1 : IntKind.u8.wrap (sz : Int) = (b1'.toNat : Int) := by rw [hb1']; exact u8_lo sz
          have iq0 : (q : Int) < (z : Int) := by omega
          have iq1 : (q : Int) + 1 < (z : Int) := by omega
          have iw1 : IntKind.i64.wrap ((q : Int) + 1) = (q : Int) + 1 := by rw [IntKind.wrap_i64]; omega
          have hq2 : q + 1 < z := by omega
          have HFX : Hid (XR = ⟨((b8 ++ y7).set q b0).set (q + 1) b1', X8.P⟩) := Lib.hid (by
            rw [HD.out]
            have e : (⟨X5.b ++ [0, 0] ++ d.take a, X5.P⟩ : Wt) = X7 := by rw [HX7.out, HX6.out]
            simp only [e, ← hX8, ← HY7.out, ← hb8, ← hz, hb0, hb1', hsz])
          have HQ2 := Lib.hid hq2
          have HLB : Hid (L1.length < (b8 ++ y7).length) := Lib.hid (by have h1 := RT.le; rw [← hb8] at h1; simp; omega)
          have HZ := Lib.hid hz
          clear hx7 HSA hb8 hX8 hu c0 RT hlu hy7l hz hz2 hb1 hsz hzq hb0 hb1' HR9 HS7 HSU HNM HX7L HXN HOF HST HD HQ HX5L HX1L hq2
          go_upto_region 15 with fail
          go_wp2_with (first
            | (at_builtin; refine wpList_appRF rfl (.tmp 86) (.tmp 87) rfl base _ b8 rfl HC0.out.own HC0.out.nn _ n7 c7 rfl y7 HN7.out HYB.out HYN.out HG.out HC0.out.big ?_)
            | fail)
          intro v9 w9 o9 g9 f9 nn9
          have ch9 := HC0.out.app (k := 0) o9 g9 f9 nn9
          rw [← HUV.out] at ch9
          have hrow9 := ch9.cell HRU.out.at'.head HRU.out.at'.gv
          have d90 : w9.cell? ⟨g, 0, none⟩ = some v1 := (cell_of_row _ g 0 _ _ _ hrow9).trans rfl
          have d91 := frozen_of_row _ _ 0 _ _ hrow9
          obtain ⟨v2', vp2', L2', R9⟩ := HRU.out.next (DrP.chain HRU.out.at' ch9 HLB.out)
          obtain ⟨gv9, k9, hv9, -⟩ := OwnR.slice_form o9 nn9
          rw [← HZ.out] at hv9
          rw [HUV.out] at d90
          subst hv9
          have HR9 := Lib.hid R9
          clear o9 g9 f9 nn9 ch9 hrow9 R9 HC0 HG HYB HYN u0
          generalize hW9 : w9.setCell ⟨g, 0, none⟩ (.slice (some ⟨gv9, 0, none⟩) z k9) = W9 at *
          have HW9 := Lib.hid hW9
          clear hW9
          go_upto_region 16 with fail
          rw [HW9.out]
          clear HW9 d90 d91
          obtain ⟨gw, kw, hw2, -⟩ := HR9.out.at'.form
          have hw2' : v2' = .slice (some ⟨gw, 0, none⟩) z kw := by rw [hw2, HZ.out]
          subst hw2'
          have cg := HR9.out.at'.cells.1
          have RA := HR9.out
          have RB := (RA.put1 q b0).drew
          have RC := RB.put1 (q + 1) b1'
          have r9 : OwnR W9 base (.slice (some ⟨gw, 0, none⟩) z kw) (b8 ++ y7) := RA.at'.row
          have r10 : OwnR (W9.setCell ⟨gw, q, none⟩ (.int .u8 b0.toNat)).drew base (.slice (some ⟨gw, 0, none⟩) z kw) ((b8 ++ y7).set q b0) := RB.at'.row
          obtain ⟨p0, p1⟩ := OwnR.cellAt r9 (j := q) (by rw [← HZ.out]; exact Nat.lt_of_succ_lt HQ2.out)
          obtain ⟨p2, p3⟩ := OwnR.cellAt r10 (j := q + 1) (by rw [List.length_set, ← HZ.out]; exact HQ2.out)
          rw [← HFX.out] at RC
          have HRC := Lib.hid RC.shut
          clear hw2 RA RB RC r9 r10 HFX
          go_upto_region 17 with fail
          generalize ((b8 ++ y7)[q]'(by rw [← HZ.out]; exact Nat.lt_of_succ_lt HQ2.out)).toNat = z1 at p0
          generalize (((b8 ++ y7).set q b0)[q + 1]'(by rw [List.length_set, ← HZ.out]; exact HQ2.out)).toNat = z2 at p2
          clear HR9 HRU HRT HRA HUV
          go_region
          all_goals
            go_wp2_with fail
            go_ret
            exact ⟨rfl, HRC.out⟩
end Go.Proofs.YtknpkifhkefikaaDoor
