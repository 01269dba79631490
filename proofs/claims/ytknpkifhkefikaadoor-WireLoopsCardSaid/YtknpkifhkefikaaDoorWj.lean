/-
  The document's writer: a name.
  The document's Names (layer 3): the list is new.
  The document's writer: what holds between the steps of a record.
-/
import Derived.Test.YtknpkifhkefikaaDoorWk
import Derived.Test.YtknpkifhkefikaaDoorWrD
import Derived.Test.YtknpkifhkefikaaDoorWc
import Derived.Test.YtknpkifhkefikaaDoorWrG
namespace Go.Proofs.YtknpkifhkefikaaDoor
open Go.RowKit Go.Maps
set_option linter.unusedVariables false
set_option maxRecDepth 100000

theorem info_plc : (Tryd.prog.info? 141).map (fun i => (i.zero, i.size, i.bytes)) = some (some (.agg #[.string ⟨#[]⟩, .int .i64 0]), 2, 24) := by kernel_rfl
theorem info_plc2 : (Tryd.prog.info? 141).map (·.size) = some 2 := by kernel_rfl
noncomputable def appQ (v u : Value) (ty : TypeId) (w : World) : Result Next := ((Builtin.append_ #[75, 75] ty #[v, u]).run Tryd.prog w).andThen fun a w' => .ok (.value a) w'
theorem exec_appQ (ev : Operand → Value) (d : Option Tmp) (x y : Operand) (t : TypeId) (p : String) (f : Array Edge) (w : World) : (execOp ev { dst := d, op := .call { callee := .builtin .append, args := #[x, y], argTypes := #[75, 75] }, type := t, pos := p, after := f, guard := none }).run Tryd.prog w = appQ (ev x) (ev y) t w := by
  unfold execOp appQ
  simp only [resolve, invoke, builtin, Sem.run_bind, Sem.run_pure, Result.andThen_ok, List.map_toArray, List.map_cons, List.map_nil]
/-- A place more. -/
theorem run_app_plc {w : World} {base : Nat} {vp : Value} {L : List Plc} (ty : TypeId) (hown : w.ownsRow base 141 2 vp L.length (plRow L)) (n : Bs) (a : Nat) (b c : Nat) (hc0 : w.cell? ⟨b, 0, none⟩ = some (.string (bs n))) (hc1 : w.cell? ⟨b, 1, none⟩ = some (.int .i64 a)) (hlen : L.length ≤ 100000000) (hbase : base ≤ w.heap.size) :
    ∃ v' w', appQ vp (.slice (some ⟨b, 0, none⟩) 1 c) ty w = .ok (.value v') w' ∧ w'.ownsRow base 141 2 v' (L.length + 1) (plRow L ++ [.string (bs n), .int .i64 a]) ∧ w.grownBy w' vp.ownBlock ∧ (v'.ownBlock = vp.ownBlock ∨ v'.ownBlock = some w.heap.size) := by
  obtain ⟨i0, hi, hz0, hz1, hz2⟩ := info_parts info_plc
  obtain ⟨v', w', hr, h3, h4, -, h6⟩ := run_append_own_at (P := Tryd.prog) w base 75 ty 141 i0 (.agg #[.string ⟨#[]⟩, .int .i64 0]) 2 24 Tryd.underlying75 hi hz0 hz1 hz2 rfl (by decide) vp L.length (plRow L) hown ⟨b, 0, none⟩ 1 c [.string (bs n), .int .i64 a] rfl (fun j u hu => by
    match j, hu with
    | 0, hu => injection hu with hu; subst hu; exact hc0
    | 1, hu => injection hu with hu; subst hu; exact hc1
    | j + 2, hu => simp at hu) (fun u hu => by simp at hu; rcases hu with rfl | rfl <;> rfl) (by unfold maxLen; omega) (by omega) hbase
  exact ⟨v', w', by unfold appQ; rw [hr]; rfl, h3, h4, h6⟩
attribute [local go_sem ↓] exec_appSv exec_appQ
set_option maxHeartbeats 4000000 in
set_option maxRecDepth 100000 in
theorem dName_any (L0 : List Bs) {g base : Nat} {v vp : Value} {X : Wt} {L : List Plc} (w : World) (h : DtM g v vp base X L w) (hLX : L.length < X.b.length) (hL : ∀ x ∈ L0, Lab x) (hj : (join L0).length ≤ 255) (hl : X.b.length ≤ 30000000) : Calls Tryd.prog 36 #[.pointer (some ⟨g, 0, none⟩), .string (bs (join L0))] w fun e w' => e = .returned (.tuple #[]) ∧ DrP g v vp base (nameW L0 X) w w' := by
  have H := Lib.hid (And.intro h hLX)
  have HL := Lib.hid hL
  have HJ := Lib.hid hj
  obtain ⟨n0, hn0⟩ : ∃ n, n = join L0 := ⟨_, rfl⟩
  rw [← hn0]
  have HN0 := Lib.hid hn0
  obtain ⟨XF, hXF⟩ : ∃ XF, XF = nameW L0 X := ⟨_, rfl⟩
  rw [← hXF]
  have HXF := Lib.hid hXF
  have HXL := Lib.hid hl
  clear h hLX hL hj hn0 hXF hl
  go_enter Tryd.func36, Tryd.ntmps36
  go_wp2_with fail
  go_loopw [1] (fun v1 wr => ∃ (Lb : List Bs) (Y : Wt) (u up : Value) (LP : List Plc) (nb : Bs), v1 = .string (bs nb) ∧ Hid (nb = join Lb) ∧ Hid (∀ x ∈ Lb, Lab x) ∧ Hid ((join Lb).length ≤ 255) ∧ Hid (DtM g u up base Y LP wr ∧ LP.length < Y.b.length) ∧ Hid (Mod (Foot4 g v vp) w wr ∧ ∀ k, (u.ownBlock = some k ∨ up.ownBlock = some k) → Foot4 g v vp k ∨ w.heap.size ≤ k) ∧ Hid (XF = nameW Lb Y) ∧ Hid (Y.b.length + (join Lb).length ≤ 30000255)) (fun v1 _ => strLen v1)
  case atStart => exact ⟨L0, X, v, vp, L, n0, rfl, HN0, HL, HJ, H, Lib.hid ⟨Mod.refl _ _, fun k hk => .inl (.inr hk)⟩, HXF, Lib.hid (by have := HXL.out; have := HJ.out; omega)⟩
  case round =>
    obtain ⟨Lb, Y, u, up, LP, nb, rfl, HN, HLa, HJ, H, HM, HX, HY⟩ := hrel
    rename World => wr
    have HLY := Lib.hid H.out.2
    replace H := Lib.hid H.out.1
    cases Lb with
    | nil =>
      have e0 : nb = [0] := HN.out
      subst e0
      clear HN
      obtain ⟨c0, c1, fr, fr1⟩ := H.out.cells
      obtain ⟨gv, c, rfl, hb, -⟩ := H.out.form
      obtain ⟨b, hbb⟩ : ∃ b, b = Y.b := ⟨_, rfl⟩
      obtain ⟨q, hq⟩ : ∃ q, q = b.length := ⟨_, rfl⟩
      have hH := H.out
      have BA : Below wr.heap.size wr (wr.alloc (.cells #[.int .u8 0] 5 (0, 0))) := Below.alloc (Below.refl _ _) (Nat.le_refl _) _
      have hB0 : Bys (wr.alloc (.cells #[.int .u8 0] 5 (0, 0))) (some ⟨wr.heap.size, 0, none⟩) [(0 : UInt8)] := (Sl.made (l := [(0 : UInt8)]) rfl (by simp)).bys
      have ch0 := (CH.start hH.row hH.nn hH.big).call (k := wr.heap.size) (t := [0]) BA (Nat.le_refl _) (by simp) hB0
      rw [← hbb, ← hq] at c0 hH HM ch0
      have HX2 : Hid (XF = ⟨b ++ [0], Y.P⟩) := Lib.hid (by rw [HX.out, hbb]; rfl)
      have HLN : Hid (b.length + [(0 : UInt8)].length ≤ 140737488355328) := Lib.hid (by have := HY.out; rw [← hbb] at this; simp [join, enc] at this ⊢; omega)
      have HH := Lib.hid hH
      have HC0 := Lib.hid ch0
      have HB0 := Lib.hid hB0
      have HLB : Hid (LP.length < (b ++ [(0 : UInt8)]).length) := Lib.hid (by have := HLY.out; rw [← hbb] at this; simp; omega)
      clear hbb hq hH ch0 hB0 HX H HY HJ HLa BA
      go_wp2_with (first
        | (at_builtin; refine wpList_appRF rfl (.tmp 80) (.tmp 81) rfl base _ b rfl HC0.out.own HC0.out.nn _ 1 1 rfl [0] rfl HB0.out (fun h => by cases h) HLN.out HC0.out.big ?_)
        | fail)
      intro v1 w1 o1 g1 fr1' nn1
      have ch1 := HC0.out.app (k := 0) o1 g1 (by simpa using fr1') nn1
      have hr := HH.out.head
      obtain ⟨gv1, k1, hv1, -⟩ := OwnR.slice_form o1 nn1
      have hrow := ch1.cell hr HH.out.gv
      have d0 := (cell_of_row _ g 0 _ _ _ hrow).trans rfl
      have d1 := frozen_of_row _ _ 0 _ _ hrow
      obtain ⟨q1, hq1⟩ : ∃ q1, q1 = (b ++ [(0 : UInt8)]).length := ⟨_, rfl⟩
      rw [← hq1] at hv1
      have HF := Lib.hid (DrP.trans HM.out.1 HM.out.2 (DrP.chain HH.out ch1 HLB.out))
      have HX3 : Hid (XF = ⟨b ++ [0], Y.P⟩) := HX2
      rw [show (⟨b ++ [0], Y.P⟩ : Wt) = XF from HX3.out.symm] at HF
      clear o1 g1 fr1' nn1 hq1 HX2 HLN ch1 hr hrow HC0 HB0 HX3 HLB
      subst hv1
      go_wp2_with fail
      go_end0
      exact ⟨rfl, HF.out⟩
    | cons x Lb =>
      have hx : Lab x := HLa.out x (by simp)
      have hd : HeadOf nb x (join Lb) := ⟨by rw [HN.out]; simp [join, enc], hx⟩
      have hix := hd.ix
      have hsh := hd.hd
      have hst := hd.tl
      have hne : (nb == [0]) = false := by
        rw [beq_eq_false_iff_ne]
        intro e
        have := congrArg List.length (hd.eq.symm.trans e)
        have h1 := hx.1
        simp [join] at this
      have hnl : nb.length ≤ 255 := by rw [HN.out]; exact HJ.out
      have hjl : (join (x :: Lb)).length = 1 + x.length + (join Lb).length := by simp [join, enc]; omega
      obtain ⟨c0, c1, fr, fr1⟩ := H.out.cells
      obtain ⟨gv, c, rfl, hb, -⟩ := H.out.form
      obtain ⟨ap, cp, hup⟩ := H.out.formP
      obtain ⟨nL, hnL⟩ : ∃ n, n = LP.length := ⟨_, rfl⟩
      obtain ⟨b, hbb⟩ : ∃ b, b = Y.b := ⟨_, rfl⟩
      obtain ⟨q, hq⟩ : ∃ q, q = b.length := ⟨_, rfl⟩
      have hH := H.out
      rw [← hbb, ← hq] at c0 hH HM
      rw [← hnL] at hup
      have HH := Lib.hid hH
      have HB := Lib.hid hbb
      have HQ := Lib.hid hq
      have HNL := Lib.hid hnL
      have hy := HY.out
      rw [← hbb, ← hq] at hy
      have hqy : Y.b.length = q := by rw [hq, hbb]
      have hnq : nL < q := by have := HLY.out; rw [hqy, ← hnL] at this; exact this
      have hq30 : q ≤ 30000255 := by omega
      have HHD := Lib.hid hd
      have HHN := Lib.hid hnl
      have HQY := Lib.hid hqy
      have HJL := Lib.hid hjl
      have HYY := Lib.hid hy
      have HIX := Lib.hid hix
      have HSH := Lib.hid hsh
      have HST := Lib.hid hst
      have HUP := Lib.hid hup
      clear hbb hq hH H hd hnl hjl hnL hqy hy hx hix hsh hst
      subst hup
      go_wp2_with fail
      go_loopw [14] (fun v14 w2 => ∃ j : Nat, v14 = .int .i64 j ∧ j ≤ nL ∧ Hid (Below wr.heap.size wr w2) ∧ Hid (lookP (LP.take j) nb = none)) (fun v14 _ => nL - (intOf v14).toNat)
      case atStart => exact ⟨0, rfl, by omega, Lib.hid (Below.refl _ _), Lib.hid (by rw [List.take_zero]; rfl)⟩
      case round =>
        obtain ⟨j, rfl, hj, HB2, HLK⟩ := hrel
        rename World => w2
        have h2 := HH.out.below HB2.out
        obtain ⟨e0, e1, fr2, fr3⟩ := h2.cells
        by_cases hlt : j < nL
        · have hlt' : (j : Int) < (nL : Int) := by omega
          have kL : j < LP.length := by have := HNL.out; omega
          obtain ⟨gp, cp', e4, p0, p1⟩ := h2.place j kL
          injection e4 with e4 e5 e6
          clear e5 e6
          have hsm := HH.out.sm LP[j] (List.getElem_mem kL)
          have hhit := lookP_hit (L := LP) (n := nb) j kL HLK.out
          have hnext := lookP_next (L := LP) (n := nb) j kL HLK.out
          obtain ⟨pn, hpn⟩ : ∃ z, z = LP[j].1 := ⟨_, rfl⟩
          obtain ⟨pa, hpa⟩ : ∃ z, z = LP[j].2 := ⟨_, rfl⟩
          rw [← hpn] at p0 hhit hnext
          rw [← hpa] at p1 hhit
          have hpa2 : pa < 16384 := by rw [hpa]; exact hsm.2
          have R1 : w2.rangeAt gp (j * 2) [.string (bs pn), .int .i64 (pa : Nat)] := fun i y hi => by
            match i, hi with
            | 0, hi => injection hi with hi; subst hi; exact p0
            | 1, hi => injection hi with hi; subst hi; exact p1
          have iR : Hid ((Tryd.prog.info? 141).map (·.size) = some ([.string (bs pn), .int .i64 (pa : Nat)] : List Value).length) := Lib.hid info_plc2
          have iC : Hid ((Tryd.prog.info? 141).map (·.size) = some (#[.string (bs pn), .int .i64 (pa : Nat)] : Array Value).size) := Lib.hid info_plc2
          have oC : Hid ((#[.string (bs pn), .int .i64 (pa : Nat)] : Array Value).all (·.oneCell') = true) := Lib.hid (by simp [Value.oneCell'])
          have zC : Hid ((#[.string ⟨#[]⟩, .int .i64 0] : Array Value).size = (#[.string (bs pn), .int .i64 (pa : Nat)] : Array Value).size) := Lib.hid rfl
          have rZ := row_new (w := w2) (k := w2.heap.size) (.cells #[.string ⟨#[]⟩, .int .i64 0] 141 (0, 0)) rfl
          have r5 := setRow_heap _ _ _ #[.string (bs pn), .int .i64 (pa : Nat)] _ _ rZ
          have q1 : Below w2.heap.size w2 ((w2.alloc (.cells #[.string ⟨#[]⟩, .int .i64 0] 141 (0, 0))).setRow w2.heap.size #[.string (bs pn), .int .i64 (pa : Nat)]) := Below.setRow (Below.alloc (Below.refl _ _) (Nat.le_refl _) _) (Nat.le_refl _) _
          obtain ⟨W5, hW5⟩ : ∃ W5, W5 = (w2.alloc (.cells #[.string ⟨#[]⟩, .int .i64 0] 141 (0, 0))).setRow w2.heap.size #[.string (bs pn), .int .i64 (pa : Nat)] := ⟨_, rfl⟩
          rw [← hW5] at r5 q1
          have x0 : W5.cell? ⟨w2.heap.size, 0, none⟩ = some (.string (bs pn)) := (cell_of_row _ _ 0 _ _ _ r5).trans rfl
          have BW5 := Lib.hid (HB2.out.trans (q1.mono HB2.out.size))
          have HW5 := Lib.hid hW5
          have SZ2 := Lib.hid HB2.out.size
          have HR5 := Lib.hid r5
          have HHIT := Lib.hid hhit
          have HNEXT := Lib.hid hnext
          clear hsm hpn hpa p0 p1 hhit hnext q1 hW5 r5 e0 e1 fr2 fr3 h2 kL
          subst e4
          by_cases heq : pn = nb
          · have hbe : (pn == nb) = true := by simp [heq]
            have lk := HHIT.out heq
            have HX2 : Hid (XF = twW (49152 + pa) ⟨b, Y.P⟩) := Lib.hid (by rw [HX.out, HB.out]; unfold nameW; rw [← HN.out]; have h9 : Y.P nb = some pa := (congrFun HH.out.eq nb).trans lk; rw [h9]; rfl)
            have h5 := HH.out.below BW5.out
            have hw9 : IntKind.i64.wrap (49152 + (pa : Int)) = 49152 + (pa : Int) := IntWalk.i64_in _ (by omega)
            have T := Lib.hid (fun W => dTwo_any (49152 + pa) (49152 + (pa : Int)) (by omega) W)
            have ch0 := CH.start h5.row h5.nn h5.big
            rw [← HB.out] at ch0
            have hC0 := ch0.drew
            have hbx : (Value.slice (some ⟨gv, 0, none⟩) q c).ownBlock ≠ some w2.heap.size := fun e => by have h1 := HH.out.blkV e; have := SZ2.out; omega
            have F0 : ∀ W, (∃ v l ts, CH W5 base (.slice (some ⟨gv, 0, none⟩) q c) v l ts W) → W.cell? ⟨g, 0, none⟩ = some (.slice (some ⟨gv, 0, none⟩) q c) := fun W ⟨_, _, _, hh⟩ => (cell_of_row _ g 0 _ _ _ (hh.cell h5.head h5.gv)).trans rfl
            have F1 : ∀ W, (∃ v l ts, CH W5 base (.slice (some ⟨gv, 0, none⟩) q c) v l ts W) → W.cell? ⟨w2.heap.size, 1, none⟩ = some (.int .i64 (pa : Nat)) := fun W ⟨_, _, _, hh⟩ => (cell_of_row _ _ 1 _ _ _ (hh.cell HR5.out hbx)).trans rfl
            have F2 : ∀ W, (∃ v l ts, CH W5 base (.slice (some ⟨gv, 0, none⟩) q c) v l ts W) → W.frozen? ⟨g, 0, none⟩ = false := fun W ⟨_, _, _, hh⟩ => frozen_of_row _ _ 0 _ _ (hh.cell h5.head h5.gv)
            have hX0 : ∃ v l ts, CH W5 base (.slice (some ⟨gv, 0, none⟩) q c) v l ts W5.drew := ⟨_, _, _, hC0⟩
            have HLN : Hid (b.length + (tw (49152 + pa)).length ≤ 140737488355328) := Lib.hid (by have := HQ.out; simp [tw]; omega)
            have H5 := Lib.hid h5
            clear h5 heq lk hbx HNEXT HHIT HLK
            go_wp2_with (first
              | (refine wpList_load_mid rfl 141 (.tmp 16) rfl gp (j * 2) rfl _ _ R1 Tryd.underlying141 rfl iR.out ?_)
              | (refine wpList_store_row rfl 141 (.tmp 5) (.tmp 17) rfl w2.heap.size #[.string (bs pn), .int .i64 (pa : Nat)] rfl rfl 141 _ rZ iC.out (by first | exact zC.out | exact zC.out.symm) oC.out ?_; rw [← HW5.out])
              | fail)
            go_region_law ((first
              | (go_simp; go_at_call 37; (with_reducible refine (T.out _).mono ?_); rintro e w6 ⟨k6, rfl, hk6, hl6, ho6, hb6⟩; have hC6 := CH.call hC0 hb6 hk6 hl6 (ownR_bys ho6); have hX6 : ∃ v l ts, CH W5 base (.slice (some ⟨gv, 0, none⟩) q c) v l ts w6 := ⟨_, _, _, hC6⟩)
              | ((refine step_ch (by rfl) (.tmp 26) (.tmp 30) (by rfl) (by rfl) (by assumption) _ _ _ (by rfl) (tw (49152 + pa)) (by simp) (by rfl) HLN.out ?_); intro v7 w7 hC7; have hX7 : ∃ v l ts, CH W5 base (.slice (some ⟨gv, 0, none⟩) q c) v l ts w7 := ⟨_, _, _, hC7⟩; obtain ⟨gv7, cv7, hv7, -⟩ := OwnR.slice_form hC7.own hC7.nn; subst hv7)))
            all_goals
              have HF := Lib.hid (DrP.trans HM.out.1 HM.out.2 (DrP.trans (Mod.below BW5.out) (fun k hk => .inl (.inr hk)) (DrP.chain H5.out hC7 (by have := HLY.out; rw [← HB.out] at this; simp [tw]; omega))))
              rw [show (⟨b ++ tw (49152 + pa), Y.P⟩ : Wt) = XF from HX2.out.symm] at HF
              go_wp2_with fail
              refine bodyPost_ret (results_none rfl _ _ _) rfl ?_
              exact ⟨rfl, by simpa only [List.length_append] using HF.out⟩
          · have hbe : (pn == nb) = false := by simp [heq]
            have HLK2 := Lib.hid (HNEXT.out heq)
            clear heq HNEXT HHIT HLK
            go_wp2_with (first
              | (refine wpList_load_mid rfl 141 (.tmp 16) rfl gp (j * 2) rfl _ _ R1 Tryd.underlying141 rfl iR.out ?_)
              | (refine wpList_store_row rfl 141 (.tmp 5) (.tmp 17) rfl w2.heap.size #[.string (bs pn), .int .i64 (pa : Nat)] rfl rfl 141 _ rZ iC.out (by first | exact zC.out | exact zC.out.symm) oC.out ?_; rw [← HW5.out])
              | fail)
            go_roundw
            case rel => exact ⟨j + 1, by go_num, by omega, BW5, HLK2⟩
            case measure => simp [intOf]; omega
        · have hlt' : ¬ (j : Int) < (nL : Int) := by omega
          have hln : lookP LP nb = none := by have := HLK.out; rw [List.take_of_length_le (by have := HNL.out; omega)] at this; exact this
          have hx : Lab x := HHD.out.lab
          have hx63 := hx.2
          obtain ⟨hb0, hhb⟩ : ∃ z, z = UInt8.ofNat x.length :: x := ⟨_, rfl⟩
          have HBL : Hid (hb0.length = 1 + x.length) := Lib.hid (by rw [hhb]; simp; omega)
          have HHB := Lib.hid hhb
          obtain ⟨xl, hxl⟩ : ∃ k, k = x.length := ⟨_, rfl⟩
          have hix := HIX.out
          have hsh := HSH.out
          have hst := HST.out
          rw [← hhb] at hsh
          rw [← hxl] at hix hsh hst hx63 HBL
          have HI1 : IntKind.i64.wrap (xl : Int) = (xl : Int) := IntWalk.i64_in _ (by omega)
          have HI2 : IntKind.i64.wrap (1 + (xl : Int)) = 1 + (xl : Int) := IntWalk.i64_in _ (by omega)
          obtain ⟨nb2, hnb2⟩ : ∃ k, k = join Lb := ⟨_, rfl⟩
          rw [← hnb2] at hst
          have HNB2 := Lib.hid hnb2
          have hjl := HJL.out
          rw [← hxl, ← hnb2] at hjl
          have HJN := Lib.hid hjl
          have hPn : Y.P nb = none := (congrFun HH.out.eq nb).trans hln
          have HPN := Lib.hid hPn
          have HXL2 := Lib.hid hxl
          clear hhb hnb2 hjl hPn hx hxl
          by_cases hq16 : q < 16384
          · have hq16' : (q : Int) < 16384 := by omega
            obtain ⟨W3, hW3⟩ : ∃ W3, W3 = (w2.alloc (.cells #[.string (bs nb), .int .i64 (q : Nat)] 141)).drew := ⟨_, rfl⟩
            have b3 : Below w2.heap.size w2 W3 := by rw [hW3]; exact Below.drew (Below.alloc (Below.refl _ _) (Nat.le_refl _) _)
            have h3 := h2.below b3
            have r3 : W3.heap[w2.heap.size]? = some (.cells #[.string (bs nb), .int .i64 (q : Nat)] 141 (0, 0)) := by rw [hW3]; exact row_drew (row_new _ rfl)
            obtain ⟨up3, W4, hr4, o4, g4, f4⟩ := run_app_plc 75 h3.pl nb q w2.heap.size 1 ((cell_of_row _ _ 0 _ _ _ r3).trans rfl) ((cell_of_row _ _ 1 _ _ _ r3).trans rfl) (by have := HNL.out; omega) h3.big
            have hs4 := DtM.put h3 g4 o4 f4 hln HHN.out hq16 (by show LP.length + 1 ≤ Y.b.length; have := HNL.out; have := HQY.out; omega)
            obtain ⟨n3, hn3⟩ : ∃ n, n = (LP ++ [(nb, q)]).length := ⟨_, rfl⟩
            obtain ⟨ap3, cp3, hup3⟩ := hs4.formP
            rw [← hn3] at hup3
            have e1' : W4.cell? ⟨g, 1, none⟩ = some (.slice ap nL cp) := by
              have hh := g4.block g (h3.lt (.inl rfl)) (fun e => h3.gp e.symm)
              exact (World.cell?_of_block (a := ⟨g, 1, none⟩) hh).trans h3.cells.2.1
            have z1' : W4.frozen? ⟨g, 1, none⟩ = false := by
              have hh := g4.block g (h3.lt (.inl rfl)) (fun e => h3.gp e.symm)
              exact (World.frozen?_of_block (a := ⟨g, 1, none⟩) hh).trans h3.cells.2.2.2
            have x30 := h3.cells.1
            have x31 := h3.cells.2.1
            have m4 : Mod (Foot4 g (.slice (some ⟨gv, 0, none⟩) q c) (.slice ap nL cp)) w2 (W4.setCell ⟨g, 1, none⟩ up3) := Mod.store ((Mod.below b3).trans (Mod.grown (S := Foot4 g (.slice (some ⟨gv, 0, none⟩) q c) (.slice ap nL cp)) g4 (fun k hk => .inr (.inr hk))) (fun i e => .inl e)) _ _ (.inl (.inl rfl))
            obtain ⟨W6, hW6⟩ : ∃ W6, W6 = W4.setCell ⟨g, 1, none⟩ up3 := ⟨_, rfl⟩
            have sz3 := b3.size
            obtain ⟨up6, hup6⟩ : ∃ u, u = up3 := ⟨_, rfl⟩
            obtain ⟨P6, hP6⟩ : ∃ P, P = putP Y.P nb q := ⟨_, rfl⟩
            obtain ⟨LP6, hLP6⟩ : ∃ l, l = LP ++ [(nb, q)] := ⟨_, rfl⟩
            have h6 : DtM g (.slice (some ⟨gv, 0, none⟩) q c) up6 base ⟨b, P6⟩ LP6 W6 := by rw [hup6, hP6, hLP6, hW6, HB.out]; exact hs4
            have m6 : Mod (Foot4 g (.slice (some ⟨gv, 0, none⟩) q c) (.slice ap nL cp)) wr W6 := by rw [hW6]; exact (Mod.below HB2.out).trans m4 (fun i e => .inl e)
            have f6 : ∀ k, up6.ownBlock = some k → Foot4 g (.slice (some ⟨gv, 0, none⟩) q c) (.slice ap nL cp) k ∨ wr.heap.size ≤ k := fun k hk => by
              rw [hup6] at hk
              rcases f4 with e | e
              · exact .inl (.inr (.inr (by rw [← e]; exact hk)))
              · rw [e] at hk; injection hk with hk; have := HB2.out.size; exact .inr (by omega)
            have hXL : nameW (x :: Lb) Y = nameW Lb ⟨b ++ hb0, P6⟩ := by
              conv => lhs; unfold nameW
              rw [← HN.out, HPN.out]
              simp only
              rw [HQY.out, if_pos hq16, hP6, HB.out, HHB.out]
            have hl6 : LP6.length ≤ q := by rw [hLP6, List.length_append]; have := HNL.out; simp; omega
            have HW6 := Lib.hid hW6
            rw [hup3] at hr4 HW6 hup6
            rw [hW3] at hr4 x30 x31
            clear hs4 o4 g4 f4 h3 r3 b3 m4 hW6 hn3 sz3 hP6 hLP6 hup3 HLK h2 hln hW3
            go_wp2_with fail
            go_region
            all_goals rw [← HW6.out]
            clear HW6 hr4 e1' z1' x30 x31 e0 e1 fr2 fr3
            clear hup6
            have HXL := Lib.hid hXL
            have HM6 := Lib.hid m6
            have HF6 := Lib.hid f6
            have H6 := Lib.hid h6
            have HL6 := Lib.hid hl6
            have h6d := h6.drew
            obtain ⟨d0, d1, d2, d3⟩ := h6.cells
            obtain ⟨v7, w7, hr7, o7, g7, f7, n7⟩ := run_appSF 29 h6d.row h6d.nn hb0 (by show b.length + hb0.length ≤ 140737488355328; have := HYY.out; have := HJN.out; have := HQ.out; rw [HBL.out]; omega) h6d.big
            have ap := appSv_of hr7
            have hg0 := g7.block g (h6d.lt (.inl rfl)) (fun e => h6d.gv e.symm)
            have e0 := (World.cell?_of_block (a := ⟨g, 0, none⟩) hg0).trans h6d.cells.1
            have e2 := (World.frozen?_of_block (a := ⟨g, 0, none⟩) hg0).trans h6d.cells.2.2.1
            obtain ⟨gv7, k7, hv7, -⟩ := OwnR.slice_form o7 n7
            obtain ⟨q7, hq7⟩ : ∃ q7, q7 = (b ++ hb0).length := ⟨_, rfl⟩
            rw [← hq7] at hv7
            have ch7 := (CH.start h6d.row h6d.nn h6d.big).app (k := 0) o7 g7 f7 n7
            have hl7 : LP6.length < (b ++ hb0).length := by rw [List.length_append, HBL.out, ← HQ.out]; omega
            have hs7 := h6d.storeC ch7 (Nat.le_of_lt hl7)
            have m7 : Mod (Foot4 g (.slice (some ⟨gv, 0, none⟩) q c) up6) W6 (w7.setCell ⟨g, 0, none⟩ v7) := Mod.store ((Mod.below (Below.drew (Below.refl _ _))).trans (ch7.md.wide (S' := Foot4 g (.slice (some ⟨gv, 0, none⟩) q c) up6) (fun i e => .inr (.inl e))) (fun i e => .inl e)) _ _ (.inl (.inl rfl))
            have hFF : ∀ k, Foot4 g (.slice (some ⟨gv, 0, none⟩) q c) up6 k → Foot4 g v vp k ∨ w.heap.size ≤ k := fun k hk => by
              rcases hk with e | e | e
              · exact .inl (.inl e)
              · exact HM.out.2 k (.inl e)
              · rcases HF6.out k e with e | e
                · rcases e with e | e | e
                  · exact .inl (.inl e)
                  · exact HM.out.2 k (.inl e)
                  · exact HM.out.2 k (.inr e)
                · exact .inr (Nat.le_trans HM.out.1.size e)
            have HS7 := Lib.hid (And.intro hs7 hl7)
            have MM := Lib.hid ((HM.out.1.trans HM6.out (fun i hi => by
              rcases hi with e | e | e
              · exact .inl (.inl e)
              · exact HM.out.2 i (.inl e)
              · exact HM.out.2 i (.inr e))).trans m7 hFF)
            have HFR : Hid (∀ k, (v7.ownBlock = some k ∨ up6.ownBlock = some k) → Foot4 g v vp k ∨ w.heap.size ≤ k) := Lib.hid (fun k hk => by
              rcases hk with e | e
              · rcases ch7.fr with f | f
                · exact hFF k (.inr (.inl (by rw [← f]; exact e)))
                · have h1 := f k e
                  have h2 : w.heap.size ≤ W6.heap.size := (HM.out.1.trans HM6.out (fun i hi => by
                    rcases hi with e | e | e
                    · exact .inl (.inl e)
                    · exact HM.out.2 i (.inl e)
                    · exact HM.out.2 i (.inr e))).size
                  exact .inr (Nat.le_trans h2 h1)
              · exact hFF k (.inr (.inr e)))
            have HXF2 : Hid (XF = nameW Lb ⟨b ++ hb0, P6⟩) := Lib.hid (by rw [HX.out, HXL.out])
            have HLL : Hid (∀ y ∈ Lb, Lab y) := Lib.hid (fun y hy => HLa.out y (by simp [hy]))
            have HJL2 : Hid ((join Lb).length ≤ 255) := Lib.hid (by have := HJ.out; have := HJN.out; rw [← HNB2.out]; omega)
            have HYL : Hid ((b ++ hb0).length + (join Lb).length ≤ 30000255) := Lib.hid (by have := HYY.out; have := HJN.out; rw [List.length_append, HBL.out, ← HQ.out, ← HNB2.out]; omega)
            have HRL : Hid (strLen (.string (bs nb2)) < strLen (.string (bs nb))) := Lib.hid (by
              show (bs nb2).size < (bs nb).size
              rw [bs_size, bs_size, HN.out, HJN.out]
              omega)
            rw [hv7] at ap HS7 HFR
            subst hv7
            clear hr7 o7 g7 f7 n7 hq7 ch7 hl7 hs7 m7 hFF h6d h6 m6 f6 hXL hl6 hg0 HF6 HM6 HXL H6 HL6
            go_wp2_with fail
            go_region
            all_goals
              go_wp2_with fail
              go_roundw
              case rel => exact ⟨Lb, ⟨b ++ hb0, P6⟩, _, up6, LP6, nb2, rfl, HNB2, HLL, HJL2, HS7, Lib.hid ⟨MM.out, HFR.out⟩, HXF2, HYL⟩
              case measure => exact HRL.out
          · have hq16' : ¬ (q : Int) < 16384 := by omega
            obtain ⟨W6, hW6⟩ : ∃ W6, W6 = w2 := ⟨_, rfl⟩
            obtain ⟨up6, hup6⟩ : ∃ u, u = Value.slice ap nL cp := ⟨_, rfl⟩
            obtain ⟨P6, hP6⟩ : ∃ P, P = Y.P := ⟨_, rfl⟩
            obtain ⟨LP6, hLP6⟩ : ∃ l, l = LP := ⟨_, rfl⟩
            have h6 : DtM g (.slice (some ⟨gv, 0, none⟩) q c) up6 base ⟨b, P6⟩ LP6 W6 := by rw [hup6, hP6, hLP6, hW6, HB.out]; exact h2
            have m6 : Mod (Foot4 g (.slice (some ⟨gv, 0, none⟩) q c) (.slice ap nL cp)) wr W6 := by rw [hW6]; exact Mod.below HB2.out
            have f6 : ∀ k, up6.ownBlock = some k → Foot4 g (.slice (some ⟨gv, 0, none⟩) q c) (.slice ap nL cp) k ∨ wr.heap.size ≤ k := fun k hk => by
              rw [hup6] at hk
              exact .inl (.inr (.inr hk))
            have hXL : nameW (x :: Lb) Y = nameW Lb ⟨b ++ hb0, P6⟩ := by
              conv => lhs; unfold nameW
              rw [← HN.out, HPN.out]
              simp only
              rw [HQY.out, if_neg hq16, hP6, HB.out, HHB.out]
            have hl6 : LP6.length ≤ q := by rw [hLP6]; have := HNL.out; omega
            have HW6 := Lib.hid hW6
            clear hW6 hP6 hLP6 HLK h2 hln
            go_wp2_with fail
            rw [← HW6.out]
            clear HW6 e0 e1 fr2 fr3
            clear hup6
            have HXL := Lib.hid hXL
            have HM6 := Lib.hid m6
            have HF6 := Lib.hid f6
            have H6 := Lib.hid h6
            have HL6 := Lib.hid hl6
            have h6d := h6.drew
            obtain ⟨d0, d1, d2, d3⟩ := h6.cells
            obtain ⟨v7, w7, hr7, o7, g7, f7, n7⟩ := run_appSF 29 h6d.row h6d.nn hb0 (by show b.length + hb0.length ≤ 140737488355328; have := HYY.out; have := HJN.out; have := HQ.out; rw [HBL.out]; omega) h6d.big
            have ap := appSv_of hr7
            have hg0 := g7.block g (h6d.lt (.inl rfl)) (fun e => h6d.gv e.symm)
            have e0 := (World.cell?_of_block (a := ⟨g, 0, none⟩) hg0).trans h6d.cells.1
            have e2 := (World.frozen?_of_block (a := ⟨g, 0, none⟩) hg0).trans h6d.cells.2.2.1
            obtain ⟨gv7, k7, hv7, -⟩ := OwnR.slice_form o7 n7
            obtain ⟨q7, hq7⟩ : ∃ q7, q7 = (b ++ hb0).length := ⟨_, rfl⟩
            rw [← hq7] at hv7
            have ch7 := (CH.start h6d.row h6d.nn h6d.big).app (k := 0) o7 g7 f7 n7
            have hl7 : LP6.length < (b ++ hb0).length := by rw [List.length_append, HBL.out, ← HQ.out]; omega
            have hs7 := h6d.storeC ch7 (Nat.le_of_lt hl7)
            have m7 : Mod (Foot4 g (.slice (some ⟨gv, 0, none⟩) q c) up6) W6 (w7.setCell ⟨g, 0, none⟩ v7) := Mod.store ((Mod.below (Below.drew (Below.refl _ _))).trans (ch7.md.wide (S' := Foot4 g (.slice (some ⟨gv, 0, none⟩) q c) up6) (fun i e => .inr (.inl e))) (fun i e => .inl e)) _ _ (.inl (.inl rfl))
            have hFF : ∀ k, Foot4 g (.slice (some ⟨gv, 0, none⟩) q c) up6 k → Foot4 g v vp k ∨ w.heap.size ≤ k := fun k hk => by
              rcases hk with e | e | e
              · exact .inl (.inl e)
              · exact HM.out.2 k (.inl e)
              · rcases HF6.out k e with e | e
                · rcases e with e | e | e
                  · exact .inl (.inl e)
                  · exact HM.out.2 k (.inl e)
                  · exact HM.out.2 k (.inr e)
                · exact .inr (Nat.le_trans HM.out.1.size e)
            have HS7 := Lib.hid (And.intro hs7 hl7)
            have MM := Lib.hid ((HM.out.1.trans HM6.out (fun i hi => by
              rcases hi with e | e | e
              · exact .inl (.inl e)
              · exact HM.out.2 i (.inl e)
              · exact HM.out.2 i (.inr e))).trans m7 hFF)
            have HFR : Hid (∀ k, (v7.ownBlock = some k ∨ up6.ownBlock = some k) → Foot4 g v vp k ∨ w.heap.size ≤ k) := Lib.hid (fun k hk => by
              rcases hk with e | e
              · rcases ch7.fr with f | f
                · exact hFF k (.inr (.inl (by rw [← f]; exact e)))
                · have h1 := f k e
                  have h2 : w.heap.size ≤ W6.heap.size := (HM.out.1.trans HM6.out (fun i hi => by
                    rcases hi with e | e | e
                    · exact .inl (.inl e)
                    · exact HM.out.2 i (.inl e)
                    · exact HM.out.2 i (.inr e))).size
                  exact .inr (Nat.le_trans h2 h1)
              · exact hFF k (.inr (.inr e)))
            have HXF2 : Hid (XF = nameW Lb ⟨b ++ hb0, P6⟩) := Lib.hid (by rw [HX.out, HXL.out])
            have HLL : Hid (∀ y ∈ Lb, Lab y) := Lib.hid (fun y hy => HLa.out y (by simp [hy]))
            have HJL2 : Hid ((join Lb).length ≤ 255) := Lib.hid (by have := HJ.out; have := HJN.out; rw [← HNB2.out]; omega)
            have HYL : Hid ((b ++ hb0).length + (join Lb).length ≤ 30000255) := Lib.hid (by have := HYY.out; have := HJN.out; rw [List.length_append, HBL.out, ← HQ.out, ← HNB2.out]; omega)
            have HRL : Hid (strLen (.string (bs nb2)) < strLen (.string (bs nb))) := Lib.hid (by
              show (bs nb2).size < (bs nb).size
              rw [bs_size, bs_size, HN.out, HJN.out]
              omega)
            rw [hv7] at ap HS7 HFR
            subst hv7
            clear hr7 o7 g7 f7 n7 hq7 ch7 hl7 hs7 m7 hFF h6d h6 m6 f6 hXL hl6 hg0 HF6 HM6 HXL H6 HL6
            go_wp2_with fail
            go_region
            all_goals
              go_wp2_with fail
              go_roundw
              case rel => exact ⟨Lb, ⟨b ++ hb0, P6⟩, _, up6, LP6, nb2, rfl, HNB2, HLL, HJL2, HS7, Lib.hid ⟨MM.out, HFR.out⟩, HXF2, HYL⟩
              case measure => exact HRL.out
end Go.Proofs.YtknpkifhkefikaaDoor
namespace Go.Proofs.YtknpkifhkefikaaDoor
open Go.RowKit
set_option linter.unusedVariables false
set_option maxRecDepth 100000

set_option maxHeartbeats 4000000 in
set_option maxRecDepth 100000 in
theorem rNamesN_any (t : Int) (A : Option Addr) (l : Bs) (c : Nat) (w : World) (hS : Bys w A l) (hc : l.length ≤ c) (hcm : c ≤ 9223372036854775807) : Calls Tryd.prog 77 #[.int .i64 t, .slice A l.length c] w fun e w' => ∃ A c, e = .returned (.slice A (namesD t l).length c) ∧ Strs w' A (namesD t l) ∧ (namesD t l).length ≤ c ∧ Below w.heap.size w w' ∧ ∀ p, A = some p → w.heap.size ≤ p.block := by
  have C := rCanD_any t A l c w hS hc hcm
  cases hcan : canD t l with
  | false =>
    rw [hcan] at C
    have C := Lib.hid C
    have HN := Lib.hid (namesD_no hcan)
    clear hcan
    go_enter Tryd.func77, Tryd.ntmps77
    go_wp2_with fail
    refine C.out.mono ?_
    rintro e w1 ⟨rfl, b1⟩
    go_wp2_with fail
    go_ret
    rw [HN.out]
    exact ⟨none, 0, rfl, fun h => absurd h (by simp), by simp, b1, fun p hp => by cases hp⟩
  | true =>
    rw [hcan] at C
    have C := Lib.hid C
    have hin := namesD_in hcan
    by_cases en : t = 2 ∨ t = 5 ∨ t = 12
    · rw [if_pos en] at hin
      have HI := Lib.hid hin
      have hst := Lib.hid (fun W (hW : Bys W A l) => string_bys A l c W hW)
      clear hin hcan
      rcases en with rfl | rfl | rfl
      all_goals
        go_enter Tryd.func77, Tryd.ntmps77
        go_wp2_with fail
        refine C.out.mono ?_
        rintro e w1 ⟨rfl, b1⟩
        have hs := hst.out w1 (hS.on b1)
        go_wp2_with fail
        go_ret
        rw [HI.out]
        exact ⟨_, _, rfl, strs_one, by simp, Below.alloc b1 b1.size _, fun p hp => by injection hp with hp; subst hp; exact b1.size⟩
    rw [if_neg en] at hin
    have T2 : (t == 2) = false := by simp; omega
    have T5 : (t == 5) = false := by simp; omega
    have T12 : (t == 12) = false := by simp; omega
    clear en
    by_cases e15 : t = 15
    · subst e15
      rw [if_pos rfl] at hin
      have h3 := canD_mx hcan
      have HI := Lib.hid hin
      obtain ⟨B, r2, S2, _⟩ := slice_bys A l c 2 2 w hS (by omega) hc rfl
      have hst := Lib.hid (fun W (hW : Bys W B (l.drop 2)) => string_bys B (l.drop 2) (c - 2) W hW)
      obtain ⟨q, hq⟩ : ∃ q, q = l.drop 2 := ⟨_, rfl⟩
      rw [← hq] at r2 hst HI S2
      clear hin hcan T2 T5 T12 hq h3
      go_enter Tryd.func77, Tryd.ntmps77
      go_wp2_with fail
      refine C.out.mono ?_
      rintro e w1 ⟨rfl, b1⟩
      have hs := hst.out w1 (S2.on b1)
      clear S2 hst
      generalize q.length = z at *
      go_wp2_with fail
      go_ret
      rw [HI.out]
      exact ⟨_, _, rfl, strs_one, by simp, Below.alloc b1 b1.size _, fun p hp => by injection hp with hp; subst hp; exact b1.size⟩
    rw [if_neg e15] at hin
    have T15 : (t == 15) = false := by simp [e15]
    clear e15
    by_cases e6 : t = 6
    · subst e6
      rw [if_pos rfl] at hin
      obtain ⟨s, hs⟩ := canD_soa hcan
      have R := Lib.hid (fun W (hW : Bys W A l) => rSOA_any A l c W hW hc hcm)
      unfold SoaPost at R
      rw [hs] at R hin
      simp only at hin
      have HI := Lib.hid hin
      clear hin hcan T2 T5 T12 T15
      go_enter Tryd.func77, Tryd.ntmps77
      go_wp2_with fail
      refine C.out.mono ?_
      rintro e w1 ⟨rfl, b1⟩
      go_wp2_with fail
      refine (R.out _ (hS.on b1)).mono ?_
      rintro e w2 ⟨rfl, b2⟩
      have b3 : Below w.heap.size w w2 := Below.trans b1 (b2.mono b1.size)
      clear b1 b2 R
      have hrow0 := row_new (w := w2) (k := w2.heap.size) (.cells (soaC none) 148 (0, 0)) rfl
      have bw : Below w.heap.size w (w2.alloc (.cells (soaC none) 148)) := Below.alloc b3 b3.size _
      rw [soaC_none] at hrow0 bw
      have hrow2 := setRow_heap _ _ _ (soaC (some s)) _ _ hrow0
      have z0 := (cell_of_row _ w2.heap.size 0 _ _ _ hrow2).trans (show (soaC (some s))[0]? = some (.string (bs s.m)) from rfl)
      have z1 := (cell_of_row _ w2.heap.size 1 _ _ _ hrow2).trans (show (soaC (some s))[1]? = some (.string (bs s.r)) from rfl)
      go_wp2_with (first
        | (refine wpList_store_row rfl 148 (.tmp 5) (.tmp 30) rfl w2.heap.size (soaC (some s)) rfl rfl 148 _ hrow0 (soa_info (soaC_size _)) (by rw [soaC_size]; rfl) (soaC_one _) ?_)
        | fail)
      go_ret
      rw [HI.out]
      exact ⟨_, _, rfl, strs_two (by simp), by simp, Below.alloc (Below.setRow bw b3.size _) (by rw [size_setRow]; exact bw.size) _, fun p hp => by injection hp with hp; subst hp; have := b3.size; first | (show w.heap.size ≤ w2.heap.size + 1; omega) | (simp; omega)⟩
    rw [if_neg e6] at hin
    have T6 : (t == 6) = false := by simp [e6]
    have HI := Lib.hid hin
    clear e6 hin
    go_enter Tryd.func77, Tryd.ntmps77
    go_wp2_with fail
    refine C.out.mono ?_
    rintro e w1 ⟨rfl, b1⟩
    go_wp2_with fail
    go_ret
    rw [HI.out]
    exact ⟨none, 0, rfl, fun h => absurd h (by simp), by simp, b1, fun p hp => by cases hp⟩
end Go.Proofs.YtknpkifhkefikaaDoor
namespace Go.Proofs.YtknpkifhkefikaaDoor
open Go.RowKit Go.Maps
set_option linter.unusedVariables false
set_option maxRecDepth 100000

theorem dNm_any (n : Bs) {g base : Nat} {v vp : Value} {X : Wt} {L : List Plc} (w : World) (h : DtM g v vp base X L w) (hLX : L.length < X.b.length) (hc : can n = true) (hl : X.b.length ≤ 30000000) : Calls Tryd.prog 36 #[.pointer (some ⟨g, 0, none⟩), .string (bs n)] w fun e w' => e = .returned (.tuple #[]) ∧ DrP g v vp base (nmW n X) w w' := by
  obtain ⟨h1, _, e, hL⟩ := can_out hc
  have := dName_any (labels n) w h hLX hL (by rw [← e]; exact h1) hl
  rw [← e] at this
  exact this
/-- Between two steps, with a box of C at kb. -/
structure RcS (g : Nat) (v vp : Value) (base : Nat) (w : World) (kb : Nat) (C : Array Value) (T : TypeId) (X' : Wt) (W : World) (v' vp' : Value) (L' : List Plc) : Prop where
  at' : DtM g v' vp' base X' L' W
  le : L'.length < X'.b.length
  mod : Mod (Foot4 g v vp) w W
  fr : ∀ k, (v'.ownBlock = some k ∨ vp'.ownBlock = some k) → Foot4 g v vp k ∨ w.heap.size ≤ k
  nb : v'.ownBlock ≠ some kb ∧ vp'.ownBlock ≠ some kb ∧ g ≠ kb
  row : W.heap[kb]? = some (.cells C T (0, 0))
section
variable {g base kb : Nat} {v vp v' vp' : Value} {w W W' : World} {C : Array Value} {T : TypeId} {X' X'' : Wt} {L' : List Plc}
theorem RcS.not (h : RcS g v vp base w kb C T X' W v' vp' L') : ¬ Foot4 g v' vp' kb := fun e => by
  rcases e with e | e | e
  · exact h.nb.2.2 e.symm
  · exact h.nb.1 e
  · exact h.nb.2.1 e
theorem RcS.next (h : RcS g v vp base w kb C T X' W v' vp' L') (d : DrP g v' vp' base X'' W W') : ∃ v'' vp'' L'', RcS g v vp base w kb C T X'' W' v'' vp'' L'' := by
  obtain ⟨v'', vp'', L'', h1, h2, h3, h4⟩ := d
  have hlt := (Array.getElem?_eq_some_iff.1 h.row).1
  have hF : ∀ k, Foot4 g v' vp' k → Foot4 g v vp k ∨ w.heap.size ≤ k := fun k hk => by
    rcases hk with e | e | e
    · exact .inl (.inl e)
    · exact h.fr k (.inl e)
    · exact h.fr k (.inr e)
  have nb : ∀ k, (v''.ownBlock = some k ∨ vp''.ownBlock = some k) → k ≠ kb := fun k hk e => by
    subst e
    rcases h4 k hk with e | e
    · exact h.not e
    · omega
  refine ⟨v'', vp'', L'', h1, h2, h.mod.trans h3 hF, fun k hk => ?_, ⟨fun e => nb _ (.inl e) rfl, fun e => nb _ (.inr e) rfl, h.nb.2.2⟩, (h3.block kb hlt h.not).trans h.row⟩
  rcases h4 k hk with e | e
  · exact hF k e
  · exact .inr (Nat.le_trans h.mod.size e)
theorem RcS.below (h : RcS g v vp base w kb C T X' W v' vp' L') (k : Below W.heap.size W W') : RcS g v vp base w kb C T X' W' v' vp' L' :=
  ⟨h.at'.below k, h.le, h.mod.then k, h.fr, h.nb, (k.block kb (Array.getElem?_eq_some_iff.1 h.row).1).trans h.row⟩
theorem RcS.shut (h : RcS g v vp base w kb C T X' W v' vp' L') : DrP g v vp base X' w W := ⟨v', vp', L', h.at', h.le, h.mod, h.fr⟩
theorem RcS.out (h : RcS g v vp base w kb C T X' W v' vp' L') (hw : ∀ k, Foot4 g v vp k → base ≤ k) (hb : base ≤ w.heap.size) : Below base w W := Mod.out (Below.refl _ _) h.mod hb hw
theorem RcS.cell (h : RcS g v vp base w kb C T X' W v' vp' L') {i : Nat} {x : Value} (hx : C[i]? = some x) : W.cell? ⟨kb, i, none⟩ = some x := (cell_of_row _ _ i _ _ _ h.row).trans hx
end
/-- The start: the box is the world's last block. -/
theorem RcS.start {g base : Nat} {v vp : Value} {X : Wt} {L : List Plc} {w : World} (h : DtM g v vp base X L w) (hLX : L.length < X.b.length) (C : Array Value) (T : TypeId) : RcS g v vp base w w.heap.size C T X (w.alloc (.cells C T)) v vp L := by
  have B0 : Below w.heap.size w (w.alloc (.cells C T)) := Below.alloc (Below.refl _ _) (Nat.le_refl _) _
  refine ⟨h.below B0, hLX, Mod.below B0, fun k hk => .inl (.inr hk), ⟨fun e => ?_, fun e => ?_, fun e => ?_⟩, row_new _ rfl⟩
  · have := h.lt (.inr (.inl e)); omega
  · have := h.lt (.inr (.inr e)); omega
  · have := h.lt (.inl rfl); omega
/-- A byte of the writer's is another one now. -/
theorem DtM.put1 {g base gv n c : Nat} {vp : Value} {X : Wt} {L : List Plc} {w : World} (h : DtM g (.slice (some ⟨gv, 0, none⟩) n c) vp base X L w) (j : Nat) (x : UInt8) : DtM g (.slice (some ⟨gv, 0, none⟩) n c) vp base ⟨X.b.set j x, X.P⟩ L (w.setCell ⟨gv, j, none⟩ (.int .u8 x.toNat)) := by
  have hn : n = X.b.length := by
    obtain ⟨_, _, e, _⟩ := h.form
    injection e
  subst hn
  have g1 : g ≠ gv := fun e => h.gv (by rw [e]; rfl)
  have hr := OwnR.set (n := X.b.length) (c := c) h.row j x
  refine ⟨row_other _ h.head g1, hr, h.nn, ?_, h.eq, by rw [List.length_set]; exact h.len, h.sm, h.bg⟩
  refine ⟨h.pl.1, ?_⟩
  rcases h.pl.2 with e | ⟨gp, c', cur, e, hb, hh, r⟩
  · exact .inl e
  · exact .inr ⟨gp, c', cur, e, hb, row_other _ hh (fun e3 => h.vv (k := gv) rfl (by rw [e, e3]; rfl)), r⟩
theorem RcS.put1 {g base kb gv n c : Nat} {v vp vp' : Value} {w W : World} {C : Array Value} {T : TypeId} {X' : Wt} {L' : List Plc} (h : RcS g v vp base w kb C T X' W (.slice (some ⟨gv, 0, none⟩) n c) vp' L') (j : Nat) (x : UInt8) : RcS g v vp base w kb C T ⟨X'.b.set j x, X'.P⟩ (W.setCell ⟨gv, j, none⟩ (.int .u8 x.toNat)) (.slice (some ⟨gv, 0, none⟩) n c) vp' L' := by
  refine ⟨h.at'.put1 j x, by rw [List.length_set]; exact h.le, Mod.store h.mod _ _ ?_, h.fr, h.nb, row_other _ h.row (fun e => h.nb.1 (by rw [e]; rfl))⟩
  exact h.fr gv (.inl rfl)
theorem RcS.drew {g base kb : Nat} {v vp v' vp' : Value} {w W : World} {C : Array Value} {T : TypeId} {X' : Wt} {L' : List Plc} (h : RcS g v vp base w kb C T X' W v' vp' L') : RcS g v vp base w kb C T X' W.drew v' vp' L' := h.below (Below.drew (Below.refl _ _))
/-- An append of bytes in a region that draws, stored over the writer's bytes: what the walk needs, what it leaves. -/
theorem dApp_step {g base : Nat} {v vp : Value} {X : Wt} {L : List Plc} {w : World} (h : DtM g v vp base X L w) (hLX : L.length < X.b.length) (A : Option Addr) (c k : Nat) (y : Bs) (hk : k = y.length) (hy : Bys w A y) (hA : A = none → c = 0) (hl : X.b.length + y.length ≤ 40000000) :
    ∃ v' w', appB v (.slice A k c) 29 w.drew = .ok (.value v') w' ∧ (w'.cell? ⟨g, 0, none⟩ = some v ∧ w'.frozen? ⟨g, 0, none⟩ = false) ∧ (∃ gv c', v' = .slice (some ⟨gv, 0, none⟩) (X.b ++ y).length c') ∧ DrP g v vp base ⟨X.b ++ y, X.P⟩ w (w'.setCell ⟨g, 0, none⟩ v') := by
  have h2d := h.drew
  obtain ⟨v3, w3, hr3, o3, g3, f3, n3⟩ := run_appRF 29 h2d.row h2d.nn A c k y hk (hy.on (Below.drew (Below.refl _ _))) hA (by omega) h2d.big
  obtain ⟨gv3, k3, hv3, -⟩ := OwnR.slice_form o3 n3
  have ch := (CH.start h2d.row h2d.nn h2d.big).app (k := 0) o3 g3 f3 n3
  have hrow := ch.cell h2d.head h2d.gv
  refine ⟨v3, w3, appB_of hr3, ⟨(cell_of_row _ _ 0 _ _ _ hrow).trans rfl, frozen_of_row _ _ _ _ _ hrow⟩, ⟨gv3, k3, hv3⟩, ?_⟩
  exact DrP.trans (Mod.below (Below.drew (Below.refl _ _))) (fun k hk => .inl (.inr hk)) (DrP.chain h2d ch (by rw [List.length_append]; omega))
end Go.Proofs.YtknpkifhkefikaaDoor
