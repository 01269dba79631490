/-
  The landed writer: a name.
-/
import Derived.Test.YtknpkifhkefikaaDoorWrC
import Derived.Test.YtknpkifhkefikaaDoorHdB
import Derived.StillTailTactics
namespace Go.Proofs.YtknpkifhkefikaaDoor
open Go.RowKit Go.Maps
set_option linter.unusedVariables false
set_option maxRecDepth 100000
attribute [local go_sem ↓] exec_appSv exec_appBw

theorem foot3_of {g m B : Nat} {u v : Value} {i : Nat} (hf : u.ownBlock = v.ownBlock ∨ ∀ k, u.ownBlock = some k → B ≤ k) (hi : Foot3 g m u i) : Foot3 g m v i ∨ B ≤ i := by
  rcases hi with rfl | rfl | e
  · exact .inl (.inl rfl)
  · exact .inl (.inr (.inl rfl))
  · rcases hf with e2 | e2
    · exact .inl (.inr (.inr (e2 ▸ e)))
    · exact .inr (e2 i e)
theorem fresh_of {B B' : Nat} {u v v3 : Value} (hf : u.ownBlock = v.ownBlock ∨ ∀ k, u.ownBlock = some k → B ≤ k) (hB : B ≤ B') (h3 : v3.ownBlock = u.ownBlock ∨ ∀ k, v3.ownBlock = some k → B' ≤ k) : v3.ownBlock = v.ownBlock ∨ ∀ k, v3.ownBlock = some k → B ≤ k := by
  rcases h3 with e | e
  · rw [e]; exact hf
  · exact .inr fun k hk => Nat.le_trans hB (e k hk)
def strLen (v : Value) : Nat := match v with | .string s => s.size | _ => 0
theorem or_place (p : Nat) (h : p < 16384) : bits .or .i64 49152 (p : Int) = ((49152 + p : Nat) : Int) := by
  have := or_join 14 (by decide) 49152 p (by omega) (by omega) (by decide) (by omega) (by omega)
  rw [this]
  omega
/-- What a name that begins with a label tells. -/
structure HeadOf (nb : Bs) (x : Bs) (r : Bs) : Prop where
  eq : nb = UInt8.ofNat x.length :: (x ++ r)
  lab : Lab x
theorem HeadOf.ix {nb x r : Bs} (h : HeadOf nb x r) (W : World) : (Instr.index 9 (.string (bs nb)) (.int .i64 0)).run Tryd.prog W = .ok (.int .u8 x.length) W := by
  have hn := toNat_len h.lab
  have e := h.eq
  subst e
  rw [run_index_string _ _ _ _ _ Tryd.underlying9, dif_pos (by rw [bs_size]; simp; omega)]
  exact congrArg (fun z : Nat => Result.ok (Value.int .u8 (z : Int)) W) hn
theorem HeadOf.hd {nb x r : Bs} (h : HeadOf nb x r) (W : World) : (Instr.slice 9 (.string (bs nb)) none (some (.int .i64 (1 + (x.length : Int)))) none).run Tryd.prog W = .ok (.string (bs (UInt8.ofNat x.length :: x))) W := by
  have e := h.eq
  have hl : nb.length = 1 + x.length + r.length := by rw [e]; simp; omega
  rw [run_slice_string_h W 9 _ Tryd.underlying9 _ _ (by omega) (by rw [bs_size]; omega), bs_extract, Nat.sub_zero, List.drop_zero]
  rw [show (1 + (x.length : Int)).toNat = (UInt8.ofNat x.length :: x).length by simp; omega, e, show UInt8.ofNat x.length :: (x ++ r) = (UInt8.ofNat x.length :: x) ++ r from rfl, List.take_left]
theorem HeadOf.tl {nb x r : Bs} (h : HeadOf nb x r) (W : World) : (Instr.slice 9 (.string (bs nb)) (some (.int .i64 (1 + (x.length : Int)))) none none).run Tryd.prog W = .ok (.string (bs r)) W := by
  have e := h.eq
  have hl : nb.length = 1 + x.length + r.length := by rw [e]; simp; omega
  rw [run_slice_string_l W 9 _ Tryd.underlying9 _ _ (by omega) (by rw [bs_size]; omega), bs_extract, List.take_of_length_le (by rw [List.length_drop, bs_size]; exact Nat.le_refl _)]
  rw [show (1 + (x.length : Int)).toNat = (UInt8.ofNat x.length :: x).length by simp; omega, e, show UInt8.ofNat x.length :: (x ++ r) = (UInt8.ofNat x.length :: x) ++ r from rfl, List.drop_left]
set_option maxHeartbeats 2000000 in
set_option maxRecDepth 100000 in
theorem name_any (L0 : List Bs) {g m N base : Nat} {v : Value} {X : Wt} (w : World) (h : WtM g m N v base X w) (hNX : N ≤ X.b.length) (hL : ∀ x ∈ L0, Lab x) (hj : (join L0).length ≤ 255) (hl : X.b.length ≤ 900000) : Calls Tryd.prog 72 #[.pointer (some ⟨g, 0, none⟩), .string (bs (join L0))] w fun e w' => e = .returned (.tuple #[]) ∧ WrP g m v base (nameW L0 X) w w' := by
  have H := Lib.hid (⟨h, hNX⟩ : WtM g m N v base X w ∧ N ≤ X.b.length)
  have HL := Lib.hid hL
  have HJ := Lib.hid hj
  obtain ⟨n0, hn0⟩ : ∃ n, n = join L0 := ⟨_, rfl⟩
  rw [← hn0]
  have HN0 := Lib.hid hn0
  obtain ⟨XF, hXF⟩ : ∃ XF, XF = nameW L0 X := ⟨_, rfl⟩
  rw [← hXF]
  have HXF := Lib.hid hXF
  have HXL := Lib.hid hl
  clear hNX h hL hj hn0 hXF hl
  go_enter Tryd.func72, Tryd.ntmps72
  go_wp2_with fail
  go_loopw [1] (fun v1 wr => ∃ (L : List Bs) (Y : Wt) (u : Value) (N' : Nat) (nb : Bs), v1 = .string (bs nb) ∧ Hid (nb = join L) ∧ Hid (∀ x ∈ L, Lab x) ∧ Hid ((join L).length ≤ 255) ∧ Hid (WtM g m N' u base Y wr ∧ N' ≤ Y.b.length) ∧ Hid (Mod (Foot3 g m v) w wr ∧ (u.ownBlock = v.ownBlock ∨ ∀ k, u.ownBlock = some k → w.heap.size ≤ k)) ∧ Hid (XF = nameW L Y) ∧ Hid (Y.b.length + (join L).length ≤ 900255)) (fun v1 _ => strLen v1)
  case atStart => exact ⟨L0, X, v, N, n0, rfl, HN0, HL, HJ, H, Lib.hid ⟨Mod.refl _ _, .inl rfl⟩, HXF, Lib.hid (by have := HXL.out; have := HJ.out; omega)⟩
  case round =>
    obtain ⟨L, Y, u, N', nb, rfl, HN, HLa, HJ, H, HM, HX, HY⟩ := hrel
    rename World => wr
    have HNY := Lib.hid H.out.2
    replace H := Lib.hid H.out.1
    cases L with
    | nil =>
      have e0 : nb = [0] := HN.out
      subst e0
      clear HN
      obtain ⟨c0, c1, fr⟩ := H.out.cells
      obtain ⟨gv, c, rfl, hb, -⟩ := H.out.form
      obtain ⟨b, hbb⟩ : ∃ b, b = Y.b := ⟨_, rfl⟩
      obtain ⟨q, hq⟩ : ∃ q, q = b.length := ⟨_, rfl⟩
      have hrow := H.out.row
      have hH := H.out
      rw [← hbb, ← hq] at c0 hrow hH HM
      have HH := Lib.hid hH
      have HROW := Lib.hid hrow
      have HBIG := Lib.hid hH.big
      have HX2 : Hid (XF = ⟨b ++ [0], Y.P⟩) := Lib.hid (by rw [HX.out, hbb]; rfl)
      have HB := Lib.hid hbb
      have HQ := Lib.hid hq
      have HLN : Hid (b.length + [(0 : UInt8)].length ≤ 140737488355328) := Lib.hid (by have := HY.out; rw [← hbb] at this; simp [join, enc] at this ⊢; omega)
      clear hbb hq hrow hH HX H HY HJ HLa
      go_wp2_with (first
        | (at_builtin; refine wpList_appSF rfl (.tmp 61) (.const (.string ⟨#[0]⟩)) rfl base _ b rfl HROW.out HH.out.nn [0] rfl HLN.out HBIG.out ?_)
        | fail)
      intro v1 w1 o1 g1 fr1 nn1
      obtain ⟨gv1, k1, hv1, -⟩ := OwnR.slice_form o1 nn1
      obtain ⟨d0, d1⟩ := HH.out.cellG g1
      obtain ⟨q1, hq1⟩ : ∃ q1, q1 = (b ++ [(0 : UInt8)]).length := ⟨_, rfl⟩
      rw [← hq1] at hv1
      have HF := Lib.hid (WrP.trans HM.out.1 HM.out.2 (WrP.app (b' := b ++ [0]) HH.out HNY.out (Below.refl _ _) g1 o1 fr1 nn1 (by rw [← HB.out]; simp)))
      rw [← HX2.out] at HF
      clear o1 g1 fr1 nn1 hq1 HX2 HROW HBIG HLN
      subst hv1
      go_wp2_with fail
      go_end0
      exact ⟨rfl, HF.out⟩
    | cons x L =>
      have hx : Lab x := HLa.out x (by simp)
      have hd : HeadOf nb x (join L) := ⟨by rw [HN.out]; simp [join, enc], hx⟩
      have hix := hd.ix
      have hsh := hd.hd
      have hst := hd.tl
      have hne : (nb == [0]) = false := by
        rw [beq_eq_false_iff_ne]
        intro e
        have := congrArg List.length (hd.eq.symm.trans e)
        have h1 := hx.1
        simp [join] at this
      have hnl : nb.length ≤ 255 := by rw [HN.out]; exact HJ.out
      have hjl : (join (x :: L)).length = 1 + x.length + (join L).length := by simp [join, enc]; omega
      obtain ⟨c0, c1, fr⟩ := H.out.cells
      have lk := H.out.look nb (by unfold maxLen; omega)
      obtain ⟨gv, c, rfl, hb, -⟩ := H.out.form
      obtain ⟨b, hbb⟩ : ∃ b, b = Y.b := ⟨_, rfl⟩
      obtain ⟨q, hq⟩ : ∃ q, q = b.length := ⟨_, rfl⟩
      have hH := H.out
      rw [← hbb, ← hq] at c0 hH HM
      have HH := Lib.hid hH
      have HB := Lib.hid hbb
      have HQ := Lib.hid hq
      have hy := HY.out
      rw [← hbb, ← hq] at hy
      have hqy : Y.b.length = q := by rw [hq, hbb]
      cases hp : Y.P nb with
      | some p =>
        rw [hp] at lk
        have hp2 : p < 16384 := hH.ok nb p hp
        have hor := or_place p hp2
        have HX2 : Hid (XF = twW (49152 + p) Y) := Lib.hid (by rw [HX.out]; unfold nameW; rw [← HN.out, hp]; rfl)
        have T := Lib.hid (two_any (49152 + p) wr hH HNY.out (by omega))
        rw [← HX2.out] at T
        clear hbb hq hH H HX HX2 hp hp2 hqy hy HY hjl HJ HLa HL hix hsh hst hd hx HN hnl
        have lk2 : (Instr.lookup 65 (.map (some m)) (.string (bs nb)) true).run Tryd.prog wr = .ok (.tuple #[.int .i64 (p : Int), .bool true]) wr := lk
        clear lk
        go_wp2_with fail
        refine T.out.mono ?_
        rintro e w1 ⟨rfl, hw⟩
        have HF := Lib.hid (WrP.trans HM.out.1 HM.out.2 hw)
        clear hw T
        go_wp2_with fail
        refine bodyPost_ret (results_none rfl _ _ _) rfl ?_
        exact ⟨rfl, HF.out⟩
      | none =>
        rw [hp] at lk
        have lk2 : (Instr.lookup 65 (.map (some m)) (.string (bs nb)) true).run Tryd.prog wr = .ok (.tuple #[.int .i64 0, .bool false]) wr := lk
        clear lk
        have hx63 := hx.2
        obtain ⟨hb0, hhb⟩ : ∃ z, z = UInt8.ofNat x.length :: x := ⟨_, rfl⟩
        rw [← hhb] at hsh
        have HBL : Hid (hb0.length = 1 + x.length) := Lib.hid (by rw [hhb]; simp; omega)
        have HHB := Lib.hid hhb
        obtain ⟨xl, hxl⟩ : ∃ k, k = x.length := ⟨_, rfl⟩
        rw [← hxl] at hix hsh hst hx63 hjl HBL
        have HI1 : IntKind.i64.wrap (xl : Int) = (xl : Int) := IntWalk.i64_in _ (by omega)
        have HI2 : IntKind.i64.wrap (1 + (xl : Int)) = 1 + (xl : Int) := IntWalk.i64_in _ (by omega)
        obtain ⟨nb2, hnb2⟩ : ∃ k, k = join L := ⟨_, rfl⟩
        rw [← hnb2] at hst
        have HNB2 := Lib.hid hnb2
        clear hhb hxl hnb2
        by_cases hlt : q < 16384
        · have hlt' : (q : Int) < 16384 := by omega
          have hnq : N' ≤ q := by have := HNY.out; rw [← hbb, ← hq] at this; exact this
          have hHd := hH.drew
          obtain ⟨w2, hmu, hgm, h2a⟩ := hHd.put (by omega) nb (by unfold maxLen; omega) q hlt
          have h2 : WtM g m (N' + 1) (.slice (some ⟨gv, 0, none⟩) q c) base ⟨b, putP Y.P nb q⟩ w2 := by rw [hbb]; exact h2a
          obtain ⟨P2, hP2⟩ : ∃ P, P = putP Y.P nb q := ⟨_, rfl⟩
          rw [← hP2] at h2
          obtain ⟨N2, hN2⟩ : ∃ N2, N2 = N' + 1 := ⟨_, rfl⟩
          rw [← hN2] at h2
          have m2 : Mod (Foot3 g m (.slice (some ⟨gv, 0, none⟩) q c)) wr w2 := (Mod.below (Below.drew (Below.refl _ _))).trans (Mod.grown (S := Foot3 g m (.slice (some ⟨gv, 0, none⟩) q c)) hgm (fun k hk => by injection hk with hk; exact .inr (.inl hk.symm))) (fun i e => .inl e)
          have hXL : nameW (x :: L) Y = nameW L ⟨b ++ UInt8.ofNat x.length :: x, P2⟩ := by
            conv => lhs; unfold nameW
            rw [← HN.out, hp]
            simp only
            rw [hqy, if_pos hlt, hP2, hbb]
          have hN2' : N2 ≤ q + 1 := by omega
          clear hP2 hN2 hHd hgm h2a hlt hnq
          have HJN := Lib.hid hjl
          have HYY := Lib.hid hy
          clear hbb hq hqy hy hjl hp hH
          have HH2 := Lib.hid h2
          have HXL0 := Lib.hid hXL
          have HM2 := Lib.hid m2
          clear h2 hXL m2
          go_wp2_with fail
          go_still_tail 10, (by kernel_rfl)
          change wpList _ _ _ _ _ wr.drew
          go_wp2_with fail
          have h2 := HH2.out
          have hXL := HXL0.out
          have m2 := HM2.out
          clear HH2 HXL0 HM2 hmu c0 c1 fr lk2
          obtain ⟨d0, -, d2⟩ := h2.cells
          have h2d := h2.drew
          obtain ⟨v3, w3, hr3, o3, g3, f3, n3⟩ := run_appSF 29 h2d.row h2d.nn hb0 (by have := HYY.out; have := HJN.out; rw [HBL.out, ← HQ.out]; omega) h2d.big
          have ap := appSv_of hr3
          obtain ⟨e0, e1⟩ := h2d.cellG g3
          obtain ⟨gv3, k3, hv3, -⟩ := OwnR.slice_form o3 n3
          obtain ⟨q3, hq3⟩ : ∃ q3, q3 = (b ++ hb0).length := ⟨_, rfl⟩
          rw [← hq3] at hv3
          have hs3 := WtM.store h2d g3 o3 f3 n3
          have m3 : Mod (Foot3 g m (.slice (some ⟨gv, 0, none⟩) q c)) w2 (w3.setCell ⟨g, 0, none⟩ v3) := Mod.store ((Mod.below (Below.drew (Below.refl _ _))).trans (Mod.grown (S := Foot3 g m (.slice (some ⟨gv, 0, none⟩) q c)) g3 (fun k hk => .inr (.inr hk))) (fun i e => .inl e)) _ _ (.inl (.inl rfl))
          have hfr3 : v3.ownBlock = (Value.slice (some ⟨gv, 0, none⟩) q c).ownBlock ∨ ∀ k, v3.ownBlock = some k → wr.heap.size ≤ k := by
            rcases f3 with e | e
            · exact .inl e
            · refine .inr fun k hk => ?_
              rw [e] at hk
              injection hk with hk
              have : wr.heap.size ≤ w2.heap.size := m2.size
              have : w2.drew.heap.size = w2.heap.size := rfl
              omega
          have HS3 := Lib.hid hs3
          have HM3 := Lib.hid (m2.trans m3 (fun i e => .inl e))
          have HFR3 := Lib.hid hfr3
          have HN3 : Hid (N2 ≤ (b ++ hb0).length) := Lib.hid (by rw [List.length_append, HBL.out, ← HQ.out]; have := HNY.out; rw [← HB.out, ← HQ.out] at this; omega)
          have HXL : Hid (XF = nameW L ⟨b ++ hb0, P2⟩) := Lib.hid (by rw [HX.out, hXL, HHB.out])
          have HLL : Hid (∀ x ∈ L, Lab x) := Lib.hid (fun y hy => HLa.out y (by simp [hy]))
          have HJL : Hid ((join L).length ≤ 255) := Lib.hid (by have := HJ.out; have := HJN.out; omega)
          have HYL : Hid ((b ++ hb0).length + (join L).length ≤ 900255) := Lib.hid (by have := HYY.out; have := HJN.out; rw [List.length_append, HBL.out, ← HQ.out]; omega)
          have hrl : strLen (.string (bs (join L))) < strLen (.string (bs nb)) := by
            show (bs (join L)).size < (bs nb).size
            rw [bs_size, bs_size, HN.out, HJN.out]
            omega
          have HRL := Lib.hid hrl
          rw [← HNB2.out] at HRL
          rw [hv3] at ap HS3 HFR3
          subst hv3
          clear H HX HY HJ HLa hx hd HN hnl HJN HYY h2 h2d hr3 o3 g3 f3 n3 hs3 m3 hfr3 hrl hq3 hXL m2 HL HNY
          go_wp2_with fail
          go_region
          all_goals
            go_wp2_with fail
            go_roundw
            case rel => exact ⟨L, _, _, _, nb2, rfl, HNB2, HLL, HJL, Lib.hid ⟨HS3.out, HN3.out⟩, Lib.hid ⟨HM.out.1.trans HM3.out (fun i hi => foot3_of HM.out.2 hi), fresh_of HM.out.2 HM.out.1.size HFR3.out⟩, HXL, HYL⟩
            case measure => exact HRL.out
        · have hlt' : ¬ (q : Int) < 16384 := by omega
          have hnq : N' ≤ q := by have := HNY.out; rw [← hbb, ← hq] at this; exact this
          obtain ⟨w2, hw2⟩ : ∃ w2, w2 = wr := ⟨_, rfl⟩
          have h2 : WtM g m N' (.slice (some ⟨gv, 0, none⟩) q c) base ⟨b, Y.P⟩ w2 := by rw [hbb, hw2]; exact hH
          obtain ⟨P2, hP2⟩ : ∃ P, P = Y.P := ⟨_, rfl⟩
          rw [← hP2] at h2
          obtain ⟨N2, hN2⟩ : ∃ N2, N2 = N' := ⟨_, rfl⟩
          rw [← hN2] at h2
          have m2 : Mod (Foot3 g m (.slice (some ⟨gv, 0, none⟩) q c)) wr w2 := by rw [hw2]; exact Mod.refl _ _
          have hXL : nameW (x :: L) Y = nameW L ⟨b ++ UInt8.ofNat x.length :: x, P2⟩ := by
            conv => lhs; unfold nameW
            rw [← HN.out, hp]
            simp only
            rw [hqy, if_neg (by omega), hP2, hbb]
          have hN2' : N2 ≤ q + 1 := by omega
          clear hP2 hN2 hnq
          have HJN := Lib.hid hjl
          have HYY := Lib.hid hy
          clear hbb hq hqy hy hjl hp hH
          have HH2 := Lib.hid h2
          have HXL0 := Lib.hid hXL
          have HM2 := Lib.hid m2
          have HW2 := Lib.hid hw2
          clear h2 hXL m2 hlt hw2
          go_wp2_with fail
          rw [← HW2.out]
          have h2 := HH2.out
          have hXL := HXL0.out
          have m2 := HM2.out
          clear HH2 HXL0 HM2 c0 c1 fr lk2 HW2
          obtain ⟨d0, -, d2⟩ := h2.cells
          have h2d := h2.drew
          obtain ⟨v3, w3, hr3, o3, g3, f3, n3⟩ := run_appSF 29 h2d.row h2d.nn hb0 (by have := HYY.out; have := HJN.out; rw [HBL.out, ← HQ.out]; omega) h2d.big
          have ap := appSv_of hr3
          obtain ⟨e0, e1⟩ := h2d.cellG g3
          obtain ⟨gv3, k3, hv3, -⟩ := OwnR.slice_form o3 n3
          obtain ⟨q3, hq3⟩ : ∃ q3, q3 = (b ++ hb0).length := ⟨_, rfl⟩
          rw [← hq3] at hv3
          have hs3 := WtM.store h2d g3 o3 f3 n3
          have m3 : Mod (Foot3 g m (.slice (some ⟨gv, 0, none⟩) q c)) w2 (w3.setCell ⟨g, 0, none⟩ v3) := Mod.store ((Mod.below (Below.drew (Below.refl _ _))).trans (Mod.grown (S := Foot3 g m (.slice (some ⟨gv, 0, none⟩) q c)) g3 (fun k hk => .inr (.inr hk))) (fun i e => .inl e)) _ _ (.inl (.inl rfl))
          have hfr3 : v3.ownBlock = (Value.slice (some ⟨gv, 0, none⟩) q c).ownBlock ∨ ∀ k, v3.ownBlock = some k → wr.heap.size ≤ k := by
            rcases f3 with e | e
            · exact .inl e
            · refine .inr fun k hk => ?_
              rw [e] at hk
              injection hk with hk
              have : wr.heap.size ≤ w2.heap.size := m2.size
              have : w2.drew.heap.size = w2.heap.size := rfl
              omega
          have HS3 := Lib.hid hs3
          have HM3 := Lib.hid (m2.trans m3 (fun i e => .inl e))
          have HFR3 := Lib.hid hfr3
          have HN3 : Hid (N2 ≤ (b ++ hb0).length) := Lib.hid (by rw [List.length_append, HBL.out, ← HQ.out]; have := HNY.out; rw [← HB.out, ← HQ.out] at this; omega)
          have HXL : Hid (XF = nameW L ⟨b ++ hb0, P2⟩) := Lib.hid (by rw [HX.out, hXL, HHB.out])
          have HLL : Hid (∀ x ∈ L, Lab x) := Lib.hid (fun y hy => HLa.out y (by simp [hy]))
          have HJL : Hid ((join L).length ≤ 255) := Lib.hid (by have := HJ.out; have := HJN.out; omega)
          have HYL : Hid ((b ++ hb0).length + (join L).length ≤ 900255) := Lib.hid (by have := HYY.out; have := HJN.out; rw [List.length_append, HBL.out, ← HQ.out]; omega)
          have hrl : strLen (.string (bs (join L))) < strLen (.string (bs nb)) := by
            show (bs (join L)).size < (bs nb).size
            rw [bs_size, bs_size, HN.out, HJN.out]
            omega
          have HRL := Lib.hid hrl
          rw [← HNB2.out] at HRL
          rw [hv3] at ap HS3 HFR3
          subst hv3
          clear H HX HY HJ HLa hx hd HN hnl HJN HYY h2 h2d hr3 o3 g3 f3 n3 hs3 m3 hfr3 hrl hq3 hXL m2 HL HNY
          go_wp2_with fail
          go_region
          all_goals
            go_wp2_with fail
            go_roundw
            case rel => exact ⟨L, _, _, _, nb2, rfl, HNB2, HLL, HJL, Lib.hid ⟨HS3.out, HN3.out⟩, Lib.hid ⟨HM.out.1.trans HM3.out (fun i hi => foot3_of HM.out.2 hi), fresh_of HM.out.2 HM.out.1.size HFR3.out⟩, HXL, HYL⟩
            case measure => exact HRL.out
end Go.Proofs.YtknpkifhkefikaaDoor
