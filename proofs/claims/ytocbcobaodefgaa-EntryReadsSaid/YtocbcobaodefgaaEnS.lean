/-
  Two sets the same: the document's own.
-/
import Derived.Test.YtocbcobaodefgaaEnB
import Derived.BigQuiet
namespace Go.Proofs.Ytocbcobaodefgaa
open Go.RowKit
set_option linter.unusedVariables false
set_option maxRecDepth 100000

theorem sameS_d {a b : St} (h : a.ds ≠ b.ds) : sameS a b = false := by simp [sameS, h]
theorem sameS_all {a b : St} (h1 : a.n = b.n) (h2 : a.t = b.t) (h3 : a.c = b.c) (h4 : a.rk = b.rk) (h5 : a.kd = b.kd) (h6 : a.ex = b.ex) (h7 : a.z = b.z) (h8 : a.ds = b.ds) : sameS a b = true := by simp [sameS, h1, h2, h3, h4, h5, h6, h7, h8]

set_option maxHeartbeats 4000000 in
set_option maxRecDepth 100000 in
theorem dSame_any (a b : St) (A B : Option Addr) (c d : Nat) (w : World) (hA : Byss w A a.ds) (hB : Byss w B b.ds) (hc : a.ds.length ≤ 9223372036854775807) :
    Calls Try.prog 13 #[.agg (stC a A c), .agg (stC b B d)] w fun e w' => e = .returned (.bool (sameS a b)) ∧ Below w.heap.size w w' := by
  have HD := Lib.hid (@sameS_d a b)
  have HA := Lib.hid (@sameS_all a b)
  have H1 := Lib.hid (@sameS_1 a b)
  have H2 := Lib.hid (@sameS_2 a b)
  have H3 := Lib.hid (@sameS_3 a b)
  have H4 := Lib.hid (@sameS_4 a b)
  have H5 := Lib.hid (@sameS_5 a b)
  have H6 := Lib.hid (@sameS_6 a b)
  have H7 := Lib.hid (@sameS_7 a b)
  generalize sameS a b = R at *
  obtain ⟨an, at', ac, ar, ak, ae, az, ad⟩ := a
  obtain ⟨bn, bt, bc, br, bk, be, bz, bd⟩ := b
  simp only [stC, stL] at *
  by_cases hne : ad.length = bd.length
  case neg =>
    have HT := Lib.hid (HD.out (fun h => hne (by rw [h])))
    have hne' : ((ad.length : Int) != (bd.length : Int)) = true := by rw [bne_iff_ne]; omega
    clear HD HA H1 H2 H3 H4 H5 H6 H7 hA hB hne hc
    generalize ad.length = n1 at *
    generalize bd.length = n2 at *
    have ra := row_old (.cells #[.string (bs bn), .int .i64 bt, .int .i64 bc, .int .i64 br, .int .i64 bk, .int .i64 be, .string (bs bz), .slice B n2 d] 26 (0, 0)) (row_new (w := w) (k := w.heap.size) (.cells #[.string (bs an), .int .i64 at', .int .i64 ac, .int .i64 ar, .int .i64 ak, .int .i64 ae, .string (bs az), .slice A n1 c] 26 (0, 0)) rfl)
    have rb := row_new (w := w.alloc (.cells #[.string (bs an), .int .i64 at', .int .i64 ac, .int .i64 ar, .int .i64 ak, .int .i64 ae, .string (bs az), .slice A n1 c] 26 (0, 0))) (k := w.heap.size + 1) (.cells #[.string (bs bn), .int .i64 bt, .int .i64 bc, .int .i64 br, .int .i64 bk, .int .i64 be, .string (bs bz), .slice B n2 d] 26 (0, 0)) (by simp)
    have a7 := (cell_of_row _ _ 7 _ _ _ ra).trans (show _ = some (.slice A n1 c) from rfl)
    have b7 := (cell_of_row _ _ 7 _ _ _ rb).trans (show _ = some (.slice B n2 d) from rfl)
    clear ra rb
    go_enter Try.func13, Try.ntmps13
    go_wp2_with fail
    go_ret
    exact ⟨by rw [HT.out]; rfl, Below.alloc (Below.alloc (Below.refl _ _) (Nat.le_refl _) _) (by simp) _⟩
  obtain ⟨nd, hn⟩ : ∃ n, n = ad.length := ⟨_, rfl⟩
  rw [← hne, ← hn]
  rw [← hn] at hc
  have E1 := Lib.hid hn
  have E2 := Lib.hid (hn.trans hne)
  clear hn hne
  have ra := row_old (.cells #[.string (bs bn), .int .i64 bt, .int .i64 bc, .int .i64 br, .int .i64 bk, .int .i64 be, .string (bs bz), .slice B nd d] 26 (0, 0)) (row_new (w := w) (k := w.heap.size) (.cells #[.string (bs an), .int .i64 at', .int .i64 ac, .int .i64 ar, .int .i64 ak, .int .i64 ae, .string (bs az), .slice A nd c] 26 (0, 0)) rfl)
  have rb := row_new (w := w.alloc (.cells #[.string (bs an), .int .i64 at', .int .i64 ac, .int .i64 ar, .int .i64 ak, .int .i64 ae, .string (bs az), .slice A nd c] 26 (0, 0))) (k := w.heap.size + 1) (.cells #[.string (bs bn), .int .i64 bt, .int .i64 bc, .int .i64 br, .int .i64 bk, .int .i64 be, .string (bs bz), .slice B nd d] 26 (0, 0)) (by simp)
  have bw : Below w.heap.size w ((w.alloc (.cells #[.string (bs an), .int .i64 at', .int .i64 ac, .int .i64 ar, .int .i64 ak, .int .i64 ae, .string (bs az), .slice A nd c] 26 (0, 0))).alloc (.cells #[.string (bs bn), .int .i64 bt, .int .i64 bc, .int .i64 br, .int .i64 bk, .int .i64 be, .string (bs bz), .slice B nd d] 26 (0, 0))) := Below.alloc (Below.alloc (Below.refl _ _) (Nat.le_refl _) _) (by simp) _
  have a0 := (cell_of_row _ _ 0 _ _ _ ra).trans (show _ = some (.string (bs an)) from rfl)
  have b0 := (cell_of_row _ _ 0 _ _ _ rb).trans (show _ = some (.string (bs bn)) from rfl)
  have a1 := (cell_of_row _ _ 1 _ _ _ ra).trans (show _ = some (.int .i64 at') from rfl)
  have b1 := (cell_of_row _ _ 1 _ _ _ rb).trans (show _ = some (.int .i64 bt) from rfl)
  have a2 := (cell_of_row _ _ 2 _ _ _ ra).trans (show _ = some (.int .i64 ac) from rfl)
  have b2 := (cell_of_row _ _ 2 _ _ _ rb).trans (show _ = some (.int .i64 bc) from rfl)
  have a3 := (cell_of_row _ _ 3 _ _ _ ra).trans (show _ = some (.int .i64 ar) from rfl)
  have b3 := (cell_of_row _ _ 3 _ _ _ rb).trans (show _ = some (.int .i64 br) from rfl)
  have a4 := (cell_of_row _ _ 4 _ _ _ ra).trans (show _ = some (.int .i64 ak) from rfl)
  have b4 := (cell_of_row _ _ 4 _ _ _ rb).trans (show _ = some (.int .i64 bk) from rfl)
  have a5 := (cell_of_row _ _ 5 _ _ _ ra).trans (show _ = some (.int .i64 ae) from rfl)
  have b5 := (cell_of_row _ _ 5 _ _ _ rb).trans (show _ = some (.int .i64 be) from rfl)
  have a6 := (cell_of_row _ _ 6 _ _ _ ra).trans (show _ = some (.string (bs az)) from rfl)
  have b6 := (cell_of_row _ _ 6 _ _ _ rb).trans (show _ = some (.string (bs bz)) from rfl)
  have a7 := (cell_of_row _ _ 7 _ _ _ ra).trans (show _ = some (.slice A nd c) from rfl)
  have b7 := (cell_of_row _ _ 7 _ _ _ rb).trans (show _ = some (.slice B nd d) from rfl)
  have x1 := bs_toList an
  have x2 := bs_toList bn
  have x3 := bs_toList az
  have x4 := bs_toList bz
  have hA' := hA.on bw
  have hB' := hB.on bw
  clear ra rb hA hB
  go_enter Try.func13, Try.ntmps13
  go_wp2_with fail
  generalize (w.alloc (.cells #[.string (bs an), .int .i64 at', .int .i64 ac, .int .i64 ar, .int .i64 ak, .int .i64 ae, .string (bs az), .slice A nd c] 26 (0, 0))).alloc (.cells #[.string (bs bn), .int .i64 bt, .int .i64 bc, .int .i64 br, .int .i64 bk, .int .i64 be, .string (bs bz), .slice B nd d] 26 (0, 0)) = W0 at *
  go_loopw [16] (fun v wr => ∃ k q : Nat, wr = W0.drewN q ∧ v = .int .i64 k ∧ k ≤ nd ∧ Hid ((ad == bd) = (ad.drop k == bd.drop k))) (fun v _ => nd - (intOf v).toNat)
  case atStart => exact ⟨0, 0, rfl, rfl, by omega, Lib.hid rfl⟩
  case round =>
    obtain ⟨k, q, rfl, rfl, hk, hT⟩ := hrel
    by_cases hlt : k < nd
    · have e1 := E1.out
      have e2 := E2.out
      obtain ⟨g1, o1, rfl, hc1⟩ := id hA' (by omega)
      obtain ⟨g2, o2, rfl, hc2⟩ := id hB' (by omega)
      have k1 : k < ad.length := by omega
      have k2 : k < bd.length := by omega
      obtain ⟨p1, d1, R1, D1, y1⟩ := hc1 k k1
      obtain ⟨p2, d2, R2, D2, y2⟩ := hc2 k k2
      have hT2 := hT.out
      rw [List.drop_eq_getElem_cons k1, List.drop_eq_getElem_cons k2, List.cons_beq_cons] at hT2
      have hlt' : (k : Int) < (nd : Int) := by omega
      obtain ⟨u1, hu1⟩ : ∃ x, x = ad[k] := ⟨_, rfl⟩
      obtain ⟨u2, hu2⟩ : ∃ x, x = bd[k] := ⟨_, rfl⟩
      rw [← hu1] at D1 R1 hT2
      rw [← hu2] at D2 R2 hT2
      have HT := Lib.hid hT2
      have s1 := fun n => string_bys p1 u1 d1 (W0.drewN n) (D1.on (below_drewN (Below.refl _ _) _))
      have s2 := fun n => string_bys p2 u2 d2 (W0.drewN n) (D2.on (below_drewN (Below.refl _ _) _))
      clear y1 y2 hu1 hu2 hT hT2 hc1 hc2 k1 k2 e1 e2 D1 D2 hA' hB' a0 a1 a2 a3 a4 a5 a6 b0 b1 b2 b3 b4 b5 b6 x1 x2 x3 x4
      by_cases hx : u1 = u2
      · have hb : (bs u1 == bs u2) = true := by rw [bs_beq]; simp [hx]
        have hb2 : (u1 == u2) = true := by simp [hx]
        have HT2 := Lib.hid (show (ad == bd) = (ad.drop (k + 1) == bd.drop (k + 1)) by rw [HT.out, show (u1 == u2) = true by simp [hx], Bool.true_and])
        clear HT hx
        go_wp2_with fail
        go_quiet (fail)
        go_wp2_with fail
        go_roundw
        case rel => exact ⟨k + 1, _, rfl, by go_num, by omega, HT2⟩
        case measure => simp [intOf]; omega
      · have hb : (bs u1 == bs u2) = false := by rw [bs_beq]; simp [hx]
        have hb2 : (u1 == u2) = false := by simp [hx]
        have HT2 := Lib.hid (HD.out (by
          intro h
          have := HT.out
          rw [show (u1 == u2) = false by simp [hx], Bool.false_and, h] at this
          simp at this))
        clear HT hx
        go_wp2_with fail
        go_quiet (fail)
        go_wp2_with fail
        go_ret
        exact ⟨by rw [HT2.out]; rfl, below_drewN (below_drewN bw _) _⟩
    · obtain rfl : k = nd := by omega
      have HQ := Lib.hid (show ad = bd by
        have := hT.out
        rw [List.drop_eq_nil_of_le (by have := E1.out; omega), List.drop_eq_nil_of_le (by have := E2.out; omega)] at this
        simpa using this)
      have hlt' : ¬ (k : Int) < (k : Int) := by omega
      clear hT hA' hB' a7 b7 HD hlt hk
      by_cases h1 : an = bn
      case neg =>
        have HFH := Lib.hid (H1.out h1)
        have t1 : (an == bn) = false := by simp [h1]
        clear H1 H2 H3 H4 H5 H6 H7 HA HQ h1
        go_wp2_with fail
        go_ret
        exact ⟨by rw [HFH.out]; rfl, below_drewN bw _⟩
      have t1 : (an == bn) = true := by simp [h1]
      have G1 := Lib.hid h1
      clear h1
      by_cases h2 : at' = bt
      case neg =>
        have HFH := Lib.hid (H2.out h2)
        have t2 : (at' == bt) = false := by simp [h2]
        clear H1 H2 H3 H4 H5 H6 H7 HA HQ G1 h2
        go_wp2_with fail
        go_ret
        exact ⟨by rw [HFH.out]; rfl, below_drewN bw _⟩
      have t2 : (at' == bt) = true := by simp [h2]
      have G2 := Lib.hid h2
      clear h2
      by_cases h3 : ac = bc
      case neg =>
        have HFH := Lib.hid (H3.out h3)
        have t3 : (ac == bc) = false := by simp [h3]
        clear H1 H2 H3 H4 H5 H6 H7 HA HQ G1 G2 h3
        go_wp2_with fail
        go_ret
        exact ⟨by rw [HFH.out]; rfl, below_drewN bw _⟩
      have t3 : (ac == bc) = true := by simp [h3]
      have G3 := Lib.hid h3
      clear h3
      by_cases h4 : ar = br
      case neg =>
        have HFH := Lib.hid (H4.out h4)
        have t4 : (ar == br) = false := by simp [h4]
        clear H1 H2 H3 H4 H5 H6 H7 HA HQ G1 G2 G3 h4
        go_wp2_with fail
        go_ret
        exact ⟨by rw [HFH.out]; rfl, below_drewN bw _⟩
      have t4 : (ar == br) = true := by simp [h4]
      have G4 := Lib.hid h4
      clear h4
      by_cases h5 : ak = bk
      case neg =>
        have HFH := Lib.hid (H5.out h5)
        have t5 : (ak == bk) = false := by simp [h5]
        clear H1 H2 H3 H4 H5 H6 H7 HA HQ G1 G2 G3 G4 h5
        go_wp2_with fail
        go_ret
        exact ⟨by rw [HFH.out]; rfl, below_drewN bw _⟩
      have t5 : (ak == bk) = true := by simp [h5]
      have G5 := Lib.hid h5
      clear h5
      by_cases h6 : ae = be
      case neg =>
        have HFH := Lib.hid (H6.out h6)
        have t6 : (ae == be) = false := by simp [h6]
        clear H1 H2 H3 H4 H5 H6 H7 HA HQ G1 G2 G3 G4 G5 h6
        go_wp2_with fail
        go_ret
        exact ⟨by rw [HFH.out]; rfl, below_drewN bw _⟩
      have t6 : (ae == be) = true := by simp [h6]
      have G6 := Lib.hid h6
      clear h6
      by_cases h7 : az = bz
      case neg =>
        have HFH := Lib.hid (H7.out h7)
        have t7 : (az == bz) = false := by simp [h7]
        clear H1 H2 H3 H4 H5 H6 H7 HA HQ G1 G2 G3 G4 G5 G6 h7
        go_wp2_with fail
        go_ret
        exact ⟨by rw [HFH.out]; rfl, below_drewN bw _⟩
      have t7 : (az == bz) = true := by simp [h7]
      have G7 := Lib.hid h7
      clear h7
      have HFH := Lib.hid (HA.out G1.out G2.out G3.out G4.out G5.out G6.out G7.out HQ.out)
      clear H1 H2 H3 H4 H5 H6 H7 HA G1 G2 G3 G4 G5 G6 G7 HQ
      go_wp2_with fail
      go_ret
      exact ⟨by rw [HFH.out]; rfl, below_drewN bw _⟩
end Go.Proofs.Ytocbcobaodefgaa
