/-
  Two sets the same: entry.Same, and the document's own.
-/
import Derived.Test.YtocbcobaodefgaaEnA
namespace Go.Proofs.Ytocbcobaodefgaa
open Go.RowKit
set_option linter.unusedVariables false
set_option maxRecDepth 100000

set_option maxHeartbeats 400000 in
set_option maxRecDepth 100000 in
theorem EqualFB_any (A1 A2 : Option Addr) (L1 L2 : List Bs) (c1 c2 : Nat) (w : World) (h1 : Byss w A1 L1) (h2 : Byss w A2 L2) (hm : L1.length ≤ 9223372036854775807) :
    Calls Try.prog 65 #[.slice A1 L1.length c1, .slice A2 L2.length c2, .func (.func 14) #[] #[]] w fun e w' => e = .returned (.bool (L1 == L2)) ∧ Below w.heap.size w w' := by
  have hE := fun (args : Array Value) (w : World) => run_enter Try.func14 (by kernel_rfl) (by kernel_rfl) args w
  by_cases hne : L1.length = L2.length
  · have HT : Hid ((L1 == L2) = (L1.drop 0 == L2.drop 0)) := Lib.hid rfl
    obtain ⟨n, hn⟩ : ∃ n, n = L1.length := ⟨_, rfl⟩
    rw [← hne, ← hn]
    rw [← hn] at hm
    have E1 := Lib.hid hn
    have E2 := Lib.hid (hn.trans hne)
    clear hn hne
    go_enter Try.func65, Try.ntmps65
    go_wp2_with fail
    go_loopw [17] (fun v wr => ∃ k : Nat, v = .int .i64 k ∧ k ≤ n ∧ Below w.heap.size w wr ∧ Hid ((L1 == L2) = (L1.drop k == L2.drop k))) (fun v _ => n - (intOf v).toNat)
    case atStart => exact ⟨0, rfl, by omega, Below.refl _ _, HT⟩
    case round =>
      clear HT
      obtain ⟨k, rfl, hk, hB, hT⟩ := hrel
      by_cases hlt : k < n
      · have e1 := E1.out
        have e2 := E2.out
        obtain ⟨g1, o1, rfl, hc1⟩ := id h1 (by omega)
        obtain ⟨g2, o2, rfl, hc2⟩ := id h2 (by omega)
        have k1 : k < L1.length := by omega
        have k2 : k < L2.length := by omega
        obtain ⟨a1, d1, R1, D1, y1⟩ := hc1 k k1
        obtain ⟨a2, d2, R2, D2, y2⟩ := hc2 k k2
        have hT2 := hT.out
        rw [List.drop_eq_getElem_cons k1, List.drop_eq_getElem_cons k2, List.cons_beq_cons] at hT2
        have hlt' : (k : Int) < (n : Int) := by omega
        obtain ⟨x1, hx1⟩ : ∃ x, x = L1[k] := ⟨_, rfl⟩
        obtain ⟨x2, hx2⟩ : ∃ x, x = L2[k] := ⟨_, rfl⟩
        rw [← hx1] at D1 R1 hT2
        rw [← hx2] at D2 R2 hT2
        have HT := Lib.hid hT2
        have R1' := cell_on R1 hB
        have R2' := cell_on R2 hB
        have HC := Lib.hid (EqualB_any a1 a2 x1 x2 x1.length x2.length d1 d2 wr (D1.on hB) (D2.on hB) rfl rfl)
        clear y1 y2 hx1 hx2 hT hT2 hc1 hc2 k1 k2 e1 e2 R1 R2 D1 D2
        go_wp2_with fail
        refine HC.out.mono ?_
        rintro e w3 ⟨rfl, rfl⟩
        cases hv : (x1 == x2) with
        | true =>
          have HT2 := Lib.hid (show (L1 == L2) = (L1.drop (k + 1) == L2.drop (k + 1)) by rw [HT.out, hv]; rfl)
          clear HT hv HC
          go_wp2_with fail
          go_roundw
          case rel => exact ⟨k + 1, by go_num, by omega, hB, HT2⟩
          case measure => simp [intOf]; omega
        | false =>
          have HT2 := Lib.hid (show (L1 == L2) = false by rw [HT.out, hv]; rfl)
          clear HT hv HC
          go_wp2_with fail
          go_ret
          exact ⟨by rw [HT2.out]; rfl, hB⟩
      · obtain rfl : k = n := by omega
        have HT := Lib.hid (show (L1 == L2) = true by rw [hT.out, List.drop_eq_nil_of_le (by have := E1.out; omega), List.drop_eq_nil_of_le (by have := E2.out; omega)]; rfl)
        clear hT h1 h2
        go_wp2_with fail
        go_ret
        exact ⟨by rw [HT.out]; rfl, hB⟩
  · have HT : Hid ((L1 == L2) = false) := Lib.hid (by rw [beq_eq_false_iff_ne]; intro h; subst h; exact hne rfl)
    have hne' : ((L1.length : Int) != (L2.length : Int)) = true := by rw [bne_iff_ne]; omega
    clear h1 h2 hne
    generalize L1.length = n1 at *
    generalize L2.length = n2 at *
    go_enter Try.func65, Try.ntmps65
    go_wp2_with fail
    go_ret
    exact ⟨by rw [HT.out]; rfl, Below.refl _ _⟩

theorem sameS_1 {a b : St} (h : a.n ≠ b.n) : sameS a b = false := by simp [sameS, h]
theorem sameS_2 {a b : St} (h : a.t ≠ b.t) : sameS a b = false := by simp [sameS, h]
theorem sameS_3 {a b : St} (h : a.c ≠ b.c) : sameS a b = false := by simp [sameS, h]
theorem sameS_4 {a b : St} (h : a.rk ≠ b.rk) : sameS a b = false := by simp [sameS, h]
theorem sameS_5 {a b : St} (h : a.kd ≠ b.kd) : sameS a b = false := by simp [sameS, h]
theorem sameS_6 {a b : St} (h : a.ex ≠ b.ex) : sameS a b = false := by simp [sameS, h]
theorem sameS_7 {a b : St} (h : a.z ≠ b.z) : sameS a b = false := by simp [sameS, h]
theorem sameS_8 {a b : St} (h1 : a.n = b.n) (h2 : a.t = b.t) (h3 : a.c = b.c) (h4 : a.rk = b.rk) (h5 : a.kd = b.kd) (h6 : a.ex = b.ex) (h7 : a.z = b.z) : sameS a b = (a.ds == b.ds) := by simp [sameS, h1, h2, h3, h4, h5, h6, h7]

set_option maxHeartbeats 4000000 in
set_option maxRecDepth 100000 in
theorem eSame_any (a b : St) (A B : Option Addr) (c d : Nat) (w : World) (hA : Byss w A a.ds) (hB : Byss w B b.ds) (hc : a.ds.length ≤ 9223372036854775807) :
    Calls Try.prog 69 #[.agg (stC a A c), .agg (stC b B d)] w fun e w' => e = .returned (.bool (sameS a b)) ∧ Below w.heap.size w w' := by
  have H1 := Lib.hid (@sameS_1 a b)
  have H2 := Lib.hid (@sameS_2 a b)
  have H3 := Lib.hid (@sameS_3 a b)
  have H4 := Lib.hid (@sameS_4 a b)
  have H5 := Lib.hid (@sameS_5 a b)
  have H6 := Lib.hid (@sameS_6 a b)
  have H7 := Lib.hid (@sameS_7 a b)
  have H8 := Lib.hid (@sameS_8 a b)
  generalize sameS a b = R at *
  obtain ⟨an, at', ac, ar, ak, ae, az, ad⟩ := a
  obtain ⟨bn, bt, bc, br, bk, be, bz, bd⟩ := b
  simp only [stC, stL] at *
  have ra := row_old (.cells #[.string (bs bn), .int .i64 bt, .int .i64 bc, .int .i64 br, .int .i64 bk, .int .i64 be, .string (bs bz), .slice B bd.length d] 26 (0, 0)) (row_new (w := w) (k := w.heap.size) (.cells #[.string (bs an), .int .i64 at', .int .i64 ac, .int .i64 ar, .int .i64 ak, .int .i64 ae, .string (bs az), .slice A ad.length c] 26 (0, 0)) rfl)
  have rb := row_new (w := w.alloc (.cells #[.string (bs an), .int .i64 at', .int .i64 ac, .int .i64 ar, .int .i64 ak, .int .i64 ae, .string (bs az), .slice A ad.length c] 26 (0, 0))) (k := w.heap.size + 1) (.cells #[.string (bs bn), .int .i64 bt, .int .i64 bc, .int .i64 br, .int .i64 bk, .int .i64 be, .string (bs bz), .slice B bd.length d] 26 (0, 0)) (by simp)
  have bw : Below w.heap.size w ((w.alloc (.cells #[.string (bs an), .int .i64 at', .int .i64 ac, .int .i64 ar, .int .i64 ak, .int .i64 ae, .string (bs az), .slice A ad.length c] 26 (0, 0))).alloc (.cells #[.string (bs bn), .int .i64 bt, .int .i64 bc, .int .i64 br, .int .i64 bk, .int .i64 be, .string (bs bz), .slice B bd.length d] 26 (0, 0))) := Below.alloc (Below.alloc (Below.refl _ _) (Nat.le_refl _) _) (by simp) _
  have a0 := (cell_of_row _ _ 0 _ _ _ ra).trans (show _ = some (.string (bs an)) from rfl)
  have b0 := (cell_of_row _ _ 0 _ _ _ rb).trans (show _ = some (.string (bs bn)) from rfl)
  have a1 := (cell_of_row _ _ 1 _ _ _ ra).trans (show _ = some (.int .i64 at') from rfl)
  have b1 := (cell_of_row _ _ 1 _ _ _ rb).trans (show _ = some (.int .i64 bt) from rfl)
  have a2 := (cell_of_row _ _ 2 _ _ _ ra).trans (show _ = some (.int .i64 ac) from rfl)
  have b2 := (cell_of_row _ _ 2 _ _ _ rb).trans (show _ = some (.int .i64 bc) from rfl)
  have a3 := (cell_of_row _ _ 3 _ _ _ ra).trans (show _ = some (.int .i64 ar) from rfl)
  have b3 := (cell_of_row _ _ 3 _ _ _ rb).trans (show _ = some (.int .i64 br) from rfl)
  have a4 := (cell_of_row _ _ 4 _ _ _ ra).trans (show _ = some (.int .i64 ak) from rfl)
  have b4 := (cell_of_row _ _ 4 _ _ _ rb).trans (show _ = some (.int .i64 bk) from rfl)
  have a5 := (cell_of_row _ _ 5 _ _ _ ra).trans (show _ = some (.int .i64 ae) from rfl)
  have b5 := (cell_of_row _ _ 5 _ _ _ rb).trans (show _ = some (.int .i64 be) from rfl)
  have a6 := (cell_of_row _ _ 6 _ _ _ ra).trans (show _ = some (.string (bs az)) from rfl)
  have b6 := (cell_of_row _ _ 6 _ _ _ rb).trans (show _ = some (.string (bs bz)) from rfl)
  have a7 := (cell_of_row _ _ 7 _ _ _ ra).trans (show _ = some (.slice A ad.length c) from rfl)
  have b7 := (cell_of_row _ _ 7 _ _ _ rb).trans (show _ = some (.slice B bd.length d) from rfl)
  have x1 := bs_toList an
  have x2 := bs_toList bn
  have x3 := bs_toList az
  have x4 := bs_toList bz
  have hA' := hA.on bw
  have hB' := hB.on bw
  clear ra rb hA hB
  --generalize (w.alloc (.cells #[.string (bs an), .int .i64 at', .int .i64 ac, .int .i64 ar, .int .i64 ak, .int .i64 ae, .string (bs az), .slice A ad.length c] 26 (0, 0))).alloc (.cells #[.string (bs bn), .int .i64 bt, .int .i64 bc, .int .i64 br, .int .i64 bk, .int .i64 be, .string (bs bz), .slice B bd.length d] 26 (0, 0)) = W0 at *
  have E := Lib.hid (EqualFB_any A B ad bd c d _ hA' hB' hc)
  clear hA' hB'
  by_cases h1 : an = bn
  case neg =>
    have HFH := Lib.hid (H1.out h1)
    have t1 : (an == bn) = false := by simp [h1]
    clear H1 H2 H3 H4 H5 H6 H7 H8 E h1
    go_enter Try.func69, Try.ntmps69
    go_wp2_with fail
    go_ret
    exact ⟨by rw [HFH.out]; rfl, bw⟩
  have t1 : (an == bn) = true := by simp [h1]
  have G1 := Lib.hid h1
  clear h1
  by_cases h2 : at' = bt
  case neg =>
    have HFH := Lib.hid (H2.out h2)
    have t2 : (at' == bt) = false := by simp [h2]
    clear H1 H2 H3 H4 H5 H6 H7 H8 E G1 h2
    go_enter Try.func69, Try.ntmps69
    go_wp2_with fail
    go_ret
    exact ⟨by rw [HFH.out]; rfl, bw⟩
  have t2 : (at' == bt) = true := by simp [h2]
  have G2 := Lib.hid h2
  clear h2
  by_cases h3 : ac = bc
  case neg =>
    have HFH := Lib.hid (H3.out h3)
    have t3 : (ac == bc) = false := by simp [h3]
    clear H1 H2 H3 H4 H5 H6 H7 H8 E G1 G2 h3
    go_enter Try.func69, Try.ntmps69
    go_wp2_with fail
    go_ret
    exact ⟨by rw [HFH.out]; rfl, bw⟩
  have t3 : (ac == bc) = true := by simp [h3]
  have G3 := Lib.hid h3
  clear h3
  by_cases h4 : ar = br
  case neg =>
    have HFH := Lib.hid (H4.out h4)
    have t4 : (ar == br) = false := by simp [h4]
    clear H1 H2 H3 H4 H5 H6 H7 H8 E G1 G2 G3 h4
    go_enter Try.func69, Try.ntmps69
    go_wp2_with fail
    go_ret
    exact ⟨by rw [HFH.out]; rfl, bw⟩
  have t4 : (ar == br) = true := by simp [h4]
  have G4 := Lib.hid h4
  clear h4
  by_cases h5 : ak = bk
  case neg =>
    have HFH := Lib.hid (H5.out h5)
    have t5 : (ak == bk) = false := by simp [h5]
    clear H1 H2 H3 H4 H5 H6 H7 H8 E G1 G2 G3 G4 h5
    go_enter Try.func69, Try.ntmps69
    go_wp2_with fail
    go_ret
    exact ⟨by rw [HFH.out]; rfl, bw⟩
  have t5 : (ak == bk) = true := by simp [h5]
  have G5 := Lib.hid h5
  clear h5
  by_cases h6 : ae = be
  case neg =>
    have HFH := Lib.hid (H6.out h6)
    have t6 : (ae == be) = false := by simp [h6]
    clear H1 H2 H3 H4 H5 H6 H7 H8 E G1 G2 G3 G4 G5 h6
    go_enter Try.func69, Try.ntmps69
    go_wp2_with fail
    go_ret
    exact ⟨by rw [HFH.out]; rfl, bw⟩
  have t6 : (ae == be) = true := by simp [h6]
  have G6 := Lib.hid h6
  clear h6
  by_cases h7 : az = bz
  case neg =>
    have HFH := Lib.hid (H7.out h7)
    have t7 : (az == bz) = false := by simp [h7]
    clear H1 H2 H3 H4 H5 H6 H7 H8 E G1 G2 G3 G4 G5 G6 h7
    go_enter Try.func69, Try.ntmps69
    go_wp2_with fail
    go_ret
    exact ⟨by rw [HFH.out]; rfl, bw⟩
  have t7 : (az == bz) = true := by simp [h7]
  have G7 := Lib.hid h7
  clear h7
  have HFH := Lib.hid (H8.out G1.out G2.out G3.out G4.out G5.out G6.out G7.out)
  clear H1 H2 H3 H4 H5 H6 H7 H8 G1 G2 G3 G4 G5 G6 G7
  go_enter Try.func69, Try.ntmps69
  go_wp2_with fail
  refine E.out.mono ?_
  rintro e w1 ⟨rfl, b1⟩
  have bb := Below.trans bw (b1.mono bw.size)
  rw [← HFH.out]
  go_wp2_with fail
  go_ret
  exact ⟨rfl, bb⟩
end Go.Proofs.Ytocbcobaodefgaa
