/-
  The landed Order.
-/
import Derived.Test.YtbeggckkgaoacaaOrC
import Derived.Test.YtbeggckkgaoacaaLw
namespace Go.Proofs.Ytbeggckkgaoacaa
open Go.RowKit
set_option linter.unusedVariables false
set_option maxRecDepth 100000

theorem RowsA.tail {w0 : World} {xs : List Value} {M : List Bs} {j : Nat} (h : RowsA w0 xs (M.drop j)) (hj : j < M.length) : ∃ a d xs', xs = .slice a (M[j]).length d :: xs' ∧ Sl w0 a d M[j] ∧ RowsA w0 xs' (M.drop (j + 1)) := by
  have hl : xs.length = M.length - j := by rw [h.1, List.length_drop]
  match xs, hl with
  | [], hl => simp at hl; omega
  | x :: xs', _ =>
    obtain ⟨a, d, h1, h2⟩ := h.2 0 (by rw [List.length_drop]; omega)
    simp only [List.getElem?_cons_zero, List.getElem_drop, Nat.add_zero] at h1 h2
    injection h1 with h1
    refine ⟨a, d, xs', by rw [h1], h2, by have := h.1; simp at this ⊢; omega, fun i hi => ?_⟩
    have hi2 : i < M.length - (j + 1) := by have := hi; rw [List.length_drop] at this; exact this
    obtain ⟨a', d', k1, k2⟩ := h.2 (i + 1) (by rw [List.length_drop]; omega)
    simp only [List.getElem?_cons_succ, List.getElem_drop] at k1 k2 ⊢
    have e : M[j + (i + 1)]'(by omega) = M[j + 1 + i]'(by omega) := by congr 1; omega
    rw [e] at k1 k2
    exact ⟨a', d', k1, k2⟩

theorem sortNil_any (fv : Value) (w : World) : Calls Try.prog 50 #[.slice none 0 0, fv] w fun e w' => e = .returned (.tuple #[]) ∧ w = w' := by
  have h := AnyF.slices_SortFunc_none (P := Try.prog) (ρ := sortF_ren) { sortF with } none 0 fv w
  change Calls Try.prog 50 _ _ _ at h
  exact h.mono fun _ _ ⟨h1, h2⟩ => ⟨h1, h2.symm⟩
theorem compactNil_any (fv : Value) (w : World) : Calls Try.prog 51 #[.slice none 0 0, fv] w fun e w' => e = .returned (.slice none 0 0) ∧ w = w' := by
  go_enter Try.func51, Try.ntmps51
  go_wp2_with fail
  go_ret
  exact ⟨rfl, rfl⟩

set_option maxHeartbeats 4000000 in
set_option maxRecDepth 100000 in
theorem order_any (A : Option Addr) (L : List Bs) (c : Nat) (w : World) (hS : Byss w A L) (hl : (L.length + 1) * 24 ≤ 140737488351232) (hd : ∀ x ∈ L, x.length ≤ 140737488351232) :
    Calls Try.prog 24 #[.slice A L.length c] w fun e w' => ∃ v, e = .returned v ∧ OwnL w' w.heap.size v (orderP L) ∧ Below w.heap.size w w' := by
  obtain ⟨n, hn⟩ : ∃ n, n = L.length := ⟨_, rfl⟩
  rw [← hn]
  rw [← hn] at hl
  have CL := Lib.hid (CloneL_any A L n c w hS hn (by omega))
  have HN := Lib.hid hn
  have HD := Lib.hid hd
  have HL := Lib.hid hl
  clear hn hd hS hl
  go_enter Try.func24, Try.ntmps24
  go_wp2_with fail
  refine CL.out.mono ?_
  rintro e w1 ⟨v, xs, rfl, o1, r1, b1⟩
  clear CL
  rcases o1.2 with ⟨rfl, h0⟩ | ⟨g, cap, cur, rfl, hbg, hh, hnc, hcm, -⟩
  · have hL0 : L = [] := List.length_eq_zero_iff.1 (by rw [← HN.out]; exact h0)
    have S1 := Lib.hid (fun fv => sortNil_any fv w1)
    have C1 := Lib.hid (fun fv => compactNil_any fv w1)
    have HF : Hid (OwnL w1 w.heap.size (.slice none 0 0) (orderP L)) := Lib.hid (by rw [hL0]; exact OwnL.nil _ _)
    clear o1 r1 h0 hL0
    go_wp2_with fail
    refine (S1.out _).mono ?_
    rintro e w2 ⟨rfl, rfl⟩
    go_wp2_with fail
    refine (C1.out _).mono ?_
    rintro e w2 ⟨rfl, rfl⟩
    go_wp2_with fail
    refine wp_loop_rounds 1 ?_
    rw [rounds_succ]
    go_wp2_with fail
    go_ret
    exact ⟨_, rfl, HF.out, b1⟩
  · obtain ⟨d, hd1, hd2⟩ := rows_bv r1
    have hdl : d.length = n := by rw [HN.out, ← hd2, List.length_map]
    subst hd1
    have hsz := b1.size
    rw [← hdl] at o1
    have S1 := Lib.hid (sortB_any w w1 w.heap.size g cap d b1 hbg (by rw [hdl]; have := HL.out; omega) o1)
    rw [hdl] at S1
    have HD2 := Lib.hid hd2
    have HDL := Lib.hid hdl
    have HB1 := Lib.hid b1
    have HGL := Lib.hid (Array.getElem?_eq_some_iff.1 hh).1
    clear o1 r1 hd2 hdl hh b1
    go_wp2_with fail
    refine S1.out.mono ?_
    rintro e w2 ⟨rfl, d', o2, hmem, hpw, g2⟩
    have b2 : Below w.heap.size w w2 := Below.grown HB1.out g2 hsz (fun k hk => by injection hk with hk; omega)
    have C1 := Lib.hid (compactB_any w w2 w.heap.size g cap n (d'.map Bv.v) (d'.map Bv.l) b2 hbg o2 (bv_rows d') (by rw [List.length_map]; have := o2.1; rw [List.length_map] at this; omega))
    have hO : ddP (d'.map Bv.l) = orderP L := dd_order hpw (fun y => by rw [hmem y, HD2.out])
    rw [hO] at C1
    have hOm : ∀ y ∈ orderP L, y.length ≤ 140737488351232 := fun y hy => HD.out y (mem_order.1 hy)
    have hOl := order_len L
    rw [← HN.out] at hOl
    obtain ⟨O, hOe⟩ : ∃ O, O = orderP L := ⟨_, rfl⟩
    rw [← hOe] at C1 hOm hOl
    have HOE := Lib.hid hOe
    have HOM := Lib.hid hOm
    have HB2 := Lib.hid b2
    have HG2 := Lib.hid g2.size
    clear o2 hmem hpw g2 hO hOm S1 b2 HDL hOe
    go_wp2_with fail
    refine C1.out.mono ?_
    rintro e w3 ⟨ys, rfl, o3, r3, g3⟩
    have b3 : Below w.heap.size w w3 := Below.grown HB2.out g3 HB2.out.size (fun k hk => by injection hk with hk; omega)
    obtain ⟨m, hm⟩ : ∃ m, m = O.length := ⟨_, rfl⟩
    rw [← hm] at o3 hOl ⊢
    obtain ⟨-, hlt3, hmc, hcm3⟩ := rowL_lt o3
    have hcm' : cap ≤ 9223372036854775807 := by unfold maxLen at hcm3; omega
    have HM := Lib.hid hm
    have H3 := Lib.hid o3
    have R3 := Lib.hid r3
    have HB3 := Lib.hid b3
    clear C1 o3 r3 g3 hm hcm3 b3
    go_wp2_with fail
    go_loopw [14] (fun v14 wr => ∃ (j : Nat) (ps zs : List Value), v14 = .int .i64 j ∧ j ≤ m ∧ Hid (wr.ownsRow w.heap.size 37 1 (.slice (some ⟨g, 0, none⟩) m cap) m (ps ++ zs)) ∧ Hid (RowsR wr w.heap.size none ps (O.take j)) ∧ Hid (RowsA w zs (O.drop j)) ∧ Below w.heap.size w wr) (fun v14 _ => m - (intOf v14).toNat)
    case atStart => exact ⟨0, [], ys, rfl, by omega, H3, Lib.hid RowsR.nil, R3, HB3.out⟩
    case round =>
      obtain ⟨j, ps, zs, rfl, hj, HO, HR, HA, hB⟩ := hrel
      clear H3 R3
      by_cases hlt : j < m
      · have hlt' : (j : Int) < (m : Int) := by omega
        have jO : j < O.length := by have := HM.out; omega
        obtain ⟨a, d, zs', rfl, S1, HA2⟩ := HA.out.tail jO
        have hal : ps.length = j := by rw [HR.out.1, List.length_take]; omega
        have cj := (rowL_cell HO.out hlt).1
        rw [List.getElem?_append_right (by omega), hal, Nat.sub_self, List.getElem?_cons_zero] at cj
        have hx := HOM.out O[j] (List.getElem_mem jO)
        have htk : O.take (j + 1) = O.take j ++ [O[j]] := List.take_succ_eq_append_getElem jO
        have S1' := S1.on hB
        generalize O[j] = x at *
        have CL := Lib.hid (CloneR_any a x x.length d wr S1'.bys rfl hx S1'.inside)
        obtain ⟨xn, hxn⟩ : ∃ xn, xn = x.length := ⟨_, rfl⟩
        rw [← hxn] at cj CL
        have HXN := Lib.hid hxn
        have HT := Lib.hid htk
        have HAL := Lib.hid hal
        have HHA := Lib.hid HA2
        have HB := Lib.hid hB
        clear S1 S1' hx htk HA hxn hal HA2 hB
        go_wp2_with fail
        refine CL.out.mono ?_
        rintro e w4 ⟨v4, rfl, u4, -, b4⟩
        clear CL
        have o4 := ownsRow_below HO.out b4 (Nat.le_refl _)
        have r4 := HR.out.below b4
        have bb4 := Below.trans HB.out (b4.mono HB.out.size)
        obtain ⟨A5, c5, rfl, -, -⟩ := u4.ownB.bys
        rw [← HXN.out] at u4 ⊢
        have c4 := (rowL_cell o4 hlt).1
        rw [List.getElem?_append_right (by rw [HAL.out]; exact Nat.le_refl _), HAL.out, Nat.sub_self, List.getElem?_cons_zero] at c4
        have f4 := (rowL_cell o4 hlt).2
        have o5 := rowL_set o4 j (.slice A5 xn c5)
        rw [List.set_append_right _ _ (by rw [HAL.out]; exact Nat.le_refl _), HAL.out, Nat.sub_self, List.set_cons_zero, show ps ++ (.slice A5 xn c5 :: zs') = (ps ++ [.slice A5 xn c5]) ++ zs' by simp] at o5
        have gs : w4.grownBy (w4.setCell ⟨g, j, none⟩ (.slice A5 xn c5)) (some g) := by
          have := grownBy_setCells g [.slice A5 xn c5] j w4
          simpa [World.setCells] using this
        have hel : Elsewhere w4 5 (some g) := elsewhere_own o4 (by decide)
        have u5 := (u4.mono HB.out.size).keptE gs hel
        have r5 := (r4.keptE gs hel).snoc u5 (ne_none _)
        rw [← HT.out] at r5
        have b5 : Below w.heap.size w (w4.setCell ⟨g, j, none⟩ (.slice A5 xn c5)) := Below.setCell bb4 hbg _
        have HO5 := Lib.hid o5
        have HR5 := Lib.hid r5
        have HB5 := Lib.hid b5
        clear o4 r4 bb4 u4 b4 o5 gs hel u5 r5 b5 HO HR HT HXN HAL cj
        go_wp2_with fail
        go_roundw
        case rel => exact ⟨j + 1, _, _, by go_num, by omega, HO5, HR5, HHA, HB5.out⟩
        case measure => simp [intOf]; omega
      · have hlt' : ¬ (j : Int) < (m : Int) := by omega
        obtain rfl : j = m := by omega
        have hz : zs = [] := by
          have := HA.out.1
          rw [List.length_drop, HM.out, Nat.sub_self] at this
          exact List.length_eq_zero_iff.1 this
        have hF : OwnL wr w.heap.size (.slice (some ⟨g, 0, none⟩) j cap) O := by
          have h1 := HO.out
          have h2 := HR.out
          rw [hz, List.append_nil] at h1
          rw [HM.out, List.take_length] at h2
          rw [HM.out] at h1 ⊢
          exact ⟨ps, h1, h2⟩
        have HF := Lib.hid hF
        clear HO HR HA hF hz
        go_wp2_with fail
        go_ret
        exact ⟨.slice (some ⟨g, 0, none⟩) j cap, rfl, by rw [← HOE.out]; exact HF.out, hB⟩
end Go.Proofs.Ytbeggckkgaoacaa
