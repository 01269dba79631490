/-
  The walk of RrsetOrders.
-/
import Derived.Test.YtbeggckkgaoacaaOrD
import Derived.Test.YtbeggckkgaoacaaOrF
import Derived.Test.YtbeggckkgaoacaaRv
import Derived.Test.YtbeggckkgaoacaaSt2
import Derived.Test.YtbeggckkgaoacaaAwR
namespace Go.Proofs.Ytbeggckkgaoacaa
open Go.RowKit
set_option linter.unusedVariables false
set_option maxRecDepth 100000

theorem byss_take {w : World} {A : Option Addr} {L : List Bs} (h : Byss w A L) (k : Nat) : Byss w A (L.take k) := fun hn => by
  rw [List.length_take] at hn
  obtain ⟨g, off, hA, hc⟩ := h (by omega)
  refine ⟨g, off, hA, fun j hj => ?_⟩
  rw [List.length_take] at hj
  obtain ⟨a, c, h1⟩ := hc j (by omega)
  refine ⟨a, c, ?_⟩
  rw [List.getElem_take]
  exact h1
theorem order_again (L : List Bs) : orderP (orderP L) = orderP L := order_up (up_order L)
theorem order_back (L : List Bs) : orderP L.reverse = orderP L := order_mem (fun y => by simp)
/-- What the three calls of Order, two of SameTexts and one of awake come to, once the cut is made. -/
theorem sameOwn {w : World} {B C : Nat} {v u : Value} {L : List Bs} (h1 : OwnL w B v L) (h2 : OwnL w C u L) : Calls Try.prog 25 #[v, u] w fun e w' => e = .returned (.bool true) ∧ Below w.heap.size w w' := by
  obtain ⟨A1, c1, rfl, b1, m1, n1, -⟩ := h1.byss
  obtain ⟨A2, c2, rfl, b2, m2, n2, -⟩ := h2.byss
  have h := sameTexts_any A1 A2 L L c1 c2 w b1.byss b2.byss (by omega)
  rw [beq_self_eq_true] at h
  exact h
theorem orderOwn {w : World} {B : Nat} {v : Value} {L : List Bs} (h : OwnL w B v L) (hl : (L.length + 1) * 24 ≤ 140737488351232) (hd : ∀ x ∈ L, x.length ≤ 140737488351232) :
    Calls Try.prog 24 #[v] w fun e w' => ∃ u, e = .returned u ∧ OwnL w' w.heap.size u (orderP L) ∧ Below w.heap.size w w' := by
  obtain ⟨A1, c1, rfl, b1, m1, n1, -⟩ := h.byss
  exact order_any A1 L c1 w b1.byss hl hd

set_option maxHeartbeats 4000000 in
set_option maxRecDepth 100000 in
theorem RrsetOrders_any (A : Option Addr) (L : List Bs) (c : Nat) (w : World) (hS : Byss w A L) (hk : L.length ≤ c ∧ c ≤ 9223372036854775807 ∧ (A = none → c = 0)) (hz : ∀ x ∈ L, x.length ≤ 140737488351232) :
    Calls Try.prog 6 #[.slice A L.length c] w fun e w' => e = .returned (.bool true) ∧ Below w.heap.size w w' := by
  obtain ⟨k1, k2, k3⟩ := hk
  obtain ⟨M, hM⟩ : ∃ M, M = L.take 100 := ⟨_, rfl⟩
  have hMS : Byss w A M := by rw [hM]; exact byss_take hS 100
  have hMz : ∀ x ∈ M, x.length ≤ 140737488351232 := fun x hx => hz x (by rw [hM] at hx; exact List.mem_of_mem_take hx)
  obtain ⟨n, hn⟩ : ∃ n, n = L.length := ⟨_, rfl⟩
  obtain ⟨m, hm⟩ : ∃ m, m = M.length := ⟨_, rfl⟩
  have hmn : m = min n 100 := by rw [hm, hM, List.length_take, hn, Nat.min_comm]
  have hmi : (min (n : Int) 100) = (m : Int) := by omega
  rw [← hn] at k1 ⊢
  have m1 : m ≤ 100 := by omega
  have m2 : m ≤ c := by omega
  have HM := Lib.hid hm
  have HS := Lib.hid hMS
  have HZ := Lib.hid hMz
  clear hS hz hM hMS hMz hn hm hmn
  go_enter Try.func6, Try.ntmps6
  go_wp2_with fail
  have hO : ∀ x ∈ orderP M, x.length ≤ 140737488351232 := fun x hx => HZ.out x (mem_order.1 hx)
  have hol := order_len M
  rw [← HM.out] at hol
  have LO := Lib.hid (order_any A M c w HS.out (by rw [← HM.out]; omega) HZ.out)
  rw [← HM.out] at LO
  refine LO.out.mono ?_
  rintro e w1 ⟨v1, rfl, o1, b1⟩
  have DO := Lib.hid (dOrder_any A M c w1 (HS.out.on b1) (by rw [← HM.out]; omega) HZ.out)
  rw [← HM.out] at DO
  obtain ⟨O, hOe⟩ : ∃ O, O = orderP M := ⟨_, rfl⟩
  rw [← hOe] at o1 DO hO hol
  have hOO : orderP O = O := by rw [hOe]; exact order_again M
  obtain ⟨N, hN⟩ : ∃ N, N = O.length := ⟨_, rfl⟩
  have H1 := Lib.hid o1
  have HB1 := Lib.hid b1
  have HO := Lib.hid hO
  have HOE := Lib.hid hOe
  have HOO := Lib.hid hOO
  have HN := Lib.hid hN
  rw [← hN] at hol
  clear LO o1 b1 hO hOe hOO hN
  go_wp2_with fail
  refine DO.out.mono ?_
  rintro e w2 ⟨v2, rfl, o2, b2⟩
  have p2 := H1.out.below b2
  have H2 := Lib.hid p2
  have S2 := Lib.hid (sameOwn p2 o2)
  have HB2 := Lib.hid (Below.trans HB1.out (b2.mono HB1.out.size))
  clear DO o2 b2 p2
  go_wp2_with fail
  refine S2.out.mono ?_
  rintro e w3 ⟨rfl, b3⟩
  have p3 := H2.out.below b3
  have H3 := Lib.hid p3
  have O3 := Lib.hid (orderOwn p3 (by rw [← HN.out]; omega) HO.out)
  have HB3 := Lib.hid (Below.trans HB2.out (b3.mono HB2.out.size))
  clear S2 b3 p3 H1 H2
  go_wp2_with fail
  refine O3.out.mono ?_
  rintro e w4 ⟨v4, rfl, o4, b4⟩
  rw [HOO.out] at o4
  have p4 := H3.out.below b4
  have H4 := Lib.hid p4
  have S4 := Lib.hid (sameOwn o4 p4)
  have HB4 := Lib.hid (Below.trans HB3.out (b4.mono HB3.out.size))
  clear O3 b4 p4 o4 H3
  go_wp2_with fail
  refine S4.out.mono ?_
  rintro e w5 ⟨rfl, b5⟩
  have p5 := H4.out.below b5
  have HB5 := Lib.hid (Below.trans HB4.out (b5.mono HB4.out.size))
  obtain ⟨A5, c5, rfl, -, n5, n6, -⟩ := p5.byss
  rw [← HN.out] at n5 p5 ⊢
  have H5 := Lib.hid p5
  clear S4 b5 p5 H4 HB1 HB2 HB3 HB4
  go_wp2_with fail
  go_loopw [4] (fun v4 wr => ∃ k q : Nat, v4 = .int .i64 k ∧ 1 ≤ k ∧ (k ≤ N ∨ k = 1) ∧ wr = w5.drewN q) (fun v4 _ => N + 1 - (intOf v4).toNat)
  case atStart => exact ⟨1, 0, rfl, by omega, .inr rfl, rfl⟩
  case round =>
    obtain ⟨k, q, rfl, hk1, hk, rfl⟩ := hrel
    by_cases hlt : k < N
    · have hlt' : (k : Int) < (N : Int) := by omega
      obtain ⟨kp, hkp⟩ : ∃ kp, k = kp + 1 := ⟨k - 1, by omega⟩
      have kO : k < O.length := by have := HN.out; omega
      have pO : kp < O.length := by omega
      have h5 := H5.out
      rw [HN.out] at h5
      obtain ⟨g, cc, a1, d1, e1, C1, -, S1⟩ := h5.at kO
      obtain ⟨g', cc', a0, d0, e0, C0, -, S0⟩ := h5.at pO
      rw [e1] at e0
      injection e0 with e0 _ _
      injection e0 with e0
      injection e0 with e0
      subst e0
      injection e1 with e1 _ e2
      subst e1
      have hw := less_one hkp (by omega)
      have hp1 : (kp : Int) < (N : Int) := by omega
      have hr : cmpB O[kp] O[k] < 0 := by
        have hu : Up O := by rw [HOE.out]; exact up_order M
        have := up_at hu (i := kp) (j := k) (by omega) kO
        rw [← cmp_less] at this
        simpa using this
      have c1 := C1
      have c0 := C0
      have HC := Lib.hid (fun q => CompareB_any a0 a1 O[kp] O[k] d0 d1 (w5.drewN q) (S0.on (below_drewN (Below.refl _ _) q)).bys (S1.on (below_drewN (Below.refl _ _) q)).bys)
      clear e2 C1 C0 S1 S0 h5 hkp
      generalize (O[k]).length = n1 at *
      generalize (O[kp]).length = n0 at *
      generalize cmpB O[kp] O[k] = r at *
      have hr' : ¬ (0 : Int) ≤ r := by omega
      go_wp2_with fail
      go_quiet (exact (HC.out _).mono fun _ _ ⟨h1, h2⟩ => ⟨h1, _, h2.symm⟩)
      go_wp2_with fail
      go_roundw
      case rel => exact ⟨k + 1, _, by go_num, by omega, by omega, rfl⟩
      case measure => simp [intOf]; omega
    · have hlt' : ¬ (k : Int) < (N : Int) := by omega
      have bq := Below.trans HB5.out ((below_drewN (Below.refl w5.heap.size w5) q).mono HB5.out.size)
      have pq := H5.out.below (below_drewN (Below.refl w5.heap.size w5) q)
      obtain ⟨W6, hW6⟩ : ∃ W6, W6 = w5.drewN q := ⟨_, rfl⟩
      rw [← hW6] at bq pq ⊢
      have H6 := Lib.hid pq
      have HB6 := Lib.hid bq
      have CL := Lib.hid (CloneL_any A M m c W6 (HS.out.on bq) HM.out (by omega))
      clear hk hk1 pq bq hW6 H5 HB5
      go_wp2_with fail
      refine CL.out.mono ?_
      rintro e w7 ⟨v7, xs, rfl, o7, r7, b7⟩
      have HB7 := Lib.hid (Below.trans HB6.out (b7.mono HB6.out.size))
      clear CL
      have RV : Hid (∃ A7 c7, v7 = .slice A7 m c7 ∧ m ≤ c7 ∧ c7 ≤ 9223372036854775807 ∧ Calls Try.prog 29 #[.slice A7 m c7] w7 fun e w' => e = .returned (.tuple #[]) ∧ Byss w' A7 M.reverse ∧ OwnL w' w.heap.size (.slice A5 N c5) O ∧ Below W6.heap.size W6 w') := by
        refine Lib.hid ?_
        rcases o7.2 with ⟨rfl, h0⟩ | ⟨g, cap, cur, rfl, hbg, hh, hnc, hcm, -⟩
        · refine ⟨none, 0, by rw [h0], by omega, by omega, ?_⟩
          rw [h0]
          refine (revNil_any none 0 w7).mono ?_
          rintro e w' ⟨rfl, rfl⟩
          refine ⟨rfl, fun hn => ?_, H6.out.below b7, b7⟩
          rw [List.length_reverse, ← HM.out, h0] at hn
          omega
        · obtain ⟨d, hd1, hd2⟩ := rows_bv r7
          have hdl : d.length = m := by rw [HM.out, ← hd2, List.length_map]
          subst hd1
          refine ⟨_, _, rfl, hnc, by unfold maxLen at hcm; omega, ?_⟩
          rw [← hdl] at o7 ⊢
          refine (revB_any W6 w7 W6.heap.size g cap d (by omega) o7).mono ?_
          rintro e w' ⟨rfl, o8, g8⟩
          have b8 : Below W6.heap.size W6 w' := Below.grown b7 g8 b7.size (fun k hk => by injection hk with hk; omega)
          have hr8 := bv_rows d.reverse
          rw [show List.map Bv.l d.reverse = M.reverse by rw [List.map_reverse, hd2]] at hr8
          obtain ⟨-, A8, c8, e8, by8, -⟩ := RowsA.byss o8 hr8 b8
          injection e8 with e8 _ _
          subst e8
          exact ⟨rfl, by8, H6.out.below b8, b8⟩
      obtain ⟨A7, c7, rfl, m7, n7, R7⟩ := RV.out
      have HR7 := Lib.hid R7
      clear RV R7 o7 r7 b7
      go_wp2_with fail
      refine HR7.out.mono ?_
      rintro e w8 ⟨rfl, s8, o8, b8⟩
      have HB8 := Lib.hid (Below.trans HB6.out (b8.mono HB6.out.size))
      have H8 := Lib.hid o8
      have hml : m = M.reverse.length := by rw [List.length_reverse]; exact HM.out
      have O8 := Lib.hid (order_any A7 M.reverse c7 w8 s8 (by rw [← hml]; omega) (fun x hx => HZ.out x (by simpa using hx)))
      rw [order_back, ← HOE.out, ← hml] at O8
      clear hml s8 o8 b8 HR7 H6 HB7
      go_wp2_with fail
      refine O8.out.mono ?_
      rintro e w9 ⟨v9, rfl, o9, b9⟩
      have p9 := H8.out.below b9
      have S9 := Lib.hid (sameOwn o9 p9)
      have HB9 := Lib.hid (Below.trans HB8.out (b9.mono HB8.out.size))
      clear o9 p9 b9 O8 H8 HB8 HB6
      go_wp2_with fail
      refine S9.out.mono ?_
      rintro e w10 ⟨rfl, b10⟩
      have HB10 := Lib.hid (Below.trans HB9.out (b10.mono HB9.out.size))
      have AW := Lib.hid (awake09 w10)
      clear S9 b10 HB9
      go_wp2_with fail
      refine AW.out.mono ?_
      rintro e w11 ⟨rfl, b11⟩
      have HF := Lib.hid (Below.trans HB10.out (b11.mono HB10.out.size))
      clear AW b11 HB10
      go_wp2_with fail
      go_ret
      exact ⟨rfl, HF.out⟩
end Go.Proofs.Ytbeggckkgaoacaa
