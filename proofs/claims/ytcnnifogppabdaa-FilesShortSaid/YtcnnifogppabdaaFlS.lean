/-
  The walk of FilesShort.
-/
import Derived.Test.YtcnnifogppabdaaFlK
namespace Go.Proofs.Ytcnnifogppabdaa
open Go.RowKit
set_option linter.unusedVariables false
set_option maxRecDepth 100000

attribute [local go_sem ↓] exec_appB
theorem can_f : canN [102] = true := by decide

theorem own_apart {w w1 w2 : World} {base : Nat} {A : Option Addr} {n d : Nat} {v : Value} {l k : Bs} (h : OwnB w base (.slice A n d) l) (hB : Below w.heap.size w w1) (hv : OwnB w1 w.heap.size v k) (hg : w1.grownBy w2 v.ownBlock) : Bys w2 A l := by
  have h1 := (h.below hB (Nat.le_refl _)).kept hg (by
    cases hb : (Value.slice A n d).ownBlock with
    | none => exact .inl rfl
    | some k =>
      right
      intro e
      have h2 := (h.lt k hb).2
      have h3 := (hv.lt k e.symm).1
      omega)
  obtain ⟨A', c', hA, hy, _⟩ := h1.bys
  injection hA with hA
  rw [hA]
  exact hy
set_option maxHeartbeats 4000000 in
theorem Short_walk (t : Int) (A0 A1 : Option Addr) (l0 l1 : Bs) (c0 c1 : Nat) (w : World) (h0 : Bys w A0 l0) (h1 : Bys w A1 l1) (k0 : l0.length ≤ c0) (k1 : l1.length ≤ c1) (m0 : c0 ≤ 9223372036854775807) (m1 : c1 ≤ 9223372036854775807) (n0 : A0 = none → c0 = 0) (n1 : A1 = none → c1 = 0) :
    Calls Try.prog 7 #[.int .i64 t, .slice A0 l0.length c0, .slice A1 l1.length c1] w fun e w' => e = .returned (.bool true) ∧ Below w.heap.size w w' := by
  obtain ⟨p0, hp0⟩ : ∃ k, k = min l0.length 1000 := ⟨_, rfl⟩
  obtain ⟨p1, hp1⟩ : ∃ k, k = min l1.length 1000 := ⟨_, rfl⟩
  have r0 := slice_pre A0 l0 c0 p0 (min (l0.length : Int) 1000) (by omega) k0 (by omega)
  have r1 := slice_pre A1 l1 c1 p1 (min (l1.length : Int) 1000) (by omega) k1 (by omega)
  have q0 := h0.pre p0
  have q1 := h1.pre p1
  have e0 : (l0.take p0).length = p0 := by rw [List.length_take]; omega
  have e1 : (l1.take p1).length = p1 := by rw [List.length_take]; omega
  have i0 : ∀ p, A0 = some p → 0 < p0 → p.block < w.heap.size := fun p hp hn => h0.inside p hp (by omega)
  have i1 : ∀ p, A1 = some p → 0 < p1 → p.block < w.heap.size := fun p hp hn => h1.inside p hp (by omega)
  rw [e0] at r0
  rw [e1] at r1
  have k0' : p0 ≤ c0 := by omega
  have k1' : p1 ≤ c1 := by omega
  have z0 : p0 ≤ 1000 := by omega
  have z1 : p1 ≤ 1000 := by omega
  generalize l0.take p0 = X at *
  generalize l1.take p1 = Y at *
  clear hp0 hp1 h0 h1 k0 k1
  obtain ⟨r, hr, hr2⟩ := place_mod t 1200 (by omega) (by omega)
  obtain ⟨q, hq⟩ : ∃ q, q = min r p0 := ⟨_, rfl⟩
  have r2 := slice_pre A0 X c0 q (min (r : Int) (p0 : Int)) (by omega) (by omega) (by omega)
  rw [e0] at r2
  have R1 := append_cut (room := 1048576) (n := [102]) (b := X) (r := r) can_f (by omega) (by omega)
  rw [e0, ← hq] at R1
  have qw := q0.pre q
  have ew : (X.take q).length = q := by rw [List.length_take]; omega
  rw [ew] at r2
  have R2 := append_more (room := 1048576) (n := [102]) (a := X.take q) (b := Y) (s := 0) (f := -1) can_f (by omega) (by omega) (by omega)
  rw [e1] at R2
  have hql : q ≤ 1000 := by omega
  have hqp : q ≤ p0 := by omega
  generalize hWt : X.take q = V at *
  have N := Lib.hid (New_dk 1048576 w (by omega))
  have C1 := Lib.hid (fun P W (h : DK P w.heap.size 0 (newD 1048576) W) => Short_dk (r : Int) W h (by omega) (by omega))
  have C2 := Lib.hid (fun P W (h : DK P w.heap.size 0 { newD 1048576 with short := (r : Int) } W) (hB : Below w.heap.size w W) => by
    have := Append_dk A0 X p0 c0 [102] W h (by unfold maxLen; omega) e0.symm (by simp) (q0.on hB) (by omega) m0 n0 (by omega) (fun hn p hp => i0 p hp (by omega))
    rw [R1] at this
    exact this)
  have C3 := Lib.hid (fun P W (h : DK P w.heap.size 1 (oneD 1048576 [102] V 0 (-1) (-1)) W) (hB : Below w.heap.size w W) => by
    have := Append_dk A1 Y p1 c1 [102] W h (by unfold maxLen; omega) e1.symm (by simp) (q1.on hB) (by omega) m1 n1 (by omega) (fun hn p hp => i1 p hp (by omega))
    rw [R2, show burnt (-1) = -1 from rfl] at this
    exact this)
  have C4 := Lib.hid (fun P W (h : DK P w.heap.size 2 (oneD 1048576 [102] (V ++ Y) 0 (-1) (-1)) W) => Read_dk (f := ⟨[102], V ++ Y, 0⟩) [102] W h (find_one _ _ _) (by simp))
  have C5 := Lib.hid (fun W (hB : Below w.heap.size w W) => CloneB_any A0 V q c0 W (qw.on hB) ew.symm (by omega) (fun p hp hn => Nat.lt_of_lt_of_le (i0 p hp (by omega)) hB.size))
  have C6 := Lib.hid (fun W (hB : Below w.heap.size w W) v (hO : OwnB W w.heap.size v V) => run_append_src 30 hO A1 c1 p1 Y e1.symm (q1.on hB) n1 (by omega) hB.size)
  have C7 := Lib.hid (fun B E d f n m W (hB : Bys W B (V ++ Y)) (hE : Bys W E (V ++ Y)) (hn : n = (V ++ Y).length) (hm : m = (V ++ Y).length) => by have := EqualB_any B E (V ++ Y) (V ++ Y) n m d f W hB hE hn hm; rw [show ((V ++ Y) == (V ++ Y)) = true by simp] at this; exact this)
  have HWl := Lib.hid ew
  have HVY : Hid ((V ++ Y).length = q + p1) := Lib.hid (by rw [List.length_append, ew, e1])
  have hr' : wrap64 ((IntKind.u64.wrap t).tmod 1200) = r := hr
  have HR := Lib.hid hr'
  have h31 : ¬ (31 : Int) = 0 := by omega
  have f1 : ((q : Int) == (q : Int)) = true := by simp
  have f2 : ((p1 : Int) == (p1 : Int)) = true := by simp
  clear R1 R2 hr hr' h31 q0 q1 e0 e1 i0 i1 qw ew n0 n1
  by_cases hp : r < p0
  · have g1 : (r : Int) < p0 := by omega
    have g2 : decide (p0 ≤ r) = false := by simp; omega
    simp only [if_pos hp] at C2
    clear hq hp
    go_enter Try.func7, Try.ntmps7
    go_wp2_with fail
    with_reducible refine Calls.mono N.out ?_
    rintro e w1 ⟨⟨P, rfl, hD1⟩, hB1⟩
    have HD1 := Lib.hid hD1
    clear hD1
    go_wp2_with fail
    go_quiet (fail)
    go_wp2_with fail
    rw [HR.out]
    have hB1 := below_drewN hB1 nq
    with_reducible refine Calls.mono (C1.out P _ (HD1.out.drewN nq)) ?_
    rintro e w2 ⟨rfl, hD2, b2⟩
    have hB2 := Below.trans hB1 b2
    have HD2 := Lib.hid hD2
    clear hD2 b2 hB1 HD1 N C1
    go_wp2_with fail
    with_reducible refine Calls.mono (C2.out P _ HD2.out hB2) ?_
    rintro e w3 ⟨rfl, hD3, b3⟩
    have hB3 := Below.trans hB2 b3
    have HD3 := Lib.hid hD3
    clear hD3 b3 hB2 HD2 C2
    go_wp2_with fail
    with_reducible refine Calls.mono (C3.out P _ HD3.out hB3) ?_
    rintro e w4 ⟨rfl, hD4, b4⟩
    have hB4 := Below.trans hB3 b4
    have HD4 := Lib.hid hD4
    clear hD4 b4 hB3 HD3 C3
    go_wp2_with fail
    with_reducible refine Calls.mono (C4.out P _ HD4.out) ?_
    rintro e w5 ⟨⟨v5, rfl, ho5⟩, b5⟩
    have hB5 := Below.trans hB4 (b5.mono hB4.size)
    have ho5 := OwnB.of ho5 rfl
    obtain ⟨E5, d5, rfl, y5, _⟩ := ho5.bys
    have HO5 := Lib.hid ho5
    clear ho5 b5 hB4 HD4 C4
    rw [HVY.out]
    go_wp2_with fail
    with_reducible refine Calls.mono (C5.out _ hB5) ?_
    rintro e w6 ⟨v6, rfl, ho6, b6⟩
    have hB6 := Below.trans hB5 (b6.mono hB5.size)
    have ho6' := ho6.mono hB5.size
    obtain ⟨v7, w7, hrun, ho7, hg7⟩ := C6.out w6 hB6 v6 ho6'
    have hB7 := Below.grown hB6 hg7 hB6.size (fun k e => (ho6'.lt k e).1)
    have y7 := own_apart HO5.out b6 ho6 hg7
    obtain ⟨E6, d6, rfl, _⟩ := ho6.bys
    obtain ⟨E7, d7, rfl, y8, _⟩ := ho7.bys
    have hap := appB_of hrun
    have HB7 := Lib.hid hB7
    rw [HVY.out] at hap
    clear hrun ho7 hg7 ho6 ho6' b6 hB6 y5 HO5 hB5 C5 C6 hB7
    rw [HWl.out] at hap ⊢
    go_wp2_with fail
    with_reducible refine Calls.mono (C7.out _ _ _ _ _ _ _ y7 y8 HVY.out.symm HVY.out.symm) ?_
    rintro e w8 ⟨rfl, rfl⟩
    go_wp2_with fail
    go_ret
    exact ⟨rfl, HB7.out⟩
  · have g1 : (p0 : Int) ≤ r := by omega
    have g2 : decide (r < p0) = false := by simp; omega
    simp only [if_neg hp] at C2
    clear hq hp
    go_enter Try.func7, Try.ntmps7
    go_wp2_with fail
    with_reducible refine Calls.mono N.out ?_
    rintro e w1 ⟨⟨P, rfl, hD1⟩, hB1⟩
    have HD1 := Lib.hid hD1
    clear hD1
    go_wp2_with fail
    go_quiet (fail)
    go_wp2_with fail
    rw [HR.out]
    have hB1 := below_drewN hB1 nq
    with_reducible refine Calls.mono (C1.out P _ (HD1.out.drewN nq)) ?_
    rintro e w2 ⟨rfl, hD2, b2⟩
    have hB2 := Below.trans hB1 b2
    have HD2 := Lib.hid hD2
    clear hD2 b2 hB1 HD1 N C1
    go_wp2_with fail
    with_reducible refine Calls.mono (C2.out P _ HD2.out hB2) ?_
    rintro e w3 ⟨rfl, hD3, b3⟩
    have hB3 := Below.trans hB2 b3
    have HD3 := Lib.hid hD3
    clear hD3 b3 hB2 HD2 C2
    go_wp2_with fail
    with_reducible refine Calls.mono (C3.out P _ HD3.out hB3) ?_
    rintro e w4 ⟨rfl, hD4, b4⟩
    have hB4 := Below.trans hB3 b4
    have HD4 := Lib.hid hD4
    clear hD4 b4 hB3 HD3 C3
    go_wp2_with fail
    with_reducible refine Calls.mono (C4.out P _ HD4.out) ?_
    rintro e w5 ⟨⟨v5, rfl, ho5⟩, b5⟩
    have hB5 := Below.trans hB4 (b5.mono hB4.size)
    have ho5 := OwnB.of ho5 rfl
    obtain ⟨E5, d5, rfl, y5, _⟩ := ho5.bys
    have HO5 := Lib.hid ho5
    clear ho5 b5 hB4 HD4 C4
    rw [HVY.out]
    go_wp2_with fail
    with_reducible refine Calls.mono (C5.out _ hB5) ?_
    rintro e w6 ⟨v6, rfl, ho6, b6⟩
    have hB6 := Below.trans hB5 (b6.mono hB5.size)
    have ho6' := ho6.mono hB5.size
    obtain ⟨v7, w7, hrun, ho7, hg7⟩ := C6.out w6 hB6 v6 ho6'
    have hB7 := Below.grown hB6 hg7 hB6.size (fun k e => (ho6'.lt k e).1)
    have y7 := own_apart HO5.out b6 ho6 hg7
    obtain ⟨E6, d6, rfl, _⟩ := ho6.bys
    obtain ⟨E7, d7, rfl, y8, _⟩ := ho7.bys
    have hap := appB_of hrun
    have HB7 := Lib.hid hB7
    rw [HVY.out] at hap
    clear hrun ho7 hg7 ho6 ho6' b6 hB6 y5 HO5 hB5 C5 C6 hB7
    rw [HWl.out] at hap ⊢
    go_wp2_with fail
    with_reducible refine Calls.mono (C7.out _ _ _ _ _ _ _ y7 y8 HVY.out.symm HVY.out.symm) ?_
    rintro e w8 ⟨rfl, rfl⟩
    go_wp2_with fail
    go_ret
    exact ⟨rfl, HB7.out⟩
end Go.Proofs.Ytcnnifogppabdaa
