/-
  The walk of FilesStay.
-/
import Derived.Test.YtcnnifogppabdaaFlP
namespace Go.Proofs.Ytcnnifogppabdaa
open Go.RowKit Go.Maps
set_option linter.unusedVariables false
set_option maxRecDepth 100000

theorem can_x : canN [120] = true := by decide
attribute [local go_sem ↓] exec_appB0

theorem row_bys' {w : World} {n c : Nat} {a : Option Addr} {l : Bs} (h : w.ownsRow 0 5 1 (.slice a n c) n (l.map byteV)) (hn : l.length = n) : Bys w a l := by
  subst hn
  obtain ⟨a', c', hv, _, _, _, hb⟩ := row_bys h
  injection hv with e
  rw [e]
  exact hb
set_option maxHeartbeats 4000000 in
theorem Stay_walk (A0 A1 : Option Addr) (l0 l1 : Bs) (c0 c1 : Nat) (keep : Int) (turn : Bool) (w : World) (h0 : Bys w A0 l0) (h1 : Bys w A1 l1) (k0 : l0.length ≤ c0) (k1 : l1.length ≤ c1) (m0 : c0 ≤ 9223372036854775807) (m1 : c1 ≤ 9223372036854775807) (n0 : A0 = none → c0 = 0) (n1 : A1 = none → c1 = 0) :
    Calls Try.prog 4 #[.slice A0 l0.length c0, .slice A1 l1.length c1, .int .i64 keep, .bool turn] w fun e w' => e = .returned (.bool true) ∧ Below w.heap.size w w' := by
  obtain ⟨p0, hp0⟩ : ∃ k, k = min l0.length 1000 := ⟨_, rfl⟩
  obtain ⟨p1, hp1⟩ : ∃ k, k = min l1.length 1000 := ⟨_, rfl⟩
  have r0 := slice_pre A0 l0 c0 p0 (min (l0.length : Int) 1000) (by omega) k0 (by omega)
  have r1 := slice_pre A1 l1 c1 p1 (min (l1.length : Int) 1000) (by omega) k1 (by omega)
  have q0 := h0.pre p0
  have q1 := h1.pre p1
  have e0 : (l0.take p0).length = p0 := by rw [List.length_take]; omega
  have e1 : (l1.take p1).length = p1 := by rw [List.length_take]; omega
  have i0 : ∀ p, A0 = some p → 0 < p0 → p.block < w.heap.size := fun p hp hn => h0.inside p hp (by omega)
  have i1 : ∀ p, A1 = some p → 0 < p1 → p.block < w.heap.size := fun p hp hn => h1.inside p hp (by omega)
  rw [e0] at r0
  rw [e1] at r1
  have k0' : p0 ≤ c0 := by omega
  have k1' : p1 ≤ c1 := by omega
  have z0 : p0 ≤ 1000 := by omega
  have z1 : p1 ≤ 1000 := by omega
  generalize l0.take p0 = X at *
  generalize l1.take p1 = Y at *
  clear hp0 hp1 h0 h1 k0 k1
  obtain ⟨q, hq⟩ : ∃ q, q = min (max keep 0).toNat p1 := ⟨_, rfl⟩
  have hkq : min (max keep 0) (p1 : Int) = q := by omega
  have hq2 : q ≤ 1000 := by omega
  have r2 := slice_pre A1 Y c1 q (q : Int) (by omega) (by omega) rfl
  have e2 : (Y.take q).length = q := by rw [List.length_take]; omega
  rw [e1, e2] at r2
  have q2 := q1.pre q
  have R1 := append_first (room := 1048576) (n := [120]) (b := X) can_x (by omega) (by omega)
  have R2 := sync_one (room := 1048576) (n := [120]) (b := X) (s := 0) (f := -1) (by omega)
  have R3 := append_more (room := 1048576) (n := [120]) (a := X) (b := Y) (s := p0) (f := -1) can_x (by omega) (by omega) (by omega)
  have R4 := crash_one (room := 1048576) (n := [120]) (X := X) (Y := Y) ⟨[120], keep, turn⟩ rfl
  rw [e0] at R1 R2 R4
  rw [e1] at R3 R4
  rw [← hq] at R4
  obtain ⟨F, hF⟩ : ∃ F, F = if 0 < q ∧ turn = true then turnLast (X ++ Y.take q) else X ++ Y.take q := ⟨_, rfl⟩
  have R4' : crashS [⟨[120], keep, turn⟩] (oneD 1048576 [120] (X ++ Y) p0 (-1) (-1)).S = (oneD 1048576 [120] F (p0 + q) (-1) (-1)).S := by rw [hF]; exact R4
  have hFl : F.length = p0 + q := by
    rw [hF]
    split
    · rw [turnLast_len, List.length_append, e0, e2]
    · rw [List.length_append, e0, e2]
  have N := Lib.hid (New_dk 1048576 w (by omega))
  have C2 := Lib.hid (fun P W (h : DK P w.heap.size 0 (newD 1048576) W) (hB : Below w.heap.size w W) => by
    have := Append_dk A0 X p0 c0 [120] W h (by unfold maxLen; omega) e0.symm (by simp) (q0.on hB) (by omega) m0 n0 (by omega) (fun hn p hp => i0 p hp (by omega))
    rw [R1] at this
    exact this)
  have C3 := Lib.hid (fun P W (h : DK P w.heap.size 1 (oneD 1048576 [120] X 0 (-1) (-1)) W) => by
    have := Sync_dk [120] W h (by simp)
    rw [R2, show burnt (-1) = -1 from rfl] at this
    exact this)
  have C4 := Lib.hid (fun P W (h : DK P w.heap.size 2 (oneD 1048576 [120] X p0 (-1) (-1)) W) (hB : Below w.heap.size w W) => by
    have := Append_dk A1 Y p1 c1 [120] W h (by unfold maxLen; omega) e1.symm (by simp) (q1.on hB) (by omega) m1 n1 (by omega) (fun hn p hp => i1 p hp (by omega))
    rw [R3, show burnt (-1) = -1 from rfl] at this
    exact this)
  have C5 := Lib.hid (fun P W (h : DK P w.heap.size 3 (oneD 1048576 [120] (X ++ Y) p0 (-1) (-1)) W) => by
    have := Crash_dk (some ⟨W.heap.size, 0, none⟩) [⟨[120], keep, turn⟩] 1 1 (W.alloc (.cells #[.string (bs [120]), .int .i64 keep, .bool turn] 44)) (h.alloc _) rfl tls_one (by simp) (by intro x hx; simp at hx; subst hx; unfold maxLen; simp)
    rw [R4'] at this
    exact this)
  have C6 := Lib.hid (fun W (hB : Below w.heap.size w W) => CloneW_any A0 X p0 c0 W (q0.on hB) e0.symm (by omega) (fun p hp hn => Nat.lt_of_lt_of_le (i0 p hp (by omega)) hB.size))
  have C7 := Lib.hid (fun P W (h : DK P w.heap.size 4 (oneD 1048576 [120] F (p0 + q) (-1) (-1)) W) => Read_dk (f := ⟨[120], F, p0 + q⟩) [120] W h (find_one _ _ _) (by simp))
  have C8 := Lib.hid (fun P W (h : DK P w.heap.size 4 (oneD 1048576 [120] F (p0 + q) (-1) (-1)) W) => by
    have := Synced_dk [120] W h (by simp)
    rw [show (oneD 1048576 [120] F (p0 + q) (-1) (-1)).S = [⟨[120], F, p0 + q⟩] from rfl, find_one] at this
    exact this)
  have C9 := Lib.hid (fun P W (h : DK P w.heap.size 4 (oneD 1048576 [120] F (p0 + q) (-1) (-1)) W) => by
    have := Used_dk W h
    rw [show used (oneD 1048576 [120] F (p0 + q) (-1) (-1)).S = F.length by simp [oneD, used], hFl] at this
    exact this)
  have C10 := Lib.hid (fun B E d f n m W (hB : Bys W B F) (hE : Bys W E F) (hn : n = F.length) (hm : m = F.length) => by have := EqualB_any B E F F n m d f W hB hE hn hm; rw [show (F == F) = true by simp] at this; exact this)
  have HQ1 := Lib.hid (fun W (hB : Below w.heap.size w W) => q2.on hB)
  have HE0 := Lib.hid e0
  have HE2 := Lib.hid e2
  have HF := Lib.hid hF
  have HFL := Lib.hid hFl
  have HN1 := Lib.hid n1
  have HKQ := Lib.hid hkq
  have f1 : ((p0 : Int) != (p0 : Int)) = false := by simp
  have f2 : ((p1 : Int) != (p1 : Int)) = false := by simp
  clear R1 R2 R3 R4 R4' q0 q1 q2 e0 e1 e2 i0 i1 n0 n1 hq hkq hF hFl
  go_enter Try.func4, Try.ntmps4
  go_wp2_with fail
  with_reducible refine Calls.mono N.out ?_
  rintro e w1 ⟨⟨P, rfl, hD1⟩, hB1⟩
  have HD1 := Lib.hid hD1
  clear hD1
  go_wp2_with fail
  go_quiet (fail)
  go_wp2_with fail
  have hB1 := below_drewN hB1 nq
  with_reducible refine Calls.mono (C2.out P _ (HD1.out.drewN nq) hB1) ?_
  rintro e w3 ⟨rfl, hD3, b3⟩
  have hB3 := Below.trans hB1 b3
  have HD3 := Lib.hid hD3
  clear hD3 b3 hB1 HD1 C2 N
  go_wp2_with fail
  with_reducible refine Calls.mono (C3.out P _ HD3.out) ?_
  rintro e w4 ⟨rfl, hD4, b4⟩
  have hB4 := Below.trans hB3 b4
  have HD4 := Lib.hid hD4
  clear hD4 b4 hB3 HD3 C3
  go_wp2_with fail
  with_reducible refine Calls.mono (C4.out P _ HD4.out hB4) ?_
  rintro e w5 ⟨rfl, hD5, b5⟩
  have hB5 := Below.trans hB4 b5
  have HD5 := Lib.hid hD5
  clear hD5 b5 hB4 HD4 C4
  go_wp2_with fail
  with_reducible refine Calls.mono (C5.out P _ HD5.out) ?_
  rintro e w6 ⟨rfl, hD6, b6⟩
  have hB6 := Below.trans (Below.alloc hB5 hB5.size _) b6
  have HD6 := Lib.hid hD6
  clear hD6 b6 hB5 HD5 C5
  go_wp2_with fail
  rw [HKQ.out]
  have FA : ∀ w' v', Below w6.heap.size w6.drew w' → w'.ownsRow w6.heap.size 5 1 v' p0 (X.map byteV) → appB v' (.slice A1 q c1) 30 w' = .ok (.value (appV v' (.slice A1 q c1) w')) (appW v' (.slice A1 q c1) w') ∧
      ((appW v' (.slice A1 q c1) w').ownsRow 0 5 1 (appV v' (.slice A1 q c1) w') (X ++ Y.take q).length ((X ++ Y.take q).map byteV) ∧ Below w6.heap.size w6 (appW v' (.slice A1 q c1) w') ∧ ∀ k, (appV v' (.slice A1 q c1) w').ownBlock = some k → w6.heap.size ≤ k) := by
    intro w' v' hb ho
    have hb6 : Below w6.heap.size w6 w' := ⟨hb.os, hb.tape, hb.output, hb.size, hb.block⟩
    have hlo : ∀ k, v'.ownBlock = some k → w6.heap.size ≤ k := fun k e => by
      rcases ho.2 with ⟨h, _⟩ | ⟨g, cap, cur, h, hg, _⟩
      · rw [h] at e; cases e
      · rw [h] at e; injection e with e; subst e; exact hg
    have ho0 : w'.ownsRow 0 5 1 v' X.length (X.map byteV) := by
      rw [HE0.out]
      refine ⟨ho.1, ?_⟩
      rcases ho.2 with h | ⟨g, cap, cur, h, hg, r⟩
      · exact .inl h
      · exact .inr ⟨g, cap, cur, h, Nat.zero_le _, r⟩
    obtain ⟨v7, w7, hrun, o7, g7, k7⟩ := run_append_rowR 30 ho0 A1 c1 q (Y.take q) HE2.out.symm ((HQ1.out w6 hB6).on hb6) HN1.out (by rw [HE0.out, HE2.out]; omega)
    obtain ⟨a1, a2, a3⟩ := appB_VW hrun
    refine ⟨a1, ?_, ?_, ?_⟩
    · rw [a2, a3]; exact o7
    · rw [a3]; exact hb6.grown g7 (Nat.le_trans (Nat.le_refl _) hb.size) hlo
    · intro k e
      rw [a2] at e
      rcases k7 k e with h | h
      · exact hlo k h
      · exact Nat.le_trans hb.size h
  have FA1 : ∀ w' v', Below w6.heap.size w6.drew w' → w'.ownsRow w6.heap.size 5 1 v' p0 (X.map byteV) → appB v' (.slice A1 q c1) 30 w' = .ok (.value (appV v' (.slice A1 q c1) w')) (appW v' (.slice A1 q c1) w') := fun w' v' h1 h2 => (FA w' v' h1 h2).1
  have FA2 := Lib.hid (fun w' v' h1 h2 => (FA w' v' h1 h2).2)
  have C6' := Lib.hid (C6.out w6.drew (below_drewN hB6 1))
  clear FA
  go_region_held3 (fun w' => True)
    (first | trivial)
    (first
      | (go_at_call 19; (with_reducible refine (C6'.out).mono ?_); rintro e w' ⟨v', rfl, hox, hBx, _⟩; replace hBx : Below w6.heap.size w6.drew w' := hBx; replace hox : w'.ownsRow w6.heap.size 5 1 v' p0 (X.map byteV) := hox))
  obtain ⟨o7, b7, k7⟩ := FA2.out w' v' hBx hox
  generalize appV v' (.slice A1 q c1) w' = v7 at *
  generalize appW v' (.slice A1 q c1) w' = w7 at *
  have hzl : (X ++ Y.take q).length = p0 + q := by rw [List.length_append, HE0.out, HE2.out]
  rw [hzl] at o7
  obtain ⟨a7, c7, rfl, hc7, hm7, _⟩ := row_slice o7
  have hc7' : c7 ≤ 9223372036854775807 := by unfold maxLen at hm7; omega
  have hD7 : DK P w.heap.size 4 (oneD 1048576 [120] F (p0 + q) (-1) (-1)) w7 := HD6.out.below b7
  have hB7 : Below w.heap.size w w7 := Below.trans hB6 (b7.mono hB6.size)
  have hn1 : 0 < q → 1 ≤ p0 + q := fun h => by omega
  have hn2 : p0 + q ≤ 2000 := by omega
  generalize X ++ Y.take q = Z at *
  generalize p0 + q = n at *
  have f3 : ((n : Int) == (n : Int)) = true := by simp
  clear FA1 FA2 C6' hBx hox hm7 HE0 HE2 HQ1
  by_cases hqt : 0 < q ∧ turn = true
  · obtain ⟨hq0, rfl⟩ := hqt
    have hFe := HF.out
    rw [if_pos ⟨hq0, rfl⟩] at hFe
    have g1 : (0 : Int) < q := by omega
    have hm1 := hn1 hq0
    have ho := (RowB.of (l := Z) o7 rfl).2
    rcases ho with ⟨_, h0⟩ | ⟨gb, cap, hsl, _, _, _, hB⟩
    · rw [h0] at hzl
      simp at hzl
      omega
    injection hsl with e1 e2 e3
    subst e1
    obtain ⟨x, hx⟩ : ∃ x, x = Z[n - 1]'(by omega) := ⟨_, rfl⟩
    have y := hB.cell (n - 1) (by omega)
    rw [← hx] at y
    have zf := hB.frozen (n - 1)
    have hxb := x.toNat_lt
    have p3 : ((n : Int) - 1).toNat = n - 1 := by omega
    have p4 : (1 : Int) ≤ n := by omega
    have p5 : 0 < n := by omega
    have p6 : (n : Int) - 1 < n := by omega
    have p7 : (0 : Int) ≤ (n : Int) - 1 := by omega
    have HXX : Hid (bits .xor .u8 (x.toNat : Int) 1 = ((x ^^^ 1).toNat : Int)) := Lib.hid ((xor_u8' x.toNat 1 x.toNat_lt (by omega)).trans (by simp))
    have hset : Z.set (n - 1) (x ^^^ 1) = F := by
      rw [hFe]
      unfold turnLast
      rw [hzl, hx, List.getD_eq_getElem?_getD, List.getElem?_eq_getElem (by omega)]
      rfl
    have o8 := row_setB o7 (n - 1) (x ^^^ 1) (by omega)
    rw [hset] at o8
    have b8 : Below w6.heap.size w6 (w7.setCell ⟨gb, n - 1, none⟩ (.int .u8 (x ^^^ 1).toNat)) := b7.setCell (k7 gb rfl) _
    have hD8 : DK P w.heap.size 4 (oneD 1048576 [120] F n (-1) (-1)) (w7.setCell ⟨gb, n - 1, none⟩ (.int .u8 (x ^^^ 1).toNat)) := HD6.out.below b8
    have hB8 : Below w.heap.size w (w7.setCell ⟨gb, n - 1, none⟩ (.int .u8 (x ^^^ 1).toNat)) := Below.trans hB6 (b8.mono hB6.size)
    have HO8 := Lib.hid o8
    have HD8 := Lib.hid hD8
    have HB8 := Lib.hid hB8
    clear hx hB e2 e3 hFe hset o7 o8 b8 hD8 hB8 hD7 hB7 b7 k7 hzl hn1
    go_wp2_with fail
    rw [HXX.out]
    have o8 := HO8.out
    have hD8 := HD8.out
    have hB8 := HB8.out
    clear HO8 HD8 HB8
    with_reducible refine Calls.mono (C7.out P _ hD8) ?_
    rintro e w9 ⟨⟨v9, rfl, o9⟩, b9⟩
    have hB9 : Below w.heap.size w w9 := Below.trans hB8 (b9.mono hB8.size)
    have hD9 := hD8.below b9
    have o8' := row_block o8 (w' := w9) fun k e => by
      obtain ⟨cur, hc⟩ := row_lt o8 e
      exact b9.block k (some_lt hc)
    have y8 := row_bys' o8' (by rw [HFL.out])
    have o9 := OwnB.of o9 rfl
    obtain ⟨E9, d9, rfl, y9, _⟩ := o9.bys
    have HD9 := Lib.hid hD9
    have HB9 := Lib.hid hB9
    clear o8 o8' o9 b9 hD8 hB8 hD9 hB9
    rw [HFL.out]
    go_wp2_with fail
    with_reducible refine Calls.mono (C10.out _ _ _ _ _ _ _ y9 y8 HFL.out.symm HFL.out.symm) ?_
    rintro e w10 ⟨rfl, rfl⟩
    go_wp2_with fail
    with_reducible refine Calls.mono (C8.out P _ HD9.out) ?_
    rintro e w10 ⟨rfl, rfl⟩
    go_wp2_with fail
    with_reducible refine Calls.mono (C9.out P _ HD9.out) ?_
    rintro e w10 ⟨rfl, rfl⟩
    go_wp2_with fail
    go_ret
    exact ⟨rfl, HB9.out⟩
  · have hFe := HF.out
    rw [if_neg hqt] at hFe
    subst hFe
    have o8 := o7
    have hD8 := hD7
    have hB8 := hB7
    have HO8 := Lib.hid o8
    have HD8 := Lib.hid hD8
    have HB8 := Lib.hid hB8
    clear o7 o8 hD8 hB8 hD7 hB7 b7 k7 hzl hn1
    cases turn with
    | false =>
      clear hqt
      go_wp2_with fail
      have o8 := HO8.out
      have hD8 := HD8.out
      have hB8 := HB8.out
      clear HO8 HD8 HB8
      with_reducible refine Calls.mono (C7.out P _ hD8) ?_
      rintro e w9 ⟨⟨v9, rfl, o9⟩, b9⟩
      have hB9 : Below w.heap.size w w9 := Below.trans hB8 (b9.mono hB8.size)
      have hD9 := hD8.below b9
      have o8' := row_block o8 (w' := w9) fun k e => by
        obtain ⟨cur, hc⟩ := row_lt o8 e
        exact b9.block k (some_lt hc)
      have y8 := row_bys' o8' (by rw [HFL.out])
      have o9 := OwnB.of o9 rfl
      obtain ⟨E9, d9, rfl, y9, _⟩ := o9.bys
      have HD9 := Lib.hid hD9
      have HB9 := Lib.hid hB9
      clear o8 o8' o9 b9 hD8 hB8 hD9 hB9
      rw [HFL.out]
      go_wp2_with fail
      with_reducible refine Calls.mono (C10.out _ _ _ _ _ _ _ y9 y8 HFL.out.symm HFL.out.symm) ?_
      rintro e w10 ⟨rfl, rfl⟩
      go_wp2_with fail
      with_reducible refine Calls.mono (C8.out P _ HD9.out) ?_
      rintro e w10 ⟨rfl, rfl⟩
      go_wp2_with fail
      with_reducible refine Calls.mono (C9.out P _ HD9.out) ?_
      rintro e w10 ⟨rfl, rfl⟩
      go_wp2_with fail
      go_ret
      exact ⟨rfl, HB9.out⟩
    | true =>
      have g0 : ¬ 0 < q := fun h => hqt ⟨h, rfl⟩
      have g1 : decide (0 < q) = false := by simp; omega
      have g2 : (q : Int) ≤ 0 := by omega
      clear hqt
      go_wp2_with fail
      have o8 := HO8.out
      have hD8 := HD8.out
      have hB8 := HB8.out
      clear HO8 HD8 HB8
      with_reducible refine Calls.mono (C7.out P _ hD8) ?_
      rintro e w9 ⟨⟨v9, rfl, o9⟩, b9⟩
      have hB9 : Below w.heap.size w w9 := Below.trans hB8 (b9.mono hB8.size)
      have hD9 := hD8.below b9
      have o8' := row_block o8 (w' := w9) fun k e => by
        obtain ⟨cur, hc⟩ := row_lt o8 e
        exact b9.block k (some_lt hc)
      have y8 := row_bys' o8' (by rw [HFL.out])
      have o9 := OwnB.of o9 rfl
      obtain ⟨E9, d9, rfl, y9, _⟩ := o9.bys
      have HD9 := Lib.hid hD9
      have HB9 := Lib.hid hB9
      clear o8 o8' o9 b9 hD8 hB8 hD9 hB9
      rw [HFL.out]
      go_wp2_with fail
      with_reducible refine Calls.mono (C10.out _ _ _ _ _ _ _ y9 y8 HFL.out.symm HFL.out.symm) ?_
      rintro e w10 ⟨rfl, rfl⟩
      go_wp2_with fail
      with_reducible refine Calls.mono (C8.out P _ HD9.out) ?_
      rintro e w10 ⟨rfl, rfl⟩
      go_wp2_with fail
      with_reducible refine Calls.mono (C9.out P _ HD9.out) ?_
      rintro e w10 ⟨rfl, rfl⟩
      go_wp2_with fail
      go_ret
      exact ⟨rfl, HB9.out⟩
end Go.Proofs.Ytcnnifogppabdaa
