/-
  The landed rdata: areTexts, areOptions, shape, firstName.
-/
import Derived.Test.YtgfahkgnblkhaaaGreatDoorRcL
import Derived.Test.YtgfahkgnblkhaaaGreatDoorNmC
namespace Go.Proofs.YtgfahkgnblkhaaaGreatDoor
open Go.RowKit
set_option linter.unusedVariables false
set_option maxRecDepth 100000

set_option maxHeartbeats 2000000 in
set_option maxRecDepth 100000 in
theorem areTexts_any (A : Option Addr) (l : Bs) (c : Nat) (w : World) (hS : Bys w A l) (hl : l.length ≤ 65535) : Calls Tryz.prog 104 #[.slice A l.length c] w fun e w' => e = .returned (.bool (txs l)) ∧ w = w' := by
  have H0 : Hid (txs l = txsAt l 0) := Lib.hid (txsAt_zero l).symm
  go_enter Tryz.func104, Tryz.ntmps104
  go_wp2_with fail
  go_loop [3] (fun v => ∃ a : Nat, v = .int .i64 a ∧ a ≤ l.length + 255 ∧ Hid (txs l = txsAt l a)) (fun v => l.length + 256 - (intOf v).toNat)
  case atStart => exact ⟨0, rfl, by omega, H0⟩
  case round =>
    clear H0
    obtain ⟨a, rfl, ha, hT⟩ := hrel
    by_cases hlt : a < l.length
    · obtain ⟨g, off, rfl, hcs⟩ := hS (by omega)
      have y := hcs a hlt
      have ht := (l[a]).toNat_lt
      have HT := Lib.hid (hT.out.trans (txsAt_step hlt))
      clear hT hcs hS
      generalize (l[a]).toNat = m at *
      have hlt' : (a : Int) < (l.length : Int) := by omega
      go_wp2_with fail
      go_round
      case rel => exact ⟨a + 1 + m, by go_num, by omega, HT⟩
      case measure => simp [intOf]; omega
    · have HT := Lib.hid (hT.out.trans (txsAt_end (by omega)))
      have hlt' : ¬ (a : Int) < (l.length : Int) := by omega
      clear hT hS
      have hb : ((a : Int) == (l.length : Int)) = decide (a = l.length) := by rw [Bool.eq_iff_iff]; simp; omega
      rw [← hb] at HT
      clear hb
      go_wp2_with fail
      go_ret
      exact ⟨by rw [HT.out]; rfl, rfl⟩

set_option maxHeartbeats 2000000 in
set_option maxRecDepth 100000 in
theorem areOptions_any (A : Option Addr) (l : Bs) (c : Nat) (w : World) (hS : Bys w A l) (hl : l.length ≤ 65535) : Calls Tryz.prog 105 #[.slice A l.length c] w fun e w' => e = .returned (.bool (opts l)) ∧ Below w.heap.size w w' := by
  have H0 : Hid (opts l = optsAt l 0) := Lib.hid (optsAt_zero l).symm
  go_enter Tryz.func105, Tryz.ntmps105
  go_wp2_with fail
  go_loopw [3] (fun v wr => ∃ a : Nat, Below w.heap.size w wr ∧ v = .int .i64 a ∧ a ≤ l.length + 65535 ∧ Hid (opts l = optsAt l a)) (fun v _ => l.length + 65536 - (intOf v).toNat)
  case atStart => exact ⟨0, Below.refl _ _, rfl, by omega, H0⟩
  case round =>
    clear H0
    obtain ⟨a, hB, rfl, ha, hT⟩ := hrel
    by_cases hlt : a + 4 ≤ l.length
    · obtain ⟨g, off, rfl, hcs⟩ := (hS.on hB) (by omega)
      have y2 := hcs (a + 2) (by omega)
      have y3 := hcs (a + 3) (by omega)
      have t2 := (l[a + 2]).toNat_lt
      have t3 := (l[a + 3]).toNat_lt
      have HT := Lib.hid (hT.out.trans (optsAt_step hlt))
      clear hT hcs hS
      generalize (l[a + 2]).toNat = m1 at *
      generalize (l[a + 3]).toNat = m2 at *
      have h0 : (a : Int) + 4 ≤ (l.length : Int) := by omega
      have h2 : (a : Int) + 2 < (l.length : Int) := by omega
      have h3 : (a : Int) + 3 < (l.length : Int) := by omega
      go_wp2_with fail
      go_quiet (fail)
      go_wp2_with fail
      go_roundw
      case rel => exact ⟨a + 4 + (m1 * 256 + m2), below_drewN hB _, by go_num, by omega, HT⟩
      case measure => simp [intOf]; omega
    · have HT := Lib.hid (hT.out.trans (optsAt_end (by omega)))
      have hlt' : ¬ (a : Int) + 4 ≤ (l.length : Int) := by omega
      clear hT hS
      have hb : ((a : Int) == (l.length : Int)) = decide (a = l.length) := by rw [Bool.eq_iff_iff]; simp; omega
      rw [← hb] at HT
      clear hb
      go_wp2_with fail
      go_ret
      exact ⟨by rw [HT.out]; rfl, hB⟩

/-- What stands ahead of the names, how many names, what stands behind. -/
def shapeP (t : Int) : Nat × Nat × Nat := if t = 2 ∨ t = 5 ∨ t = 12 then (0, 1, 0) else if t = 15 then (2, 1, 0) else if t = 6 then (0, 2, 20) else (0, 0, 0)
set_option maxHeartbeats 2000000 in
set_option maxRecDepth 100000 in
theorem shape_any (t : Int) (w : World) : Calls Tryz.prog 121 #[.int .i64 t] w fun e w' => e = .returned (.tuple #[.int .i64 (shapeP t).1, .int .i64 (shapeP t).2.1, .int .i64 (shapeP t).2.2]) ∧ w = w' := by
  by_cases en : t = 2 ∨ t = 5 ∨ t = 12
  · have HI : Hid (shapeP t = (0, 1, 0)) := Lib.hid (by unfold shapeP; rw [if_pos en])
    rcases en with rfl | rfl | rfl
    all_goals
      go_enter Tryz.func121, Tryz.ntmps121
      go_wp2_with fail
      go_ret3
      exact ⟨by rw [HI.out]; rfl, rfl⟩
  have T2 : (t == 2) = false := by simp; omega
  have T5 : (t == 5) = false := by simp; omega
  have T12 : (t == 12) = false := by simp; omega
  by_cases e15 : t = 15
  · subst e15
    go_enter Tryz.func121, Tryz.ntmps121
    go_wp2_with fail
    go_ret3
    exact ⟨rfl, rfl⟩
  by_cases e6 : t = 6
  · subst e6
    go_enter Tryz.func121, Tryz.ntmps121
    go_wp2_with fail
    go_ret3
    exact ⟨rfl, rfl⟩
  have HI : Hid (shapeP t = (0, 0, 0)) := Lib.hid (by unfold shapeP; rw [if_neg en, if_neg e15, if_neg e6])
  have T15 : (t == 15) = false := by simp [e15]
  have T6 : (t == 6) = false := by simp [e6]
  clear en e15 e6
  go_enter Tryz.func121, Tryz.ntmps121
  go_wp2_with fail
  go_ret3
  exact ⟨by rw [HI.out]; rfl, rfl⟩

set_option maxHeartbeats 2000000 in
set_option maxRecDepth 100000 in
theorem firstName_any (A : Option Addr) (l : Bs) (c : Nat) (w : World) (hS : Bys w A l) (hc : l.length ≤ c) (hcm : c ≤ 9223372036854775807) (hl : l.length ≤ 65535) : Calls Tryz.prog 122 #[.slice A l.length c] w fun e w' => e = .returned (.string (bs (first l))) ∧ Below w.heap.size w w' := by
  have H0 : Hid (stop l = 0 + stop (l.drop 0)) := Lib.hid (by simp)
  go_enter Tryz.func122, Tryz.ntmps122
  go_wp2_with fail
  go_loop [3] (fun v => ∃ a : Nat, v = .int .i64 a ∧ a ≤ l.length + 255 ∧ Hid (stop l = a + stop (l.drop a))) (fun v => l.length + 256 - (intOf v).toNat)
  case atStart => exact ⟨0, rfl, by omega, H0⟩
  case round =>
    clear H0
    obtain ⟨a, rfl, ha, hT⟩ := hrel
    by_cases hlt : a < l.length
    · have hlt' : (a : Int) < (l.length : Int) := by omega
      obtain ⟨g, off, hAeq, hcs⟩ := hS (by omega)
      have y := hcs a hlt
      have ht := (l[a]).toNat_lt
      by_cases h0 : (l[a]).toNat = 0
      · have hs : stop l = a := by rw [hT.out, stop_zero hlt h0]; rfl
        rw [h0] at y
        clear hT hcs h0 ht
        by_cases h255 : 255 ≤ a
        · have HF := Lib.hid (first_far hs (.inr h255))
          have h255' : (255 : Int) ≤ (a : Int) := by omega
          clear hs
          subst hAeq
          clear hS
          go_wp2_with fail
          go_ret
          exact ⟨by rw [HF.out]; rfl, Below.refl _ _⟩
        · have h255' : ¬ (255 : Int) ≤ (a : Int) := by omega
          have hpre := slice_pre A l c (a + 1) ((a : Int) + 1) (by omega) hc (by omega)
          have hst := string_bys A (l.take (a + 1)) c w (hS.pre _)
          have hC := Lib.hid (fun w => Can_any (l.take (a + 1)) w)
          have hx1 : (l.take (a + 1)).length = a + 1 := by rw [List.length_take]; omega
          rw [hx1] at hpre hst
          cases hcan : can (l.take (a + 1)) with
          | true =>
            have HF := Lib.hid (first_can hs hlt hcan)
            rw [hcan] at hC
            generalize l.take (a + 1) = x at *
            clear hs hcan hx1
            subst hAeq
            clear hS
            go_wp2_with fail
            refine (hC.out _).mono ?_
            rintro e w1 ⟨rfl, b1⟩
            go_wp2_with fail
            go_ret
            exact ⟨by rw [HF.out]; rfl, b1⟩
          | false =>
            have HF := Lib.hid (first_not hs hlt hcan)
            rw [hcan] at hC
            generalize l.take (a + 1) = x at *
            clear hs hcan hx1
            subst hAeq
            clear hS
            go_wp2_with fail
            refine (hC.out _).mono ?_
            rintro e w1 ⟨rfl, b1⟩
            go_wp2_with fail
            go_ret
            exact ⟨by rw [HF.out]; rfl, b1⟩
      · have HT : Hid (stop l = (a + 1 + (l[a]).toNat) + stop (l.drop (a + 1 + (l[a]).toNat))) := Lib.hid (by rw [hT.out, stop_step hlt h0]; omega)
        have hne : (((l[a]).toNat : Int) != 0) = true := by rw [bne_iff_ne]; omega
        clear hT hcs hS h0
        subst hAeq
        generalize (l[a]).toNat = m at *
        go_wp2_with fail
        go_round
        case rel => exact ⟨a + 1 + m, by go_num, by omega, HT⟩
        case measure => simp [intOf]; omega
    · have hlt' : ¬ (a : Int) < (l.length : Int) := by omega
      have hs : stop l = a := by rw [hT.out, stop_end (by omega)]; rfl
      have HF := Lib.hid (first_far hs (.inl (by omega)))
      have hge : min (l.length : Int) 255 ≤ (a : Int) := by omega
      clear hT hs hS
      go_wp2_with fail
      go_ret
      exact ⟨by rw [HF.out]; rfl, Below.refl _ _⟩
end Go.Proofs.YtgfahkgnblkhaaaGreatDoor
