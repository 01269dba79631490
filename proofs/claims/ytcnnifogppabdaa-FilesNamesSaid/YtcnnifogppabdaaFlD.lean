/-
  The landed canName.
-/
import Derived.Test.YtcnnifogppabdaaFlC
namespace Go.Proofs.Ytcnnifogppabdaa
open Go.RowKit
set_option linter.unusedVariables false
set_option maxRecDepth 100000

/-- One byte's tests, as the walk spells them. -/
structure CT (c : UInt8) (b1 b2 b3 b4 b5 b6 : Bool) : Prop where
  g1 : decide ((97 : Int) ≤ c.toNat) = b1
  g2 : decide ((c.toNat : Int) ≤ 122) = b2
  g3 : decide ((48 : Int) ≤ c.toNat) = b3
  g4 : decide ((c.toNat : Int) ≤ 57) = b4
  g5 : ((c.toNat : Int) != 45) = b5
  g6 : ((c.toNat : Int) != 46) = b6
theorem okC_eq (c : UInt8) : okC c = ((decide ((97 : Int) ≤ c.toNat) && decide ((c.toNat : Int) ≤ 122)) || (decide ((48 : Int) ≤ c.toNat) && decide ((c.toNat : Int) ≤ 57)) || !((c.toNat : Int) != 45) || !((c.toNat : Int) != 46)) := by
  unfold okC
  have h1 : decide (97 ≤ c) = decide ((97 : Int) ≤ c.toNat) := by rw [Bool.eq_iff_iff]; simp [UInt8.le_iff_toNat_le]; omega
  have h2 : decide (c ≤ 122) = decide ((c.toNat : Int) ≤ 122) := by rw [Bool.eq_iff_iff]; simp [UInt8.le_iff_toNat_le]; omega
  have h3 : decide (48 ≤ c) = decide ((48 : Int) ≤ c.toNat) := by rw [Bool.eq_iff_iff]; simp [UInt8.le_iff_toNat_le]; omega
  have h4 : decide (c ≤ 57) = decide ((c.toNat : Int) ≤ 57) := by rw [Bool.eq_iff_iff]; simp [UInt8.le_iff_toNat_le]; omega
  have h5 : (c == 45) = !((c.toNat : Int) != 45) := by rw [Bool.eq_iff_iff]; simp [← UInt8.toNat_inj]; omega
  have h6 : (c == 46) = !((c.toNat : Int) != 46) := by rw [Bool.eq_iff_iff]; simp [← UInt8.toNat_inj]; omega
  rw [h1, h2, h3, h4, h5, h6]
set_option maxHeartbeats 2000000 in
theorem canName_any (n : Bs) (W : World) (hl : n.length ≤ 140737488355328) : Calls Try.prog 48 #[.string (bs n)] W fun e w' => e = .returned (.bool (canN n)) ∧ Below W.heap.size W w' := by
  have hsz := bs_size n
  by_cases h0 : n.length = 0
  · have e : canN n = false := by unfold canN; simp [h0]
    have HE := Lib.hid e
    clear e hl
    have h1 : ((n.length : Int) == 0) = true := by rw [beq_iff_eq]; omega
    clear h0
    go_enter Try.func48, Try.ntmps48
    go_wp2_with fail
    go_ret
    exact ⟨by rw [HE.out]; rfl, Below.refl _ _⟩
  · have h1 : ((n.length : Int) == 0) = false := by rw [beq_eq_false_iff_ne]; omega
    by_cases h32 : n.length ≤ 32
    · have h2 : (n.length : Int) ≤ 32 := by omega
      have HE : Hid (canN n = n.all okC) := Lib.hid (by unfold canN; simp [h32]; omega)
      obtain ⟨v, w1, hcv, hown, b1⟩ := conv_own n W hl
      obtain ⟨B, d, rfl, hB, hd, hdm⟩ := hown.bys
      have hdm' : d ≤ 9223372036854775807 := by unfold maxLen at hdm; omega
      have hnl : n.length ≤ 9223372036854775807 := by omega
      clear hown hdm hl h0
      go_enter Try.func48, Try.ntmps48
      go_wp2_with fail
      go_loop [18, 4, 5, 6] (fun u _ _ _ => ∃ k : Nat, u = .int .i64 k ∧ k ≤ n.length ∧ Hid ((n.take k).all okC = true)) (fun u _ _ _ => n.length - (intOf u).toNat)
      case atStart => exact ⟨0, rfl, by omega, Lib.hid rfl⟩
      case round =>
        obtain ⟨k, rfl, hk, hT⟩ := hrel
        by_cases hlt : k < n.length
        · have hlt' : (k : Int) < n.length := by omega
          obtain ⟨g, off, rfl, hcs⟩ := hB (by omega)
          have y := hcs k hlt
          clear hcs hB
          have hs : (n.take (k + 1)).all okC = ((n.take k).all okC && okC n[k]) := by rw [List.take_succ_eq_append_getElem hlt, List.all_append]; simp
          have hs2 : okC n[k] = false → n.all okC = false := fun e => by
            rw [List.all_eq_false]
            exact ⟨n[k], List.getElem_mem hlt, by rw [e]; simp⟩
          rw [hT.out, Bool.true_and, okC_eq] at hs
          rw [okC_eq] at hs2
          obtain ⟨x, hx⟩ : ∃ x, x = n[k] := ⟨_, rfl⟩
          rw [← hx] at y hs hs2
          have hxb := x.toNat_lt
          clear hx hT
          generalize hb1 : decide ((97 : Int) ≤ x.toNat) = b1 at hs hs2
          generalize hb2 : decide ((x.toNat : Int) ≤ 122) = b2 at hs hs2
          generalize hb3 : decide ((48 : Int) ≤ x.toNat) = b3 at hs hs2
          generalize hb4 : decide ((x.toNat : Int) ≤ 57) = b4 at hs hs2
          generalize hb5 : ((x.toNat : Int) != 45) = b5 at hs hs2
          generalize hb6 : ((x.toNat : Int) != 46) = b6 at hs hs2
          have HS := Lib.hid hs
          have HS2 := Lib.hid hs2
          clear hs hs2
          cases b1 <;> cases b2 <;> cases b3 <;> cases b4 <;> cases b5 <;> cases b6
          all_goals
            first
              | (exfalso
                 clear HS HS2
                 simp only [decide_eq_true_eq, decide_eq_false_iff_not, bne_iff_ne, bne_eq_false_iff_eq] at hb1 hb2 hb3 hb4 hb5 hb6
                 omega)
              | (go_wp2_with fail
                 first
                   | (go_round
                      case rel => exact ⟨k + 1, by go_num, by omega, Lib.hid (HS.out.trans rfl)⟩
                      case measure => simp [intOf]; omega)
                   | (go_ret
                      exact ⟨by rw [HE.out, HS2.out rfl]; rfl, b1⟩))
        · obtain rfl : k = n.length := by omega
          have hT2 := hT.out
          rw [List.take_length] at hT2
          have HT := Lib.hid hT2
          clear hT hT2
          go_wp2_with fail
          go_ret
          exact ⟨by rw [HE.out, HT.out]; rfl, b1⟩
    · have h2 : (32 : Int) < n.length := by omega
      have e : canN n = false := by unfold canN; simp [h32]
      have HE := Lib.hid e
      clear e h0 h32 hl
      go_enter Try.func48, Try.ntmps48
      go_wp2_with fail
      go_ret
      exact ⟨by rw [HE.out]; rfl, Below.refl _ _⟩
end Go.Proofs.Ytcnnifogppabdaa
