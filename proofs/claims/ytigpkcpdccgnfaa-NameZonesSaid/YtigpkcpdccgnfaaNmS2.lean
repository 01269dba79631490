/-
  The walks of NameZones and NameParts.
-/
import Derived.Test.YtigpkcpdccgnfaaNmS1
namespace Go.Proofs.Ytigpkcpdccgnfaa
open Go.RowKit
set_option linter.unusedVariables false

theorem within_out {n z : Bs} (hn : can n = true) (hz : can z = true) (h : within n z = true) : ((labels n).drop ((labels n).length - (labels z).length)).map low = (labels z).map low ∧ (labels z).length ≤ (labels n).length := by
  unfold within same at h
  have ht := can_tail hn ((labels z).length : Int)
  rw [ht, hz] at h
  simp only [Bool.and_self, Bool.true_and, beq_iff_eq] at h
  have e := congrArg labels h
  rw [(can_low ht).2, (can_low hz).2, tail_of hn, (can_drop hn _).2] at e
  have el := congrArg List.length e
  simp only [List.length_map, List.length_drop] at el
  have hc : clamp ((labels z).length : Int) (labels n).length ≤ (labels n).length := by unfold clamp; omega
  have hle : (labels z).length ≤ (labels n).length := by omega
  refine ⟨?_, hle⟩
  rw [show clamp ((labels z).length : Int) (labels n).length = (labels z).length by omega] at e
  exact e
theorem within_in {n z : Bs} (hn : can n = true) (hz : can z = true) (hle : (labels z).length ≤ (labels n).length) (e : ((labels n).drop ((labels n).length - (labels z).length)).map low = (labels z).map low) : within n z = true := by
  have hc : clamp ((labels z).length : Int) (labels n).length = (labels z).length := by unfold clamp; omega
  unfold within same
  rw [can_tail hn, hz, tail_of hn, hc, low_join (fun x hx => (can_out hn).2.2.2 x (List.mem_of_mem_drop hx)), e, ← low_join (can_out hz).2.2.2, ← (can_out hz).2.2.1]
  simp
theorem cmpL_pre : ∀ K M : List Bs, cmpL K (K ++ M) ≤ 0
  | [], [] => by simp [cmpL]
  | [], _ :: _ => by simp [cmpL]
  | x :: K, M => by
    rw [List.cons_append, cmpL, if_pos (cmpB_zero.2 rfl)]
    exact cmpL_pre K M
theorem within_comp {n z : Bs} (hn : can n = true) (hz : can z = true) (h : within n z = true) : comp z n ≤ 0 := by
  obtain ⟨e, hle⟩ := within_out hn hz h
  unfold comp key
  rw [hn, hz, ← e]
  have : (labels n).map low = ((labels n).take ((labels n).length - (labels z).length)).map low ++ ((labels n).drop ((labels n).length - (labels z).length)).map low := by rw [← List.map_append, List.take_append_drop]
  rw [this, List.reverse_append]
  exact cmpL_pre _ _
theorem within_root {n : Bs} (hn : can n = true) : within n [0] = true :=
  within_in hn root_name.1 (by rw [root_name.2]; simp) (by rw [root_name.2]; simp)
theorem within_self {n : Bs} (hn : can n = true) : within n n = true := within_in hn hn (Nat.le_refl _) (by simp)
theorem within_parent {n z : Bs} (hn : can n = true) (hz : can z = true) (h : within n z = true) {k : Nat} (hk : (labels z).length = k + 1) : within n (join (labels z).tail) = true := by
  obtain ⟨e, hle⟩ := within_out hn hz h
  have hd := can_drop hz 1
  rw [List.drop_one] at hd
  refine within_in hn hd.1 (by rw [hd.2]; simp; omega) ?_
  rw [hd.2, List.map_tail, ← e, ← List.map_tail, List.tail_drop]
  congr 2
  simp; omega

set_option maxHeartbeats 4000000 in
set_option maxRecDepth 100000 in
theorem Zones_any (A0 A1 : Option Addr) (c0 c1 : Nat) (l0 l1 : Bs) (w : World) (h0 : Bys w A0 l0) (h1 : Bys w A1 l1) (k0 : l0.length ≤ c0) (k1 : l1.length ≤ c1)
    (m0 : c0 ≤ 9223372036854775807) (m1 : c1 ≤ 9223372036854775807) :
    Calls Try.prog 8 #[.slice A0 l0.length c0, .slice A1 l1.length c1] w fun e w' => e = .returned (.bool true) ∧ Below w.heap.size w w' := by
  have hx := (join_nameOf l0).1
  have hy := (join_nameOf l1).1
  have N0 := Lib.hid (fun W hB => Name_any A0 c0 l0 W (h0.on hB) k0 m0 : ∀ W, Below w.heap.size w W → _)
  have N1 := Lib.hid (fun W hB => Name_any A1 c1 l1 W (h1.on hB) k1 m1 : ∀ W, Below w.heap.size w W → _)
  generalize join (nameOf l0) = n at *
  generalize join (nameOf l1) = z at *
  clear h0 h1 k0 k1 m0 m1
  have C1 := Lib.hid (fun W => Within_any n [0] W)
  rw [within_root hx] at C1
  have C2 := Lib.hid (fun W => Within_any n n W)
  rw [within_self hx] at C2
  have C3 := Lib.hid (fun W => Within_any n z W)
  cases hw : within n z
  · have C4 := Lib.hid (fun W => rWithin_any n z W)
    rw [hw] at C3 C4
    clear hw hx hy
    go_enter Try.func8, Try.ntmps8
    go_wp2_with fail
    refine (N0.out _ (Below.refl _ _)).mono ?_
    rintro e w1 ⟨rfl, b1⟩
    have s1 := b1.size
    go_wp2_with fail
    refine (N1.out _ b1).mono ?_
    rintro e w2 ⟨rfl, b2⟩
    obtain ⟨b2, s2⟩ := Below.next b1 s1 b2
    clear b1 s1
    go_wp2_with fail
    refine (C1.out _).mono ?_
    rintro e w3 ⟨rfl, b3⟩
    obtain ⟨b3, s3⟩ := Below.next b2 s2 b3
    clear b2 s2
    go_wp2_with fail
    refine (C2.out _).mono ?_
    rintro e w4 ⟨rfl, b4⟩
    obtain ⟨b4, s4⟩ := Below.next b3 s3 b4
    clear b3 s3
    go_wp2_with fail
    refine (C3.out _).mono ?_
    rintro e w5 ⟨rfl, b5⟩
    obtain ⟨b5, s5⟩ := Below.next b4 s4 b5
    clear b4 s4
    go_wp2_with fail
    refine (C4.out _).mono ?_
    rintro e w6 ⟨rfl, b6⟩
    obtain ⟨b6, s6⟩ := Below.next b5 s5 b6
    clear b5 s5
    go_wp2_with fail
    go_ret
    exact ⟨rfl, b6⟩
  · have C5 := Lib.hid (fun W => Compare_any z n W)
    have hc := within_comp hx hy hw
    have C6 := Lib.hid (fun W => Count_any z W)
    have hcn := can_count hy
    have C7 := Lib.hid (fun W => Tail_any n ((labels z).length : Int) W (by omega) (by omega))
    have C8 := Lib.hid (fun W => Same_any (tail n ((labels z).length : Int)) z W)
    rw [show same (tail n ((labels z).length : Int)) z = true from hw] at C8
    rw [hw] at C3
    rcases hlz : (labels z).length with _ | k
    · have P := Lib.hid (fun W => Parent_root z W (List.eq_nil_of_length_eq_zero hlz))
      rw [hlz] at C6 C7 C8
      clear hw hx hy hlz hcn
      generalize comp z n = p at *
      go_enter Try.func8, Try.ntmps8
      go_wp2_with fail
      refine (N0.out _ (Below.refl _ _)).mono ?_
      rintro e w1 ⟨rfl, b1⟩
      have s1 := b1.size
      go_wp2_with fail
      refine (N1.out _ b1).mono ?_
      rintro e w2 ⟨rfl, b2⟩
      obtain ⟨b2, s2⟩ := Below.next b1 s1 b2
      clear b1 s1
      go_wp2_with fail
      refine (C1.out _).mono ?_
      rintro e w3 ⟨rfl, b3⟩
      obtain ⟨b3, s3⟩ := Below.next b2 s2 b3
      clear b2 s2
      go_wp2_with fail
      refine (C2.out _).mono ?_
      rintro e w4 ⟨rfl, b4⟩
      obtain ⟨b4, s4⟩ := Below.next b3 s3 b4
      clear b3 s3
      go_wp2_with fail
      refine (C3.out _).mono ?_
      rintro e w5 ⟨rfl, b5⟩
      obtain ⟨b5, s5⟩ := Below.next b4 s4 b5
      clear b4 s4
      go_wp2_with fail
      refine (P.out _).mono ?_
      rintro e w6 ⟨rfl, b6⟩
      obtain ⟨b6, s6⟩ := Below.next b5 s5 b6
      clear b5 s5
      go_wp2_with fail
      refine (C5.out _).mono ?_
      rintro e w7 ⟨rfl, b7⟩
      obtain ⟨b7, s7⟩ := Below.next b6 s6 b7
      clear b6 s6
      go_wp2_with fail
      refine (C6.out _).mono ?_
      rintro e w8 ⟨rfl, b8⟩
      obtain ⟨b8, s8⟩ := Below.next b7 s7 b8
      clear b7 s7
      go_wp2_with fail
      refine (C7.out _).mono ?_
      rintro e w9 ⟨rfl, b9⟩
      obtain ⟨b9, s9⟩ := Below.next b8 s8 b9
      clear b8 s8
      go_wp2_with fail
      refine (C8.out _).mono ?_
      rintro e w10 ⟨rfl, b10⟩
      obtain ⟨b10, s10⟩ := Below.next b9 s9 b10
      clear b9 s9
      go_wp2_with fail
      go_ret
      exact ⟨rfl, b10⟩
    · have P := Lib.hid (fun W => Parent_yes z k W hlz)
      have C9 := Lib.hid (fun W => Within_any n (join (labels z).tail) W)
      rw [within_parent hx hy hw hlz] at C9
      clear hw hx hy hlz
      generalize comp z n = p at *
      generalize tail n ((labels z).length : Int) = t at *
      generalize (labels z).length = m at *
      generalize join (labels z).tail = up at *
      go_enter Try.func8, Try.ntmps8
      go_wp2_with fail
      refine (N0.out _ (Below.refl _ _)).mono ?_
      rintro e w1 ⟨rfl, b1⟩
      have s1 := b1.size
      go_wp2_with fail
      refine (N1.out _ b1).mono ?_
      rintro e w2 ⟨rfl, b2⟩
      obtain ⟨b2, s2⟩ := Below.next b1 s1 b2
      clear b1 s1
      go_wp2_with fail
      refine (C1.out _).mono ?_
      rintro e w3 ⟨rfl, b3⟩
      obtain ⟨b3, s3⟩ := Below.next b2 s2 b3
      clear b2 s2
      go_wp2_with fail
      refine (C2.out _).mono ?_
      rintro e w4 ⟨rfl, b4⟩
      obtain ⟨b4, s4⟩ := Below.next b3 s3 b4
      clear b3 s3
      go_wp2_with fail
      refine (C3.out _).mono ?_
      rintro e w5 ⟨rfl, b5⟩
      obtain ⟨b5, s5⟩ := Below.next b4 s4 b5
      clear b4 s4
      go_wp2_with fail
      refine (P.out _).mono ?_
      rintro e w6 ⟨rfl, b6⟩
      obtain ⟨b6, s6⟩ := Below.next b5 s5 b6
      clear b5 s5
      go_wp2_with fail
      refine (C5.out _).mono ?_
      rintro e w7 ⟨rfl, b7⟩
      obtain ⟨b7, s7⟩ := Below.next b6 s6 b7
      clear b6 s6
      go_wp2_with fail
      refine (C9.out _).mono ?_
      rintro e wx ⟨rfl, bx⟩
      obtain ⟨bx, sx⟩ := Below.next b7 s7 bx
      clear b7 s7
      go_wp2_with fail
      refine (C6.out _).mono ?_
      rintro e w8 ⟨rfl, b8⟩
      obtain ⟨b8, s8⟩ := Below.next bx sx b8
      clear bx sx
      go_wp2_with fail
      refine (C7.out _).mono ?_
      rintro e w9 ⟨rfl, b9⟩
      obtain ⟨b9, s9⟩ := Below.next b8 s8 b9
      clear b8 s8
      go_wp2_with fail
      refine (C8.out _).mono ?_
      rintro e w10 ⟨rfl, b10⟩
      obtain ⟨b10, s10⟩ := Below.next b9 s9 b10
      clear b9 s9
      go_wp2_with fail
      go_ret
      exact ⟨rfl, b10⟩
end Go.Proofs.Ytigpkcpdccgnfaa
