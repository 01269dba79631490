/-
  The walks of NameCompares and NameCases.
-/
import Derived.Test.YtigpkcpdccgnfaaNmRc
import Derived.Test.YtigpkcpdccgnfaaNmRd
namespace Go.Proofs.Ytigpkcpdccgnfaa
open Go.RowKit
set_option linter.unusedVariables false

theorem lab_one (c : UInt8) : Lab [c] := by unfold Lab; simp
theorem one_name (c : UInt8) : can [1, c, 0] = true := (can_join (L := [[c]]) (by intro x hx; simp at hx; subst hx; exact lab_one c) (by simp [join, enc])).1
theorem same_aA : same [1, 97, 0] [1, 65, 0] = true := by
  unfold same
  rw [one_name, one_name]; decide
theorem same_bB : same [1, 98, 0] [1, 66, 0] = true := by
  unfold same
  rw [one_name, one_name]; decide

set_option maxHeartbeats 2000000 in
set_option maxRecDepth 100000 in
theorem Compares_any (a b : Bs) (w : World) : Calls Try.prog 4 #[.string (bs a), .string (bs b)] w fun e w' => e = .returned (.bool true) ∧ Below w.heap.size w w' := by
  have C1 := Lib.hid (fun W => Lower_any a W)
  have C2 := Lib.hid (fun W => rLower_any a W)
  have C3 := Lib.hid (fun W => Same_any a b W)
  have C4 := Lib.hid (fun W => rSame_any a b W)
  have C5 := Lib.hid (fun W => Compare_any a b W)
  have C6 := Lib.hid (fun W => rCompare_any a b W)
  have C7 := Lib.hid (fun W => Same_any [1, 97, 0] [1, 65, 0] W)
  rw [same_aA] at C7
  generalize lower a = x at *
  generalize same a b = s at *
  generalize comp a b = p at *
  have ex := bs_toList x
  have e1 : (x == x) = true := by simp
  have e2 : (s == s) = true := by simp
  have e3 : (p == p) = true := by simp
  go_enter Try.func4, Try.ntmps4
  go_wp2_with fail
  refine (C1.out _).mono ?_
  rintro e w1 ⟨rfl, b1⟩
  have s1 := b1.size
  go_wp2_with fail
  refine (C2.out _).mono ?_
  rintro e w2 ⟨rfl, b2⟩
  obtain ⟨b2, s2⟩ := Below.next b1 s1 b2
  clear b1 s1
  go_wp2_with fail
  refine (C3.out _).mono ?_
  rintro e w3 ⟨rfl, b3⟩
  obtain ⟨b3, s3⟩ := Below.next b2 s2 b3
  clear b2 s2
  go_wp2_with fail
  refine (C4.out _).mono ?_
  rintro e w4 ⟨rfl, b4⟩
  obtain ⟨b4, s4⟩ := Below.next b3 s3 b4
  clear b3 s3
  go_wp2_with fail
  refine (C5.out _).mono ?_
  rintro e w5 ⟨rfl, b5⟩
  obtain ⟨b5, s5⟩ := Below.next b4 s4 b5
  clear b4 s4
  go_wp2_with fail
  refine (C6.out _).mono ?_
  rintro e w6 ⟨rfl, b6⟩
  obtain ⟨b6, s6⟩ := Below.next b5 s5 b6
  clear b5 s5
  go_wp2_with fail
  refine (C7.out _).mono ?_
  rintro e w7 ⟨rfl, b7⟩
  obtain ⟨b7, s7⟩ := Below.next b6 s6 b7
  clear b6 s6
  go_wp2_with fail
  go_ret
  exact ⟨rfl, b7⟩

theorem same_low {a : Bs} (h : can a = true) : same a (low a) = true := by
  unfold same
  rw [h, (can_low h).1, low_low]; simp
theorem comp_low {a b : Bs} (ha : can a = true) (hb : can b = true) : comp (low a) (low b) = comp a b := by
  unfold comp key
  rw [ha, hb, (can_low ha).1, (can_low hb).1, (can_low ha).2, (can_low hb).2]
  simp [List.map_map, Function.comp_def, low_low]
theorem low_tail {a : Bs} (h : can a = true) (k : Int) : tail (low a) k = low (tail a k) := by
  have hl := can_low h
  rw [tail_of hl.1, tail_of h, hl.2]
  have hL := (can_out h).2.2.2
  rw [low_join (fun x hx => hL x (List.mem_of_mem_drop hx)), List.map_drop]
  simp
theorem same_lows {a b : Bs} (ha : can a = true) (hb : can b = true) : same (low a) (low b) = same a b := by
  unfold same
  rw [ha, hb, (can_low ha).1, (can_low hb).1, low_low, low_low]
theorem can_tail {a : Bs} (h : can a = true) (k : Int) : can (tail a k) = true := by
  rw [tail_of h]; exact (can_drop h _).1
theorem within_low {a b : Bs} (ha : can a = true) (hb : can b = true) : within (low a) (low b) = within a b := by
  unfold within
  rw [low_tail ha, (can_low hb).2, List.length_map, same_lows (can_tail ha _) hb]

set_option maxHeartbeats 4000000 in
set_option maxRecDepth 100000 in
theorem Cases_yes (a b : Bs) (w : World) (ha : can a = true) (hb : can b = true) : Calls Try.prog 10 #[.string (bs a), .string (bs b)] w fun e w' => e = .returned (.bool true) ∧ Below w.heap.size w w' := by
  have C1 := Lib.hid (fun W => Lower_any a W)
  have C2 := Lib.hid (fun W => Lower_any b W)
  rw [lower_yes ha] at C1
  rw [lower_yes hb] at C2
  have D1 := Lib.hid (fun W => rCan_any a W)
  have D2 := Lib.hid (fun W => rCan_any b W)
  rw [ha] at D1
  rw [hb] at D2
  have C3 := Lib.hid (fun W => Same_any a (low a) W)
  rw [same_low ha] at C3
  have C4 := Lib.hid (fun W => Compare_any a b W)
  have C5 := Lib.hid (fun W => Compare_any (low a) (low b) W)
  rw [comp_low ha hb] at C5
  have C6 := Lib.hid (fun W => Within_any a b W)
  have C7 := Lib.hid (fun W => Within_any (low a) (low b) W)
  rw [within_low ha hb] at C7
  have C8 := Lib.hid (fun W => Lower_any (low a) W)
  rw [lower_yes (can_low ha).1, low_low] at C8
  clear ha hb
  generalize low a = x at *
  generalize low b = y at *
  generalize within a b = s at *
  generalize comp a b = p at *
  have ex := bs_toList x
  have e1 : (x == x) = true := by simp
  have e2 : (s == s) = true := by simp
  have e3 : (p == p) = true := by simp
  go_enter Try.func10, Try.ntmps10
  go_wp2_with fail
  refine (C1.out _).mono ?_
  rintro e w1 ⟨rfl, b1⟩
  have s1 := b1.size
  go_wp2_with fail
  refine (C2.out _).mono ?_
  rintro e w2 ⟨rfl, b2⟩
  obtain ⟨b2, s2⟩ := Below.next b1 s1 b2
  clear b1 s1
  go_wp2_with fail
  refine (D1.out _).mono ?_
  rintro e w3 ⟨rfl, rfl⟩
  go_wp2_with fail
  refine (D2.out _).mono ?_
  rintro e w3 ⟨rfl, rfl⟩
  go_wp2_with fail
  refine (C3.out _).mono ?_
  rintro e w3 ⟨rfl, b3⟩
  obtain ⟨b3, s3⟩ := Below.next b2 s2 b3
  clear b2 s2
  go_wp2_with fail
  refine (C4.out _).mono ?_
  rintro e w4 ⟨rfl, b4⟩
  obtain ⟨b4, s4⟩ := Below.next b3 s3 b4
  clear b3 s3
  go_wp2_with fail
  refine (C5.out _).mono ?_
  rintro e w5 ⟨rfl, b5⟩
  obtain ⟨b5, s5⟩ := Below.next b4 s4 b5
  clear b4 s4
  go_wp2_with fail
  refine (C6.out _).mono ?_
  rintro e w6 ⟨rfl, b6⟩
  obtain ⟨b6, s6⟩ := Below.next b5 s5 b6
  clear b5 s5
  go_wp2_with fail
  refine (C7.out _).mono ?_
  rintro e w7 ⟨rfl, b7⟩
  obtain ⟨b7, s7⟩ := Below.next b6 s6 b7
  clear b6 s6
  go_wp2_with fail
  refine (C8.out _).mono ?_
  rintro e w8 ⟨rfl, b8⟩
  obtain ⟨b8, s8⟩ := Below.next b7 s7 b8
  clear b7 s7
  go_wp2_with fail
  go_ret
  exact ⟨rfl, b8⟩

theorem same_no {a b : Bs} (h : (can a && can b) = false) : same a b = false := by unfold same; rw [h]; rfl

set_option maxHeartbeats 4000000 in
set_option maxRecDepth 100000 in
theorem Cases_no (a b : Bs) (w : World) (h : (can a && can b) = false) : Calls Try.prog 10 #[.string (bs a), .string (bs b)] w fun e w' => e = .returned (.bool true) ∧ Below w.heap.size w w' := by
  have C1 := Lib.hid (fun W => Lower_any a W)
  have C2 := Lib.hid (fun W => Lower_any b W)
  have D1 := Lib.hid (fun W => rCan_any a W)
  have D2 := Lib.hid (fun W => rCan_any b W)
  have C3 := Lib.hid (fun W => Same_any a b W)
  rw [same_no h] at C3
  have C4 := Lib.hid (fun W => Compare_any a b W)
  rw [lower_no_any h] at C4
  have C5 := Lib.hid (fun W => Same_any [1, 98, 0] [1, 66, 0] W)
  rw [same_bB] at C5
  generalize lower a = x at *
  generalize lower b = y at *
  cases ha : can a
  all_goals
    rw [ha] at D1 h
    try rw [show can b = false by simpa using h] at D2
    clear h ha
    go_enter Try.func10, Try.ntmps10
    go_wp2_with fail
    refine (C1.out _).mono ?_
    rintro e w1 ⟨rfl, b1⟩
    have s1 := b1.size
    go_wp2_with fail
    refine (C2.out _).mono ?_
    rintro e w2 ⟨rfl, b2⟩
    obtain ⟨b2, s2⟩ := Below.next b1 s1 b2
    clear b1 s1
    go_wp2_with fail
    refine (D1.out _).mono ?_
    rintro e w3 ⟨rfl, rfl⟩
    go_wp2_with fail
    try
      refine (D2.out _).mono ?_
      rintro e w3 ⟨rfl, rfl⟩
      go_wp2_with fail
    refine (C3.out _).mono ?_
    rintro e w3 ⟨rfl, b3⟩
    obtain ⟨b3, s3⟩ := Below.next b2 s2 b3
    clear b2 s2
    go_wp2_with fail
    refine (C4.out _).mono ?_
    rintro e w4 ⟨rfl, b4⟩
    obtain ⟨b4, s4⟩ := Below.next b3 s3 b4
    clear b3 s3
    go_wp2_with fail
    refine (C5.out _).mono ?_
    rintro e w5 ⟨rfl, b5⟩
    obtain ⟨b5, s5⟩ := Below.next b4 s4 b5
    clear b4 s4
    go_wp2_with fail
    go_ret
    exact ⟨rfl, b5⟩

theorem Cases_any (a b : Bs) (w : World) : Calls Try.prog 10 #[.string (bs a), .string (bs b)] w fun e w' => e = .returned (.bool true) ∧ Below w.heap.size w w' := by
  cases h : can a && can b
  · exact Cases_no a b w h
  · simp only [Bool.and_eq_true] at h
    exact Cases_yes a b w h.1 h.2
end Go.Proofs.Ytigpkcpdccgnfaa
