/-
  The walk of NameParts.
-/
import Derived.Test.YtigpkcpdccgnfaaNmS1
namespace Go.Proofs.Ytigpkcpdccgnfaa
open Go.RowKit
set_option linter.unusedVariables false

set_option maxHeartbeats 4000000 in
set_option maxRecDepth 100000 in
theorem Parts_walk (n z : Bs) (k : Int) (w : World) (hk1 : -9223372036854775808 ≤ k) (hk2 : k ≤ 9223372036854775807) (up : Bs) (ok : Bool)
    (P1 : Hid (∀ W, Calls Try.prog 23 #[.string (bs n)] W fun e w' => e = .returned (.tuple #[.string (bs up), .bool ok]) ∧ Below W.heap.size W w'))
    (P2 : Hid (∀ W, Calls Try.prog 24 #[.string (bs n)] W fun e w' => e = .returned (.tuple #[.string (bs up), .bool ok]) ∧ Below W.heap.size W w')) :
    Calls Try.prog 5 #[.string (bs n), .string (bs z), .int .i64 k] w fun e w' => e = .returned (.bool true) ∧ Below w.heap.size w w' := by
  have C1 := Lib.hid (fun W => Count_any n W)
  have C2 := Lib.hid (fun W => rCount_any n W)
  have C3 := Lib.hid (fun W => Tail_any n k W hk1 hk2)
  have C4 := Lib.hid (fun W => rTail_any n k W hk1 hk2)
  have C5 := Lib.hid (fun W => Within_any n z W)
  have C6 := Lib.hid (fun W => rWithin_any n z W)
  have C7 := Lib.hid (fun W => Count_any [1, 97, 0] W)
  rw [a_name.2] at C7
  generalize (labels n).length = m at *
  generalize tail n k = t at *
  generalize within n z = s at *
  have e1 : ((m : Int) == (m : Int)) = true := by simp
  have e2 : (s == s) = true := by simp
  have e3 : (ok == ok) = true := by simp
  have e4 : (up == up) = true := by simp
  have e5 : (t == t) = true := by simp
  have eu := bs_toList up
  have et := bs_toList t
  clear hk1 hk2
  go_enter Try.func5, Try.ntmps5
  go_wp2_with fail
  refine (P1.out _).mono ?_
  rintro e w1 ⟨rfl, b1⟩
  have s1 := b1.size
  go_wp2_with fail
  refine (P2.out _).mono ?_
  rintro e w2 ⟨rfl, b2⟩
  obtain ⟨b2, s2⟩ := Below.next b1 s1 b2
  clear b1 s1
  go_wp2_with fail
  refine (C1.out _).mono ?_
  rintro e w3 ⟨rfl, b3⟩
  obtain ⟨b3, s3⟩ := Below.next b2 s2 b3
  clear b2 s2
  go_wp2_with fail
  refine (C2.out _).mono ?_
  rintro e w4 ⟨rfl, b4⟩
  obtain ⟨b4, s4⟩ := Below.next b3 s3 b4
  clear b3 s3
  go_wp2_with fail
  refine (C3.out _).mono ?_
  rintro e w5 ⟨rfl, b5⟩
  obtain ⟨b5, s5⟩ := Below.next b4 s4 b5
  clear b4 s4
  go_wp2_with fail
  refine (C4.out _).mono ?_
  rintro e w6 ⟨rfl, b6⟩
  obtain ⟨b6, s6⟩ := Below.next b5 s5 b6
  clear b5 s5
  go_wp2_with fail
  refine (C5.out _).mono ?_
  rintro e w7 ⟨rfl, b7⟩
  obtain ⟨b7, s7⟩ := Below.next b6 s6 b7
  clear b6 s6
  go_wp2_with fail
  refine (C6.out _).mono ?_
  rintro e w8 ⟨rfl, b8⟩
  obtain ⟨b8, s8⟩ := Below.next b7 s7 b8
  clear b7 s7
  go_wp2_with fail
  refine (C7.out _).mono ?_
  rintro e w9 ⟨rfl, b9⟩
  obtain ⟨b9, s9⟩ := Below.next b8 s8 b9
  clear b8 s8
  go_wp2_with fail
  go_ret
  exact ⟨rfl, b9⟩

theorem Parts_any (n z : Bs) (k : Int) (w : World) (hk : (Lit.int .i64 k).wf = true) :
    Calls Try.prog 5 #[.string (bs n), .string (bs z), .int .i64 k] w fun e w' => e = .returned (.bool true) ∧ Below w.heap.size w w' := by
  have hr : -9223372036854775808 ≤ k ∧ k ≤ 9223372036854775807 := by
    unfold Lit.wf at hk
    rw [Bool.and_eq_true, decide_eq_true_eq, decide_eq_true_eq] at hk
    have h1 : IntKind.i64.min = -9223372036854775808 := rfl
    have h2 : IntKind.i64.max = 9223372036854775807 := rfl
    omega
  rcases hl : (labels n).length with _ | m
  · have h := List.eq_nil_of_length_eq_zero hl
    exact Parts_walk n z k w hr.1 hr.2 _ _ (Lib.hid fun W => Parent_root n W h) (Lib.hid fun W => rParent_root n W h)
  · exact Parts_walk n z k w hr.1 hr.2 _ _ (Lib.hid fun W => Parent_yes n m W hl) (Lib.hid fun W => rParent_yes n m W hl)
end Go.Proofs.Ytigpkcpdccgnfaa
