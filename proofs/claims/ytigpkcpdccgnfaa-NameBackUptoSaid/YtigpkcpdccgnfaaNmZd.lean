/-
  The walks of NameTells and NameBack, where the texts have at most 1048576 bytes.
-/
import Derived.Test.YtigpkcpdccgnfaaNmZb
import Derived.Test.YtigpkcpdccgnfaaNmZc
import Derived.Test.YtigpkcpdccgnfaaNmO
namespace Go.Proofs.Ytigpkcpdccgnfaa
open Go.RowKit
set_option linter.unusedVariables false

set_option maxHeartbeats 4000000 in
set_option maxRecDepth 100000 in
theorem Tells_any (n t : Bs) (w : World) (ht : t.length ≤ 1048576) : Calls Try.prog 3 #[.string (bs n), .string (bs t)] w fun e w' => e = .returned (.bool true) ∧ Below w.heap.size w w' := by
  have C1 := Lib.hid (fun W => Parse_any t W ht)
  have C2 := Lib.hid (fun W => rParse_any t W ht)
  have C3 := Lib.hid (fun W => Can_any n W)
  have C4 := Lib.hid (fun W => rCan_any n W)
  have C5 := Lib.hid (fun W => Text_any n W)
  have C6 := Lib.hid (fun W => rText_any n W)
  have C7 := Lib.hid (fun W => Can_any [1, 97, 0] W)
  rw [a_name.1] at C7
  unfold ParsePost at C1 C2
  generalize (parse t).1 = m at *
  generalize (parse t).2 = r at *
  generalize can n = s at *
  generalize text n = y at *
  have ey := bs_toList y
  have em := bs_toList m
  have e1 : (s == s) = true := by simp
  have e2 : (r == r) = true := by simp
  have e3 : (y == y) = true := by simp
  have e4 : (m == m) = true := by simp
  go_enter Try.func3, Try.ntmps3
  go_wp2_with fail
  refine (C1.out _).mono ?_
  rintro e w1 ⟨rfl, b1⟩
  have s1 := b1.size
  go_wp2_with fail
  refine (C2.out _).mono ?_
  rintro e w2 ⟨rfl, b2⟩
  obtain ⟨b2, s2⟩ := Below.next b1 s1 b2
  clear b1 s1
  go_wp2_with fail
  refine (C3.out _).mono ?_
  rintro e w3 ⟨rfl, b3⟩
  obtain ⟨b3, s3⟩ := Below.next b2 s2 b3
  clear b2 s2
  go_wp2_with fail
  refine (C4.out _).mono ?_
  rintro e w4 ⟨rfl, rfl⟩
  go_wp2_with fail
  refine (C5.out _).mono ?_
  rintro e w4 ⟨rfl, b4⟩
  obtain ⟨b4, s4⟩ := Below.next b3 s3 b4
  clear b3 s3
  go_wp2_with fail
  refine (C6.out _).mono ?_
  rintro e w5 ⟨rfl, b5⟩
  obtain ⟨b5, s5⟩ := Below.next b4 s4 b5
  clear b4 s4
  go_wp2_with fail
  refine (C7.out _).mono ?_
  rintro e w6 ⟨rfl, b6⟩
  obtain ⟨b6, s6⟩ := Below.next b5 s5 b6
  clear b5 s5
  go_wp2_with fail
  go_ret
  exact ⟨rfl, b6⟩

theorem text_len_le {l : Bs} : (text l).length ≤ 1048576 := by
  unfold text
  split
  · rename_i h
    split
    · simp
    · have := textL_len (fun x hx => ((can_out h).2.2.2 x hx).2)
      have := can_count h
      omega
  · simp

set_option maxHeartbeats 4000000 in
set_option maxRecDepth 100000 in
theorem Back_walk (n t : Bs) (w : World) (ht : t.length ≤ 1048576) : Calls Try.prog 6 #[.string (bs n), .string (bs t)] w fun e w' => e = .returned (.bool true) ∧ Below w.heap.size w w' := by
  have D := Lib.hid (fun W => rCan_any n W)
  have T1 := Lib.hid (fun W => Text_any n W)
  have P1 := Lib.hid (fun W => Parse_any (text n) W text_len_le)
  have C1 := Lib.hid (fun W => Parse_any t W ht)
  have C2 := Lib.hid (fun W => rParse_any t W ht)
  have T0 := Lib.hid (fun W => Text_any [0] W)
  rw [text_root] at T0
  unfold ParsePost at C1 C2 P1
  rcases parse_nums t with h0 | h0 | h0
  · have hpt : parse t = ((parse t).1, 0) := by rw [← h0]
    have hm := parse_ok hpt
    have T2 := Lib.hid (fun W => Text_any (parse t).1 W)
    have P2 := Lib.hid (fun W => Parse_any (text (parse t).1) W text_len_le)
    have C3 := Lib.hid (fun W => Can_any (parse t).1 W)
    unfold ParsePost at P2
    rw [parse_text hm] at P2
    rw [hm] at C3
    rw [h0] at C1 C2
    clear hpt h0 ht
    generalize (parse t).1 = m at *
    generalize text m = y at *
    have em := bs_toList m
    have e1 : (m == m) = true := by simp
    clear hm
    cases hn : can n
    · rw [hn] at D
      clear hn P1 T1
      go_enter Try.func6, Try.ntmps6
      go_wp2_with fail
      refine (D.out _).mono ?_
      rintro e w1 ⟨rfl, rfl⟩
      go_wp2_with fail
      refine (C1.out _).mono ?_
      rintro e w1 ⟨rfl, b1⟩
      have s1 := b1.size
      go_wp2_with fail
      refine (C2.out _).mono ?_
      rintro e w2 ⟨rfl, b2⟩
      obtain ⟨b2, s2⟩ := Below.next b1 s1 b2
      clear b1 s1
      go_wp2_with fail
      refine (T2.out _).mono ?_
      rintro e w3 ⟨rfl, b3⟩
      obtain ⟨b3, s3⟩ := Below.next b2 s2 b3
      clear b2 s2
      go_wp2_with fail
      refine (P2.out _).mono ?_
      rintro e w4 ⟨rfl, b4⟩
      obtain ⟨b4, s4⟩ := Below.next b3 s3 b4
      clear b3 s3
      go_wp2_with fail
      refine (C3.out _).mono ?_
      rintro e w5 ⟨rfl, b5⟩
      obtain ⟨b5, s5⟩ := Below.next b4 s4 b5
      clear b4 s4
      go_wp2_with fail
      refine (T0.out _).mono ?_
      rintro e w6 ⟨rfl, b6⟩
      obtain ⟨b6, s6⟩ := Below.next b5 s5 b6
      clear b5 s5
      go_wp2_with fail
      go_ret
      exact ⟨rfl, b6⟩
    · rw [hn] at D
      rw [parse_text hn] at P1
      have en := bs_toList n
      have e2 : (n == n) = true := by simp
      clear hn
      generalize text n = z at *
      go_enter Try.func6, Try.ntmps6
      go_wp2_with fail
      refine (D.out _).mono ?_
      rintro e w1 ⟨rfl, rfl⟩
      go_wp2_with fail
      refine (T1.out _).mono ?_
      rintro e wa ⟨rfl, ba⟩
      have sa := ba.size
      go_wp2_with fail
      refine (P1.out _).mono ?_
      rintro e wb ⟨rfl, bb⟩
      obtain ⟨bb, sb⟩ := Below.next ba sa bb
      clear ba sa
      go_wp2_with fail
      refine (C1.out _).mono ?_
      rintro e w1 ⟨rfl, b1⟩
      obtain ⟨b1, s1⟩ := Below.next bb sb b1
      clear bb sb
      go_wp2_with fail
      refine (C2.out _).mono ?_
      rintro e w2 ⟨rfl, b2⟩
      obtain ⟨b2, s2⟩ := Below.next b1 s1 b2
      clear b1 s1
      go_wp2_with fail
      refine (T2.out _).mono ?_
      rintro e w3 ⟨rfl, b3⟩
      obtain ⟨b3, s3⟩ := Below.next b2 s2 b3
      clear b2 s2
      go_wp2_with fail
      refine (P2.out _).mono ?_
      rintro e w4 ⟨rfl, b4⟩
      obtain ⟨b4, s4⟩ := Below.next b3 s3 b4
      clear b3 s3
      go_wp2_with fail
      refine (C3.out _).mono ?_
      rintro e w5 ⟨rfl, b5⟩
      obtain ⟨b5, s5⟩ := Below.next b4 s4 b5
      clear b4 s4
      go_wp2_with fail
      refine (T0.out _).mono ?_
      rintro e w6 ⟨rfl, b6⟩
      obtain ⟨b6, s6⟩ := Below.next b5 s5 b6
      clear b5 s5
      go_wp2_with fail
      go_ret
      exact ⟨rfl, b6⟩
  all_goals
    have he := parse_err (s := t) (by omega)
    rw [h0, he] at C1
    rw [h0] at C2
    clear h0 he ht
    generalize (parse t).1 = m at *
    cases hn : can n
    · rw [hn] at D
      clear hn P1 T1
      go_enter Try.func6, Try.ntmps6
      go_wp2_with fail
      refine (D.out _).mono ?_
      rintro e w1 ⟨rfl, rfl⟩
      go_wp2_with fail
      refine (C1.out _).mono ?_
      rintro e w1 ⟨rfl, b1⟩
      have s1 := b1.size
      go_wp2_with fail
      refine (C2.out _).mono ?_
      rintro e w2 ⟨rfl, b2⟩
      obtain ⟨b2, s2⟩ := Below.next b1 s1 b2
      clear b1 s1
      go_wp2_with fail
      refine (T0.out _).mono ?_
      rintro e w6 ⟨rfl, b6⟩
      obtain ⟨b6, s6⟩ := Below.next b2 s2 b6
      clear b2 s2
      go_wp2_with fail
      go_ret
      exact ⟨rfl, b6⟩
    · rw [hn] at D
      rw [parse_text hn] at P1
      have en := bs_toList n
      have e2 : (n == n) = true := by simp
      clear hn
      generalize text n = z at *
      go_enter Try.func6, Try.ntmps6
      go_wp2_with fail
      refine (D.out _).mono ?_
      rintro e w1 ⟨rfl, rfl⟩
      go_wp2_with fail
      refine (T1.out _).mono ?_
      rintro e wa ⟨rfl, ba⟩
      have sa := ba.size
      go_wp2_with fail
      refine (P1.out _).mono ?_
      rintro e wb ⟨rfl, bb⟩
      obtain ⟨bb, sb⟩ := Below.next ba sa bb
      clear ba sa
      go_wp2_with fail
      refine (C1.out _).mono ?_
      rintro e w1 ⟨rfl, b1⟩
      obtain ⟨b1, s1⟩ := Below.next bb sb b1
      clear bb sb
      go_wp2_with fail
      refine (C2.out _).mono ?_
      rintro e w2 ⟨rfl, b2⟩
      obtain ⟨b2, s2⟩ := Below.next b1 s1 b2
      clear b1 s1
      go_wp2_with fail
      refine (T0.out _).mono ?_
      rintro e w6 ⟨rfl, b6⟩
      obtain ⟨b6, s6⟩ := Below.next b2 s2 b6
      clear b2 s2
      go_wp2_with fail
      go_ret
      exact ⟨rfl, b6⟩
end Go.Proofs.Ytigpkcpdccgnfaa
