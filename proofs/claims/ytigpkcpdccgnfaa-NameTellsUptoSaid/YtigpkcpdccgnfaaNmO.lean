/-
  The walk of NameOrders.
-/
import Derived.Test.YtigpkcpdccgnfaaNmH
import Derived.Test.YtigpkcpdccgnfaaNmJ
namespace Go.Proofs.Ytigpkcpdccgnfaa
open Go.RowKit
set_option linter.unusedVariables false

theorem tab_len (r : Nat) : (tab r).length ≤ 3 := by
  unfold tab
  split <;> simp
theorem enc_tab : ∀ l : Bs, (enc (l.map fun c => tab (c.toNat % 6))).length ≤ 4 * l.length
  | [] => by simp [enc]
  | c :: l => by
    have := enc_tab l
    have := tab_len (c.toNat % 6)
    rw [List.map_cons, enc_len_cons]
    simp; omega
theorem join_nameOf (l : Bs) : can (join (nameOf l)) = true ∧ labels (join (nameOf l)) = nameOf l :=
  can_join (nameOf_lab l) (by
    have := enc_tab (l.take 4)
    rw [List.length_take] at this
    rw [join_len]
    unfold nameOf
    omega)

theorem comp_cases (a b : Bs) : comp a b = -1 ∨ comp a b = 0 ∨ comp a b = 1 := by
  unfold comp
  split
  · exact cmpL_cases _ _
  · exact .inr (.inl rfl)
theorem comp_neg (a b : Bs) : comp b a = -comp a b := by
  unfold comp
  rw [Bool.and_comm]
  split
  · exact cmpL_neg _ _
  · rfl
theorem labels_inj {a b : Bs} (ha : can a = true) (hb : can b = true) (h : labels a = labels b) : a = b := by
  rw [(can_out ha).2.2.1, (can_out hb).2.2.1, h]
theorem comp_same {a b : Bs} (ha : can a = true) (hb : can b = true) : (comp a b = 0) ↔ same a b = true := by
  unfold comp same key
  rw [if_pos (by simp [ha, hb]), cmpL_zero, ha, hb]
  simp only [Bool.and_self, Bool.true_and, beq_iff_eq]
  constructor
  · intro h
    have h := List.reverse_inj.1 h
    rw [← (can_low ha).2, ← (can_low hb).2] at h
    exact labels_inj (can_low ha).1 (can_low hb).1 h
  · intro h
    rw [← (can_low ha).2, ← (can_low hb).2, h]
theorem comp_trans {a b c : Bs} (ha : can a = true) (hb : can b = true) (hc : can c = true) (h : comp a b ≤ 0) (k : comp b c ≤ 0) : comp a c ≤ 0 := by
  unfold comp at h k ⊢
  rw [if_pos (by simp [ha, hb])] at h
  rw [if_pos (by simp [hb, hc])] at k
  rw [if_pos (by simp [ha, hc])]
  exact cmpL_trans h k
theorem lab_a : Lab [97] := by unfold Lab; decide
theorem a_name : can [1, 97, 0] = true ∧ labels [1, 97, 0] = [[97]] := can_join (L := [[97]]) (by intro x hx; simp at hx; subst hx; exact lab_a) (by decide)
theorem root_name : can [0] = true ∧ labels [0] = [] := can_join (L := []) (by simp) (by decide)
theorem comp_root_a : comp [0] [1, 97, 0] = -1 := by
  unfold comp key
  rw [root_name.1, root_name.2, a_name.1, a_name.2]
  rfl

theorem Below.next {B : Nat} {w w1 w2 : World} (h : Below B w w1) (hs : B ≤ w1.heap.size) (k : Below w1.heap.size w1 w2) : Below B w w2 ∧ B ≤ w2.heap.size := ⟨Below.trans h (k.mono hs), Nat.le_trans hs k.size⟩

set_option maxHeartbeats 2000000 in
set_option maxRecDepth 100000 in
theorem Orders_any (A0 A1 A2 : Option Addr) (c0 c1 c2 : Nat) (l0 l1 l2 : Bs) (w : World) (h0 : Bys w A0 l0) (h1 : Bys w A1 l1) (h2 : Bys w A2 l2) (k0 : l0.length ≤ c0) (k1 : l1.length ≤ c1) (k2 : l2.length ≤ c2)
    (m0 : c0 ≤ 9223372036854775807) (m1 : c1 ≤ 9223372036854775807) (m2 : c2 ≤ 9223372036854775807) :
    Calls Try.prog 7 #[.slice A0 l0.length c0, .slice A1 l1.length c1, .slice A2 l2.length c2] w fun e w' => e = .returned (.bool true) ∧ Below w.heap.size w w' := by
  have hx := (join_nameOf l0).1
  have hy := (join_nameOf l1).1
  have hz := (join_nameOf l2).1
  obtain ⟨x, hxe⟩ : ∃ x, x = join (nameOf l0) := ⟨_, rfl⟩
  obtain ⟨y, hye⟩ : ∃ y, y = join (nameOf l1) := ⟨_, rfl⟩
  obtain ⟨z, hze⟩ : ∃ z, z = join (nameOf l2) := ⟨_, rfl⟩
  rw [← hxe] at hx
  rw [← hye] at hy
  rw [← hze] at hz
  have ht := comp_trans hx hy hz
  have hs := comp_same hx hy
  have hn := comp_neg x y
  have hp := comp_cases x y
  have N0 := Lib.hid (fun W hB => Name_any A0 c0 l0 W (h0.on hB) k0 m0 : ∀ W, Below w.heap.size w W → _)
  have N1 := Lib.hid (fun W hB => Name_any A1 c1 l1 W (h1.on hB) k1 m1 : ∀ W, Below w.heap.size w W → _)
  have N2 := Lib.hid (fun W hB => Name_any A2 c2 l2 W (h2.on hB) k2 m2 : ∀ W, Below w.heap.size w W → _)
  rw [← hxe] at N0
  rw [← hye] at N1
  rw [← hze] at N2
  have HR := Lib.hid (comp_root_a)
  clear hxe hye hze hx hy hz h0 h1 h2 k0 k1 k2 m0 m1 m2
  have P1 := Lib.hid (fun W => Compare_any x y W)
  have P2 := Lib.hid (fun W => Compare_any y z W)
  have P3 := Lib.hid (fun W => Compare_any x z W)
  have P4 := Lib.hid (fun W => Compare_any y x W)
  have P5 := Lib.hid (fun W => Same_any x y W)
  have P6 := Lib.hid (fun W => Compare_any [0] [1, 97, 0] W)
  rw [hn] at P4
  rw [HR.out] at P6
  clear hn HR
  generalize comp x y = p at *
  generalize comp y z = q at *
  generalize comp x z = r at *
  generalize same x y = s at *
  have hs' : s = (p == 0) := by rw [Bool.eq_iff_iff, ← hs]; simp
  subst hs'
  clear hs
  rcases hp with rfl | rfl | rfl
  all_goals
    by_cases hq : q ≤ 0
    all_goals
      first
        | (have ht := ht (by decide) hq)
        | (clear ht)
      go_enter Try.func7, Try.ntmps7
      go_wp2_with fail
      refine (N0.out _ (Below.refl _ _)).mono ?_
      rintro e w1 ⟨rfl, b1⟩
      have s1 := b1.size
      go_wp2_with fail
      refine (N1.out _ b1).mono ?_
      rintro e w2 ⟨rfl, b2⟩
      obtain ⟨b2, s2⟩ := Below.next b1 s1 b2
      clear b1 s1
      go_wp2_with fail
      refine (N2.out _ b2).mono ?_
      rintro e w3 ⟨rfl, b3⟩
      obtain ⟨b3, s3⟩ := Below.next b2 s2 b3
      clear b2 s2
      go_wp2_with fail
      refine (P1.out _).mono ?_
      rintro e w4 ⟨rfl, b4⟩
      obtain ⟨b4, s4⟩ := Below.next b3 s3 b4
      clear b3 s3
      go_wp2_with fail
      refine (P2.out _).mono ?_
      rintro e w5 ⟨rfl, b5⟩
      obtain ⟨b5, s5⟩ := Below.next b4 s4 b5
      clear b4 s4
      go_wp2_with fail
      refine (P3.out _).mono ?_
      rintro e w6 ⟨rfl, b6⟩
      obtain ⟨b6, s6⟩ := Below.next b5 s5 b6
      clear b5 s5
      go_wp2_with fail
      refine (P4.out _).mono ?_
      rintro e w7 ⟨rfl, b7⟩
      obtain ⟨b7, s7⟩ := Below.next b6 s6 b7
      clear b6 s6
      go_wp2_with fail
      refine (P5.out _).mono ?_
      rintro e w8 ⟨rfl, b8⟩
      obtain ⟨b8, s8⟩ := Below.next b7 s7 b8
      clear b7 s7
      go_wp2_with fail
      first
        | (go_ret
           exact ⟨rfl, b8⟩)
        | (refine (P6.out _).mono ?_
           rintro e w9 ⟨rfl, b9⟩
           obtain ⟨b9, s9⟩ := Below.next b8 s8 b9
           go_wp2_with fail
           go_ret
           exact ⟨rfl, b9⟩)
end Go.Proofs.Ytigpkcpdccgnfaa
