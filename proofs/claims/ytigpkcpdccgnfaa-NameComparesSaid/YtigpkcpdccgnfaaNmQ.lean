/-
  The walk of NameClimbs.
-/
import Derived.Test.YtigpkcpdccgnfaaNmO
namespace Go.Proofs.Ytigpkcpdccgnfaa
open Go.RowKit
set_option linter.unusedVariables false

theorem tail_of {l : Bs} (h : can l = true) (k : Int) : tail l k = join ((labels l).drop ((labels l).length - clamp k (labels l).length)) := by unfold tail; rw [if_pos h]
theorem tail_all {l : Bs} (h : can l = true) {k : Int} (hk : ((labels l).length : Int) ≤ k) : tail l k = l := by
  rw [tail_of h, show (labels l).length - clamp k (labels l).length = 0 by unfold clamp; omega, List.drop_zero, ← (can_out h).2.2.1]
theorem same_self {l : Bs} (h : can l = true) : same l l = true := by unfold same; simp [h]

/-- A name of Labs, not too long. -/
structure Nm (L : List Bs) : Prop where
  ok : can (join L) = true
  eq : labels (join L) = L
theorem Nm.of {L : List Bs} (h : ∀ x ∈ L, Lab x) (hl : (join L).length ≤ 255) : Nm L := ⟨(can_join h hl).1, (can_join h hl).2⟩
theorem Nm.drop {L : List Bs} (h : Nm L) (i : Nat) : Nm (L.drop i) := by
  have := can_drop h.ok i
  rw [h.eq] at this
  exact ⟨this.1, this.2⟩
theorem Nm.nameOf (l : Bs) : Nm (nameOf l) := ⟨(join_nameOf l).1, (join_nameOf l).2⟩

theorem Nm.tail_at {L : List Bs} (h : Nm L) (i : Nat) : tail (join L) i = join (L.drop (L.length - i)) := by
  rw [tail_of h.ok, h.eq]
  congr 2
  unfold clamp; omega
theorem Nm.within_up {x : Bs} {L : List Bs} (h : Nm (x :: L)) : within (join (x :: L)) (join L) = true := by
  have h1 : Nm L := h.drop 1
  unfold within
  rw [h1.eq, h.tail_at, show (x :: L).length - L.length = 1 by simp]
  exact same_self h1.ok
theorem Nm.within_down {x : Bs} {L : List Bs} (h : Nm (x :: L)) : within (join L) (join (x :: L)) = false := by
  have h1 : Nm L := h.drop 1
  unfold within
  rw [h.eq, h1.tail_at, show L.length - (x :: L).length = 0 by simp, List.drop_zero]
  unfold same
  rw [h.ok, h1.ok]
  simp only [Bool.and_self, Bool.true_and, beq_eq_false_iff_ne]
  intro e
  have e := congrArg labels e
  rw [(can_low h1.ok).2, (can_low h.ok).2, h1.eq, h.eq] at e
  have := congrArg List.length e
  simp at this

set_option maxHeartbeats 2000000 in
set_option maxRecDepth 100000 in
theorem Climbs_any (A0 : Option Addr) (c0 : Nat) (l0 : Bs) (w : World) (h0 : Bys w A0 l0) (k0 : l0.length ≤ c0) (m0 : c0 ≤ 9223372036854775807) :
    Calls Try.prog 9 #[.slice A0 l0.length c0] w fun e w' => e = .returned (.bool true) ∧ Below w.heap.size w w' := by
  have hN := Nm.nameOf l0
  have hlen : (nameOf l0).length ≤ 4 := by unfold nameOf; simp; omega
  have N0 := Lib.hid (Name_any A0 c0 l0 w h0 k0 m0)
  clear h0 k0 m0
  generalize nameOf l0 = X at *
  go_enter Try.func9, Try.ntmps9
  go_wp2_with fail
  refine N0.out.mono ?_
  rintro e w1 ⟨rfl, b1⟩
  have s1 := b1.size
  go_wp2_with fail
  refine (Count_any (join X) _).mono ?_
  rintro e w2 ⟨rfl, b2⟩
  rw [hN.eq]
  obtain ⟨b2, s2⟩ := Below.next b1 s1 b2
  clear b1 s1
  go_wp2_with fail
  have j0 : join X = join (X.drop 0) := rfl
  have J0 := Lib.hid j0
  clear j0
  go_loopw [3, 12] (fun v i wr => ∃ k : Nat, i = .int .i64 k ∧ k ≤ X.length ∧ v = .string (bs (join (X.drop k))) ∧ Below w.heap.size w wr ∧ w.heap.size ≤ wr.heap.size) (fun _ i _ => 200 - (intOf i).toNat)
  case atStart => exact ⟨0, rfl, by omega, rfl, b2, s2⟩
  case round =>
    clear b2 s2 J0
    obtain ⟨k, rfl, hk, rfl, hB, hS⟩ := hrel
    have hM := hN.drop k
    have hML : (X.drop k).length = X.length - k := by simp
    have h200 : (k : Int) < 200 := by omega
    have ht : tail (join (X.drop k)) ((X.length : Int) - (k : Int)) = join (X.drop k) := tail_all hM.ok (by rw [hM.eq, hML]; omega)
    have C1 := Lib.hid (fun W => Count_any (join (X.drop k)) W)
    have C2 := Lib.hid (fun W => Tail_any (join (X.drop k)) ((X.length : Int) - (k : Int)) W (by omega) (by omega))
    rw [hM.eq, hML] at C1
    rw [ht] at C2
    have hpn : ((X.length - k : Nat) : Int) = (X.length : Int) - (k : Int) := by omega
    rw [hpn] at C1
    clear ht hpn
    have hne : (((X.length : Int) - (k : Int)) != ((X.length : Int) - (k : Int))) = false := by simp
    by_cases hlt : k < X.length
    · have hd : X.drop k = X[k] :: X.drop (k + 1) := List.drop_eq_getElem_cons hlt
      have hP := fun W => Parent_yes (join (X.drop k)) (X.length - k - 1) W (by rw [hM.eq, hML]; omega)
      have hw1 := fun W => Within_any (join (X.drop k)) (join (X.drop (k + 1))) W
      have hw2 := fun W => Within_any (join (X.drop (k + 1))) (join (X.drop k)) W
      rw [hM.eq] at hP
      rw [hd] at hM
      have e1 := hM.within_up
      have e2 := hM.within_down
      rw [← hd] at e1 e2
      rw [e1] at hw1
      rw [e2] at hw2
      have et : (X.drop k).tail = X.drop (k + 1) := by rw [hd]; rfl
      rw [et] at hP
      have P := Lib.hid hP
      have W1 := Lib.hid hw1
      have W2 := Lib.hid hw2
      clear e1 e2 et hP hw1 hw2 hd hM hML
      go_wp2_with fail
      refine (C1.out _).mono ?_
      rintro e w3 ⟨rfl, b3⟩
      obtain ⟨b3, s3⟩ := Below.next hB hS b3
      go_wp2_with fail
      refine (C2.out _).mono ?_
      rintro e w4 ⟨rfl, b4⟩
      obtain ⟨b4, s4⟩ := Below.next b3 s3 b4
      clear b3 s3
      go_wp2_with fail
      refine (P.out _).mono ?_
      rintro e w5 ⟨rfl, b5⟩
      obtain ⟨b5, s5⟩ := Below.next b4 s4 b5
      clear b4 s4
      go_wp2_with fail
      refine (W1.out _).mono ?_
      rintro e w6 ⟨rfl, b6⟩
      obtain ⟨b6, s6⟩ := Below.next b5 s5 b6
      clear b5 s5
      go_wp2_with fail
      refine (W2.out _).mono ?_
      rintro e w7 ⟨rfl, b7⟩
      obtain ⟨b7, s7⟩ := Below.next b6 s6 b7
      clear b6 s6
      go_wp2_with fail
      go_roundw
      case rel => exact ⟨k + 1, by go_num, by omega, rfl, b7, s7⟩
      case measure => simp [intOf]; omega
    · obtain rfl : k = X.length := by omega
      have hd : join (X.drop X.length) = [0] := by simp [join, enc]
      have P := Lib.hid (fun W => Parent_root [0] W root_name.2)
      rw [hd, Int.sub_self] at C1 C2
      rw [hd]
      clear hd hM hML
      go_wp2_with fail
      refine (C1.out _).mono ?_
      rintro e w3 ⟨rfl, b3⟩
      obtain ⟨b3, s3⟩ := Below.next hB hS b3
      go_wp2_with fail
      refine (C2.out _).mono ?_
      rintro e w4 ⟨rfl, b4⟩
      obtain ⟨b4, s4⟩ := Below.next b3 s3 b4
      clear b3 s3
      go_wp2_with fail
      refine (P.out _).mono ?_
      rintro e w5 ⟨rfl, b5⟩
      obtain ⟨b5, s5⟩ := Below.next b4 s4 b5
      clear b4 s4
      go_wp2_with fail
      go_ret
      exact ⟨rfl, b5⟩
end Go.Proofs.Ytigpkcpdccgnfaa
