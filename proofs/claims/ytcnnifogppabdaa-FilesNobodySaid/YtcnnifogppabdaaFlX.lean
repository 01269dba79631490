/-
  The walk of FilesFuse.
-/
import Derived.Test.YtcnnifogppabdaaFlW
import Derived.Test.YtcnnifogppabdaaPlD
namespace Go.Proofs.Ytcnnifogppabdaa
open Go.RowKit Go.Maps
set_option linter.unusedVariables false
set_option maxRecDepth 100000

theorem bys_one (w : World) (x : UInt8) : Bys (w.alloc (.cells #[.int .u8 x.toNat] 5)) (some ⟨w.heap.size, 0, none⟩) [x] := fun _ => by
  refine ⟨_, 0, rfl, fun j hj => ?_⟩
  have hr := row_new (w := w) (k := w.heap.size) (.cells #[.int .u8 x.toNat] 5 (0, 0)) rfl
  refine (cell_of_row _ _ _ _ _ _ hr).trans ?_
  have : j = 0 := by simp at hj; omega
  subst this
  rfl
set_option maxHeartbeats 4000000 in
theorem Fuse_walk (t : Int) (A : Option Addr) (len c : Nat) (w : World) (hS : Stps w A len) (hc : len ≤ c) (hcm : c ≤ 9223372036854775807) :
    Calls Try.prog 5 #[.int .i64 t, .slice A len c] w fun e w' => e = .returned (.bool true) ∧ Below w.heap.size w w' := by
  obtain ⟨r, hr, hr2⟩ := place_mod t 12 (by omega) (by omega)
  have hr' : wrap64 ((IntKind.u64.wrap t).tmod 12) = r := hr
  have HR := Lib.hid hr'
  clear hr hr'
  have N0 := Lib.hid (New_dk 1048576 w (by omega))
  have C1 := Lib.hid (fun P W (h : DK P w.heap.size 0 (newD 1048576) W) => Fuse_dk (r : Int) W h (by omega) (by omega))
  have C2 := Lib.hid (fun P W k (h : DK P w.heap.size k (fuseD r k) W) (hk : k < r) => by
    have := Append_dn [1] 1 1 [97] W (.cells #[.int .u8 1] 5) h (by unfold maxLen; omega) rfl (by simp) (show _ from bys_one W 1) (by simp) (by omega) (by simp)
    rw [fuse_step r k hk hr2] at this
    exact this)
  have C3 := Lib.hid (fun P N W (h : DK P w.heap.size N (fuseD r r) W) => fuse_read W h)
  have C4 := Lib.hid (fun P N W (h : DK P w.heap.size N (fuseD r r) W) => Crash_dk none [] 0 0 W h rfl (tls_nil _ _) (by simp) (fun x hx => by cases hx))
  obtain ⟨D9, h9, h9u⟩ := fuse_end r
  have C5 := Lib.hid (fun P W (h : DK P w.heap.size (r + 1) ⟨crashS [] (fuseD r r).S, (fuseD r r).room, -1, -1⟩ W) => by
    have := Append_dn [2] 1 1 [97] W (.cells #[.int .u8 2] 5) h (by unfold maxLen; omega) rfl (by simp) (show _ from bys_one W 2) (by simp) (by omega) (by simp)
    rw [h9] at this
    exact this)
  have C6 := Lib.hid (fun P W (h : DK P w.heap.size (r + 1 + 1) D9 W) => by have := Used_dk W h; rw [h9u] at this; exact this)
  have hdead := Lib.hid (fuse_dead r)
  obtain ⟨X, hX⟩ : ∃ X, X = List.replicate r (1 : UInt8) := ⟨_, rfl⟩
  rw [← hX] at C3
  have HXL : Hid (X.length = r) := Lib.hid (by rw [hX, List.length_replicate])
  have C7 := Lib.hid (fun B E d f n m W (hB : Bys W B X) (hE : Bys W E X) (hn : n = X.length) (hm : m = X.length) => by have := EqualB_any B E X X n m d f W hB hE hn hm; rw [show (X == X) = true by simp] at this; exact this)
  clear hX h9 h9u
  have f1 : ((r : Int) != (r : Int)) = false := by simp
  go_enter Try.func5, Try.ntmps5
  go_wp2_with fail
  with_reducible refine Calls.mono N0.out ?_
  rintro e w1 ⟨⟨P, rfl, hD1⟩, hB1⟩
  have HD1 := Lib.hid hD1
  clear hD1
  go_wp2_with fail
  rw [HR.out]
  with_reducible refine Calls.mono (C1.out P _ HD1.out) ?_
  rintro e w2 ⟨rfl, hD2, b2⟩
  have hB2 := Below.trans hB1 b2
  have hD2 : DK P w.heap.size 0 (fuseD r 0) w2 := hD2
  clear b2 hB1 HD1 N0 C1
  go_wp2_with fail
  go_loopw [32] (fun v wr => ∃ k : Nat, v = .int .i64 k ∧ k ≤ r ∧ DK P w.heap.size k (fuseD r k) wr ∧ Below w.heap.size w wr) (fun v _ => r - (intOf v).toNat)
  case atStart => exact ⟨0, rfl, by omega, hD2, hB2⟩
  case round =>
    clear hD2 hB2
    obtain ⟨k, rfl, hk, hD, hB⟩ := hrel
    by_cases hlt : k < r
    · have g1 : (k : Int) < r := by omega
      have HD := Lib.hid hD
      have HB := Lib.hid hB
      clear hD hB
      go_wp2_with fail
      with_reducible refine Calls.mono (C2.out P _ k HD.out hlt) ?_
      rintro e w3 ⟨rfl, hD3, b3⟩
      have HD3 := Lib.hid hD3
      have HB3 : Hid (Below w.heap.size w w3) := Lib.hid (Below.trans (Below.alloc HB.out HB.out.size _) b3)
      clear hD3 b3
      go_wp2_with fail
      go_roundw
      case rel => exact ⟨k + 1, by go_num, by omega, HD3.out, HB3.out⟩
      case measure => simp [intOf]; omega
    · obtain rfl : k = r := by omega
      have HD := Lib.hid hD
      have HB := Lib.hid hB
      clear hD hB C2 hk hlt
      go_wp2_with fail
      with_reducible refine Calls.mono (C3.out P _ _ HD.out) ?_
      rintro e w4 ⟨⟨v4, k4, rfl, ho4⟩, b4⟩
      have HD4 := Lib.hid (HD.out.below b4)
      have HB4 : Hid (Below w.heap.size w w4) := Lib.hid (Below.trans HB.out (b4.mono HB.out.size))
      obtain ⟨A4, c4, rfl, y4, _⟩ := ho4.bys
      have HO4 := Lib.hid ho4
      have HY4 := Lib.hid y4
      clear ho4 y4 b4 HD HB
      rw [HXL.out]
      go_wp2_with fail
      go_loopw [50] (fun v wr => ∃ j : Nat, v = .int .i64 j ∧ j ≤ len ∧ Below w4.heap.size w4 wr) (fun v _ => len - (intOf v).toNat)
      case atStart => exact ⟨0, rfl, by omega, Below.refl _ _⟩
      case round =>
        obtain ⟨j, rfl, hj, hBr⟩ := hrel
        by_cases hjl : j < len
        · have g2 : (j : Int) < len := by omega
          obtain ⟨g, off, rfl, hcs⟩ := (hS.on (Below.trans HB4.out (hBr.mono HB4.out.size))) (by omega)
          obtain ⟨x, R2⟩ := hcs j hjl
          have R2 : wr.rangeAt g (off + j * 6) [.int .i64 x.op, .int .i64 x.k, .string x.nm, .string x.to, .slice x.ba x.bn x.bc, .slice x.ta x.tn x.tc] := R2
          have q0 := R2 0 _ rfl
          have q1 := R2 1 _ rfl
          have q2 := R2 2 _ rfl
          have q3 := R2 3 _ rfl
          have q4 := R2 4 _ rfl
          have q5 := R2 5 _ rfl
          rw [Nat.add_zero] at q0
          have hDD : Hid (DD P wr) := Lib.hid ((HD4.out.below hBr).dead hdead.out)
          have HBr := Lib.hid hBr
          clear hcs R2 hBr
          go_wp2_with fail
          with_reducible refine Calls.mono (Append_dead [97] _ _ _ _ (hDD.out.below (Below.alloc (Below.refl _ _) (Nat.le_refl _) _)) can_a) ?_
          rintro e w5 ⟨rfl, b5⟩
          have hB5 : Below w4.heap.size w4 w5 := Below.trans HBr.out (((Below.alloc (Below.refl _ _) (Nat.le_refl _) _).trans (b5.mono (by simp))).mono HBr.out.size)
          have HB5 := Lib.hid hB5
          clear hB5 b5 q0 q1 q2 q3 q4 q5 hDD HBr
          go_wp2_with fail
          with_reducible refine Calls.mono (Sync_dead [97] _ ((HD4.out.below HB5.out).dead hdead.out)) ?_
          rintro e w6 ⟨rfl, b6⟩
          have HB6 := Lib.hid (Below.trans HB5.out (b6.mono HB5.out.size))
          clear b6 HB5
          go_wp2_with fail
          with_reducible refine Calls.mono (Remove_dead [97] _ ((HD4.out.below HB6.out).dead hdead.out)) ?_
          rintro e w7 ⟨rfl, b7⟩
          have HB7 := Lib.hid (Below.trans HB6.out (b7.mono HB6.out.size))
          clear b7 HB6
          go_wp2_with fail
          with_reducible refine Calls.mono (Rename_dead [97] [98] _ ((HD4.out.below HB7.out).dead hdead.out) can_b) ?_
          rintro e w8 ⟨rfl, b8⟩
          have HB8 := Lib.hid (Below.trans HB7.out (b8.mono HB7.out.size))
          clear b8 HB7
          go_wp2_with fail
          with_reducible refine Calls.mono (Cut_dead [97] _ ((HD4.out.below HB8.out).dead hdead.out) (by simp)) ?_
          rintro e w9 ⟨rfl, b9⟩
          have HB9 := Lib.hid (Below.trans HB8.out (b9.mono HB8.out.size))
          clear b9 HB8
          go_wp2_with fail
          go_roundw
          case rel => exact ⟨j + 1, by go_num, by omega, HB9.out⟩
          case measure => simp [intOf]; omega
        · obtain rfl : j = len := by omega
          have HD5 := Lib.hid (HD4.out.below hBr)
          have HB5 : Hid (Below w.heap.size w wr) := Lib.hid (Below.trans HB4.out (hBr.mono HB4.out.size))
          have HY5 : Hid (Bys wr A4 X) := Lib.hid (HY4.out.on hBr)
          clear hBr HY4 HD4 HB4 HO4 hS
          go_wp2_with fail
          with_reducible refine Calls.mono (C3.out P _ _ HD5.out) ?_
          rintro e w6 ⟨⟨v6, k6, rfl, ho6⟩, b6⟩
          have HD6 := Lib.hid (HD5.out.below b6)
          have HB6 : Hid (Below w.heap.size w w6) := Lib.hid (Below.trans HB5.out (b6.mono HB5.out.size))
          have HY6 := Lib.hid (HY5.out.on b6)
          obtain ⟨A6, c6, rfl, y6, _⟩ := ho6.bys
          have HZ6 := Lib.hid y6
          clear ho6 y6 b6 HD5 HB5 HY5
          rw [HXL.out]
          go_wp2_with fail
          with_reducible refine Calls.mono (C7.out _ _ _ _ _ _ _ HY6.out HZ6.out HXL.out.symm HXL.out.symm) ?_
          rintro e w7 ⟨rfl, rfl⟩
          clear HY6 HZ6
          go_wp2_with fail
          with_reducible refine Calls.mono (C4.out P _ _ HD6.out) ?_
          rintro e w8 ⟨rfl, hD8, b8⟩
          have HD8 := Lib.hid hD8
          have HB8 := Lib.hid (Below.trans HB6.out b8)
          clear hD8 b8 HD6 HB6
          go_wp2_with fail
          with_reducible refine Calls.mono (C5.out P _ HD8.out) ?_
          rintro e w9 ⟨rfl, hD9, b9⟩
          have HD9 := Lib.hid hD9
          have HB9 : Hid (Below w.heap.size w w9) := Lib.hid (Below.trans (Below.alloc HB8.out HB8.out.size _) b9)
          clear hD9 b9 HD8 HB8
          go_wp2_with fail
          with_reducible refine Calls.mono (C6.out P _ HD9.out) ?_
          rintro e w10 ⟨rfl, rfl⟩
          go_wp2_with fail
          go_ret
          exact ⟨rfl, HB9.out⟩
end Go.Proofs.Ytcnnifogppabdaa
