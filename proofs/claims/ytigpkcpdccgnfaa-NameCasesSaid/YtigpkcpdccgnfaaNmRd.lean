/-
  The document's Compare.
-/
import Derived.Test.YtigpkcpdccgnfaaNmRb
import Derived.Test.YtigpkcpdccgnfaaNmG
import Derived.Test.YtigpkcpdccgnfaaNmO
import Derived.Deep.QuietTactic
import Derived.BigQuiet
namespace Go.Proofs.Ytigpkcpdccgnfaa
open Go.RowKit
set_option linter.unusedVariables false

set_option maxHeartbeats 1000000 in
theorem rCompare_no (a b : Bs) (w : World) (h : (can a && can b) = false) : Calls Try.prog 22 #[.string (bs a), .string (bs b)] w fun e w' => e = .returned (.int .i64 0) ∧ Below w.heap.size w w' := by
  have Ca := Lib.hid (fun W => rCan_any a W)
  have Cb := Lib.hid (fun W => rCan_any b W)
  cases ha : can a
  · rw [ha] at Ca
    clear ha h
    go_enter Try.func22, Try.ntmps22
    go_wp2_with fail
    refine (Ca.out _).mono ?_
    rintro e w1 ⟨rfl, rfl⟩
    go_wp2_with fail
    go_ret
    exact ⟨rfl, Below.refl _ _⟩
  · have hb : can b = false := by rw [ha] at h; simpa using h
    rw [ha] at Ca
    rw [hb] at Cb
    clear ha hb h
    go_enter Try.func22, Try.ntmps22
    go_wp2_with fail
    refine (Ca.out _).mono ?_
    rintro e w1 ⟨rfl, rfl⟩
    go_wp2_with fail
    refine (Cb.out _).mono ?_
    rintro e w1 ⟨rfl, rfl⟩
    go_wp2_with fail
    go_ret
    exact ⟨rfl, Below.refl _ _⟩

set_option maxHeartbeats 4000000 in
set_option maxRecDepth 100000 in
theorem rCompare_yes (a b : Bs) (v : Int) (w : World) (ha : can a = true) (hb : can b = true) (hv : Hid (v = cmpL (labels (lower a)).reverse (labels (lower b)).reverse)) :
    Calls Try.prog 22 #[.string (bs a), .string (bs b)] w fun e w' => e = .returned (.int .i64 v) ∧ Below w.heap.size w w' := by
  have Ca := Lib.hid (fun W => rCan_any a W)
  have Cb := Lib.hid (fun W => rCan_any b W)
  rw [ha] at Ca
  rw [hb] at Cb
  have hna := can_count (by rw [can_lower]; exact ha : can (lower a) = true)
  have hnb := can_count (by rw [can_lower]; exact hb : can (lower b) = true)
  have La := Lib.hid (fun W => Labels_any (lower a) W)
  have Lb := Lib.hid (fun W => Labels_any (lower b) W)
  have Wa := Lib.hid (fun W => rLower_any a W)
  have Wb := Lib.hid (fun W => rLower_any b W)
  clear ha hb
  generalize lower a = la at *
  generalize lower b = lb at *
  generalize labels la = X at *
  generalize labels lb = Y at *
  go_enter Try.func22, Try.ntmps22
  go_wp2_with fail
  refine (Ca.out _).mono ?_
  rintro e w1 ⟨rfl, rfl⟩
  go_wp2_with fail
  refine (Cb.out _).mono ?_
  rintro e w1 ⟨rfl, rfl⟩
  go_wp2_with fail
  refine (Wa.out _).mono ?_
  rintro e w1 ⟨rfl, b1⟩
  have s1 := b1.size
  go_wp2_with fail
  refine (La.out _).mono ?_
  rintro e w2 ⟨A, ca, rfl, hA, hca, b2⟩
  obtain ⟨b2, s2⟩ := Below.next b1 s1 b2
  clear b1 s1
  go_wp2_with fail
  refine (Wb.out _).mono ?_
  rintro e w3 ⟨rfl, b3⟩
  have hA := hA.on b3
  obtain ⟨b3, s3⟩ := Below.next b2 s2 b3
  clear b2 s2
  go_wp2_with fail
  refine (Lb.out _).mono ?_
  rintro e w4 ⟨B, cb, rfl, hB, hcb, b4⟩
  have hA := hA.on b4
  obtain ⟨b4, s4⟩ := Below.next b3 s3 b4
  clear b3 s3 Ca Cb La Lb Wa Wb
  go_wp2_with fail
  go_loopw [7] (fun x wr => ∃ k n : Nat, wr = w4.drewN n ∧ x = .int .i64 ((k : Int) + 1) ∧ k ≤ X.length ∧ k ≤ Y.length ∧ Hid (v = cmpL (X.reverse.drop k) (Y.reverse.drop k))) (fun x _ => X.length + 1 - (intOf x).toNat)
  case atStart => exact ⟨0, 0, rfl, rfl, by omega, by omega, hv⟩
  case round =>
    clear hv
    obtain ⟨k, n, rfl, rfl, hk1, hk2, hv⟩ := hrel
    by_cases hlt : k < X.length ∧ k < Y.length
    · obtain ⟨hl1, hl2⟩ := hlt
      obtain ⟨g, off, rfl, hcs⟩ := hA (by omega)
      obtain ⟨g', off', rfl, hcs'⟩ := hB (by omega)
      have hd := cmpL_drop (A := X.reverse) (B := Y.reverse) (k := k) (by simpa using hl1) (by simpa using hl2)
      rw [List.getElem_reverse, List.getElem_reverse] at hd
      have c1 := hcs (X.length - 1 - k) (by omega)
      have c2 := hcs' (Y.length - 1 - k) (by omega)
      generalize X[X.length - 1 - k] = x at *
      generalize Y[Y.length - 1 - k] = y at *
      have i1 : ((X.length : Int) - ((k : Int) + 1)).toNat = X.length - 1 - k := by omega
      have i2 : ((Y.length : Int) - ((k : Int) + 1)).toNat = Y.length - 1 - k := by omega
      have r1 : (0 : Int) ≤ (X.length : Int) - ((k : Int) + 1) := by omega
      have r2 : (0 : Int) ≤ (Y.length : Int) - ((k : Int) + 1) := by omega
      have r3 : (X.length : Int) - ((k : Int) + 1) < (X.length : Int) := by omega
      have r4 : (Y.length : Int) - ((k : Int) + 1) < (Y.length : Int) := by omega
      have s1 : IntKind.i64.wrap ((X.length : Int) - ((k : Int) + 1)) = (X.length : Int) - ((k : Int) + 1) := IntWalk.i64_in _ (by omega)
      have s2 : IntKind.i64.wrap ((Y.length : Int) - ((k : Int) + 1)) = (Y.length : Int) - ((k : Int) + 1) := IntWalk.i64_in _ (by omega)
      have ex := bs_toList x
      have ey := bs_toList y
      have q1 : (k : Int) + 1 ≤ (X.length : Int) := by omega
      have q2 : (k : Int) + 1 ≤ (Y.length : Int) := by omega
      have HD := Lib.hid hd
      have F := Lib.hid (And.intro i1 (And.intro i2 (And.intro s1 s2)))
      have G := Lib.hid (And.intro c1 c2)
      clear hcs hcs' hd i1 i2 s1 s2 c1 c2
      go_wp2_with fail
      obtain ⟨i1, i2, s1, s2⟩ := F.out
      obtain ⟨c1, c2⟩ := G.out
      go_quiet (fail)
      clear i1 i2 s1 s2 c1 c2 F G
      rcases cmpB_cases x y with hc | hc | hc
      · have k1 := cmpB_lt.1 hc
        have hD := HD.out
        rw [if_neg (by omega), ← hv.out] at hD
        have HV := Lib.hid (hD.trans hc)
        clear hD hc HD hv
        go_wp2_with fail
        go_ret
        exact ⟨by rw [HV.out]; rfl, below_drewN b4 _⟩
      · have hD := HD.out
        rw [if_pos hc, ← hv.out] at hD
        have HV := Lib.hid hD
        obtain rfl := cmpB_zero.1 hc
        have k1 := less_irrefl x
        have k2 : (x == x) = true := by simp
        clear hD hc HD hv
        go_wp2_with fail
        go_roundw
        case rel => exact ⟨k + 1, _, rfl, by go_num, by omega, by omega, HV⟩
        case measure => simp [intOf]; omega
      · have k1 := less_asymm (cmpB_gt.1 hc)
        have k2 : (x == y) = false := by
          rw [beq_eq_false_iff_ne]
          intro e
          rw [cmpB_zero.2 e] at hc; cases hc
        have hD := HD.out
        rw [if_neg (by omega), ← hv.out] at hD
        have HV := Lib.hid (hD.trans hc)
        clear hD hc HD hv
        go_wp2_with fail
        go_ret
        exact ⟨by rw [HV.out]; rfl, below_drewN b4 _⟩
    · have he : k = min X.reverse.length Y.reverse.length := by simp; omega
      have hD := cmpL_end he
      rw [← hv.out, List.length_reverse, List.length_reverse] at hD
      unfold cmpI at hD
      have HV := Lib.hid hD
      clear hD he hv hA hB
      generalize X.length = nx at *
      generalize Y.length = ny at *
      rcases Int.lt_trichotomy (nx : Int) (ny : Int) with h | h | h
      · have q : ¬ ((k : Int) + 1 ≤ (nx : Int)) := by omega
        go_wp2_with fail
        go_ret
        exact ⟨by rw [HV.out, if_pos h]; rfl, below_drewN b4 _⟩
      · have q : ¬ ((k : Int) + 1 ≤ (nx : Int)) := by omega
        have q1 : ¬ (nx : Int) < (ny : Int) := by omega
        have q2 : ¬ (ny : Int) < (nx : Int) := by omega
        have H := Lib.hid h
        clear h
        go_wp2_with fail
        go_ret
        exact ⟨by rw [HV.out, if_neg (show ¬ (nx : Int) < (ny : Int) by omega), if_neg (show ¬ (ny : Int) < (nx : Int) by omega)]; rfl, below_drewN b4 _⟩
      · have q : (k : Int) + 1 ≤ (nx : Int) := by omega
        have q2 : ¬ ((k : Int) + 1 ≤ (ny : Int)) := by omega
        have q1 : ¬ (nx : Int) < (ny : Int) := by omega
        go_wp2_with fail
        go_ret
        exact ⟨by rw [HV.out, if_neg (show ¬ (nx : Int) < (ny : Int) by omega), if_pos h]; rfl, below_drewN b4 _⟩

theorem rCompare_any (a b : Bs) (w : World) : Calls Try.prog 22 #[.string (bs a), .string (bs b)] w fun e w' => e = .returned (.int .i64 (comp a b)) ∧ Below w.heap.size w w' := by
  cases h : can a && can b
  · rw [lower_no_any h]; exact rCompare_no a b w h
  · simp only [Bool.and_eq_true] at h
    refine rCompare_yes a b (comp a b) w h.1 h.2 (Lib.hid ?_)
    unfold comp key
    rw [if_pos (by simp [h.1, h.2]), labels_lower, labels_lower]
end Go.Proofs.Ytigpkcpdccgnfaa
