/-
  What is known of a server stays within its bounds; the walk of RateBounds.
-/
import Derived.Test.YtabclpffjpcejaaRtJ
namespace Go.Proofs.Ytabclpffjpcejaa
open Go.RowKit Go.Maps
set_option linter.unusedVariables false
set_option maxRecDepth 100000

theorem ord_lt {a b : Nat} (ha : a < 8192) (hb : b < 8192) (h : b ≤ a) : (FloatKind.f64.format.order (Fl a) (Fl b) == some .lt) = false := by
  rw [Fl_order ha hb]
  rcases Nat.lt_trichotomy a b with h | h | h
  · omega
  · rw [Nat.compare_eq_eq.2 h]; rfl
  · rw [Nat.compare_eq_gt.2 h]; rfl
theorem ord_gt {a b : Nat} (ha : a < 8192) (hb : b < 8192) (h : a ≤ b) : (FloatKind.f64.format.order (Fl a) (Fl b) == some .gt) = false := by
  rw [Fl_order ha hb]
  rcases Nat.lt_trichotomy a b with h | h | h
  · rw [Nat.compare_eq_lt.2 h]; rfl
  · rw [Nat.compare_eq_eq.2 h]; rfl
  · omega
theorem ord_eq {a : Nat} (ha : a < 8192) : (FloatKind.f64.format.order (Fl a) (Fl a) == some .eq) = true := by
  rw [Fl_order ha ha, Nat.compare_eq_eq.2 rfl]; rfl
theorem ord_eq1 {a : Nat} (ha : a < 8192) : FloatKind.f64.format.order (Fl a) (Fl a) = some .eq := by
  rw [Fl_order ha ha, Nat.compare_eq_eq.2 rfl]
theorem ord_eq2 {a : Nat} (ha : a < 8192) : (FloatKind.f64.format.order (Fl a) (Fl a) != some .eq) = false := by
  rw [ord_eq1 ha]; rfl
theorem Fl8000 : Fl 8000 = 4665518107723300864 := by kernel_rfl
set_option maxHeartbeats 4000000 in
theorem RateBounds_any (w : World) (a : Int) (ha : I64 a) (A : Option Addr) (xs : List Int) (n c : Nat) (hn : n = xs.length) (hx : Nts w A xs) (hI : ∀ x ∈ xs, I64 x) (hm : n ≤ 17592186044000) :
    Calls Try.prog 8 #[.int .i64 a, .slice A n c] w fun e w' => e = .returned (.bool true) ∧ Below w.heap.size w w' := by
  have NT := Lib.hid (NewT_any w)
  have HN := Lib.hid hn
  have HX := Lib.hid hx
  have HI := Lib.hid hI
  have HA := Lib.hid ha
  clear hn hx hI ha
  go_enter Try.func8, Try.ntmps8
  go_wp2_with fail
  refine NT.out.mono ?_
  rintro e w1 ⟨rfl, t1, b1⟩
  have T1 := Lib.hid t1
  have B1 := Lib.hid b1
  clear t1 b1 NT
  go_wp2_with fail
  go_loopw [13] (fun u wr => ∃ k : Nat, u = .int .i64 k ∧ k ≤ n ∧ ∃ (N : Nat) (T : Int → Nat × Nat), N ≤ k ∧ Tab (w.heap.size + 1) w.heap.size N T wr ∧ Below w.heap.size w wr) (fun u _ => n - (intOf u).toNat)
  case atStart => exact ⟨0, rfl, by omega, 0, _, Nat.le_refl _, T1.out, B1.out⟩
  case round =>
    obtain ⟨k, rfl, hk, N, T, hN, hT, hB⟩ := hrel
    rename_i wr
    by_cases hlt : k < n
    · have hlt' : (k : Int) < (n : Int) := by omega
      have hkl : k < xs.length := by have := HN.out; omega
      obtain ⟨g, off, rfl, hc⟩ := HX.out (by omega)
      have ck := cell_on (hc k hkl) hB
      have hxi := HI.out _ (List.getElem_mem hkl)
      obtain ⟨x, hx⟩ : ∃ x, x = xs[k] := ⟨_, rfl⟩
      rw [← hx] at ck hxi
      clear hx hc
      have O1 := Lib.hid (Of_any wr hT a HA.out)
      have ok := hT.ok a
      have fin : ∀ w2, Mod (fun k => k = w.heap.size) wr w2 → Below w.heap.size w w2 := fun w2 hM => Mod.out hB hM hB.size (fun i e => by omega)
      have FIN := Lib.hid fin
      have hN44 : N < 17592186044416 := by omega
      have O2 : Hid (∀ N' x' w2, Tab (w.heap.size + 1) w.heap.size N' (put1 T a x') w2 → Calls Try.prog 32 #[.pointer (some ⟨w.heap.size + 1, 0, none⟩), .int .i64 a] w2 fun e w' => e = .returned (cV x') ∧ w2 = w') := Lib.hid (fun N' x' w2 h2 => by
        have := Of_any w2 h2 a HA.out
        unfold put1 at this
        rw [if_pos rfl] at this
        exact this)
      by_cases h3 : Int.tmod x 3 = 0
      · have C := Lib.hid (Failed_any wr hT hN44 a HA.out)
        have okf := failT_ok ok
        have hge : (T a).2 ≤ (failT (T a)).2 := by unfold failT; simp only; omega
        have e1 := ord_lt (a := (failT (T a)).2) (b := (T a).2) (by omega) (by omega) hge
        have b1 := ord_lt (a := (failT (T a)).1) (b := 0) (by omega) (by omega) (by omega)
        have b2 := ord_gt (a := (failT (T a)).1) (b := 8000) (by omega) (by omega) (by omega)
        have b3 := ord_lt (a := (failT (T a)).2) (b := 0) (by omega) (by omega) (by omega)
        have b4 := ord_gt (a := (failT (T a)).2) (b := 1000) (by omega) (by omega) (by omega)
        have b5 := ord_eq1 (a := (failT (T a)).1) (by omega)
        have b5' := ord_eq2 (a := (failT (T a)).1) (by omega)
        have b6 := ord_eq1 (a := (failT (T a)).2) (by omega)
        have b6' := ord_eq2 (a := (failT (T a)).2) (by omega)
        have b7 := fun W => run_convert_float_int (P := Try.prog) (w := W) 71 3 .f64 .i64 _ _ (by kernel_rfl) Try.underlying3 (Fl_int (n := (failT (T a)).1) (by omega))
        have b8 := fun W => run_convert_float_int (P := Try.prog) (w := W) 71 3 .f64 .i64 _ _ (by kernel_rfl) Try.underlying3 (Fl_int (n := (failT (T a)).2) (by omega))
        have b9 := Fl_of_int (failT (T a)).1
        have b10 := Fl_of_int (failT (T a)).2
        rw [Fl0] at b1 b3
        rw [Fl8000] at b2
        rw [Fl1000] at b4
        have O3 := Lib.hid (fun N' w2 h2 => O2.out N' (failT (T a)) w2 h2)
        have hr0 : (failT (T a)).1 ≤ 8000 := okf.1
        have hi0 : (failT (T a)).2 ≤ 1000 := okf.2
        unfold cV at O1 O3
        generalize hXX : failT (T a) = X2 at *
        obtain ⟨r, i⟩ := X2
        dsimp only at b1 b2 b3 b4 b5 b6 b5' b6' b7 b8 b9 b10 O3 e1 hr0 hi0
        clear okf hge O2 ok
        generalize Fl (T a).1 = F1 at *
        generalize Fl (T a).2 = F2 at *
        generalize Fl r = G1 at *
        generalize Fl i = G2 at *
        clear hT hB fin hXX
        go_wp2_with fail
        refine O1.out.mono ?_
        rintro e w2 ⟨rfl, rfl⟩
        go_wp2_with fail
        refine C.out.mono ?_
        rintro e w2 ⟨rfl, t2, m2⟩
        have T2 := Lib.hid t2
        have B2 := Lib.hid (FIN.out _ m2)
        clear t2 m2 FIN C O1
        go_wp2_with fail
        refine (O3.out _ _ T2.out).mono ?_
        rintro e w3 ⟨rfl, rfl⟩
        go_wp2_with fail
        refine (O3.out _ _ T2.out).mono ?_
        rintro e w3 ⟨rfl, rfl⟩
        go_wp2_with fail
        go_roundw
        case rel => exact ⟨k + 1, by go_num, by omega, N + 1, _, by omega, T2.out, B2.out⟩
        case measure => simp [intOf]; omega
      · obtain ⟨j, hj⟩ : ∃ j : Nat, j = drawU x % 1001 := ⟨_, rfl⟩
        have hj2 : j ≤ 1000 := by omega
        have C := Lib.hid (Answered_yes wr hT hN44 a HA.out j hj2)
        have hwr : IntKind.u64.wrap x = (drawU x : Int) := by
          unfold drawU
          have : IntKind.u64.wrap x = x % 18446744073709551616 := rfl
          rw [this]; omega
        have hrem : (drawU x : Int) % 1001 = (j : Int) := by omega
        have okf := ansT_ok ok hj2
        have hge : (ansT (T a) j).2 ≤ (T a).2 := by unfold ansT; simp only; omega
        have e1 := ord_gt (a := (ansT (T a) j).2) (b := (T a).2) (by omega) (by omega) hge
        have hdu : drawU x < 18446744073709551616 := by unfold drawU; omega
        generalize drawU x = dx at *
        have b1 := ord_lt (a := (ansT (T a) j).1) (b := 0) (by omega) (by omega) (by omega)
        have b2 := ord_gt (a := (ansT (T a) j).1) (b := 8000) (by omega) (by omega) (by omega)
        have b3 := ord_lt (a := (ansT (T a) j).2) (b := 0) (by omega) (by omega) (by omega)
        have b4 := ord_gt (a := (ansT (T a) j).2) (b := 1000) (by omega) (by omega) (by omega)
        have b5 := ord_eq1 (a := (ansT (T a) j).1) (by omega)
        have b5' := ord_eq2 (a := (ansT (T a) j).1) (by omega)
        have b6 := ord_eq1 (a := (ansT (T a) j).2) (by omega)
        have b6' := ord_eq2 (a := (ansT (T a) j).2) (by omega)
        have b7 := fun W => run_convert_float_int (P := Try.prog) (w := W) 71 3 .f64 .i64 _ _ (by kernel_rfl) Try.underlying3 (Fl_int (n := (ansT (T a) j).1) (by omega))
        have b8 := fun W => run_convert_float_int (P := Try.prog) (w := W) 71 3 .f64 .i64 _ _ (by kernel_rfl) Try.underlying3 (Fl_int (n := (ansT (T a) j).2) (by omega))
        have b9 := Fl_of_int (ansT (T a) j).1
        have b10 := Fl_of_int (ansT (T a) j).2
        rw [Fl0] at b1 b3
        rw [Fl8000] at b2
        rw [Fl1000] at b4
        have O3 := Lib.hid (fun N' w2 h2 => O2.out N' (ansT (T a) j) w2 h2)
        have hr0 : (ansT (T a) j).1 ≤ 8000 := okf.1
        have hi0 : (ansT (T a) j).2 ≤ 1000 := okf.2
        unfold cV at O1 O3
        generalize hXX : ansT (T a) j = X2 at *
        obtain ⟨r, i⟩ := X2
        dsimp only at b1 b2 b3 b4 b5 b6 b5' b6' b7 b8 b9 b10 O3 e1 hr0 hi0
        clear okf hge O2 ok
        generalize Fl (T a).1 = F1 at *
        generalize Fl (T a).2 = F2 at *
        generalize Fl r = G1 at *
        generalize Fl i = G2 at *
        clear hT hB fin hXX hj
        go_wp2_with fail
        refine O1.out.mono ?_
        rintro e w2 ⟨rfl, rfl⟩
        go_wp2_with fail
        refine C.out.mono ?_
        rintro e w2 ⟨rfl, t2, m2⟩
        have T2 := Lib.hid t2
        have B2 := Lib.hid (FIN.out _ m2)
        clear t2 m2 FIN C O1
        go_wp2_with fail
        refine (O3.out _ _ T2.out).mono ?_
        rintro e w3 ⟨rfl, rfl⟩
        go_wp2_with fail
        refine (O3.out _ _ T2.out).mono ?_
        rintro e w3 ⟨rfl, rfl⟩
        go_wp2_with fail
        go_roundw
        case rel => exact ⟨k + 1, by go_num, by omega, N + 1, _, by omega, T2.out, B2.out⟩
        case measure => simp [intOf]; omega
    · obtain rfl : k = n := by omega
      have C1 := Lib.hid (Answered_no wr hT a 1001 (.inr (by omega)))
      have C2 := Lib.hid (Answered_no wr hT a (-1) (.inl (by omega)))
      have HB := Lib.hid hB
      clear hT hB
      go_wp2_with fail
      refine C1.out.mono ?_
      rintro e w2 ⟨rfl, rfl⟩
      go_wp2_with fail
      refine C2.out.mono ?_
      rintro e w2 ⟨rfl, rfl⟩
      go_wp2_with fail
      go_ret
      exact ⟨rfl, HB.out⟩
end Go.Proofs.Ytabclpffjpcejaa
