/-
  Answered, Failed: what they leave.
-/
import Derived.Test.YtabclpffjpcejaaRtC
import Derived.Deep.RegionHeld3
namespace Go.Proofs.Ytabclpffjpcejaa
open Go.RowKit Go.Maps
set_option linter.unusedVariables false
set_option maxRecDepth 100000

section
variable {p m N : Nat} {T : Int → Nat × Nat}
/-- The lesser of two whole numbers. -/
theorem run_minF (w : World) (ts : Array TypeId) (t : TypeId) (x y : Nat) (hx : x < 8192) (hy : y < 8192) : (Builtin.min_ ts t #[.float .f64 (Fl x), .float .f64 (Fl y)]).run Try.prog w = .ok (.float .f64 (Fl (min x y))) w := by
  have h := Fl_order hx hy
  rcases Nat.lt_trichotomy x y with k | k | k
  · rw [Nat.compare_eq_lt.2 k] at h
    rw [Nat.min_eq_left (by omega)]
    simp [Builtin.min_, Builtin.min2, h]
  · subst k
    rw [Nat.compare_eq_eq.2 rfl] at h
    rw [Nat.min_self]
    simp [Builtin.min_, Builtin.min2, h]
  · rw [Nat.compare_eq_gt.2 k] at h
    rw [Nat.min_eq_right (by omega)]
    simp [Builtin.min_, Builtin.min2, h]
def failT (x : Nat × Nat) : Nat × Nat := (x.1, min (x.2 + 1) 1000)
def ansT (x : Nat × Nat) (k : Nat) : Nat × Nat := (x.1 - x.1 / 8 + k, x.2 / 2)
theorem failT_ok {x : Nat × Nat} (h : x.1 ≤ 8000 ∧ x.2 ≤ 1000) : (failT x).1 ≤ 8000 ∧ (failT x).2 ≤ 1000 := ⟨h.1, Nat.min_le_right _ _⟩
theorem ansT_ok {x : Nat × Nat} {k : Nat} (h : x.1 ≤ 8000 ∧ x.2 ≤ 1000) (hk : k ≤ 1000) : (ansT x k).1 ≤ 8000 ∧ (ansT x k).2 ≤ 1000 := by
  unfold ansT
  have := h.1
  have := h.2
  constructor
  · show x.1 - x.1 / 8 + k ≤ 8000
    omega
  · show x.2 / 2 ≤ 1000
    omega
set_option maxHeartbeats 1000000 in
theorem Failed_any (w : World) (h : Tab p m N T w) (hN : N < 17592186044416) (a : Int) (ha : I64 a) :
    Calls Try.prog 28 #[.pointer (some ⟨p, 0, none⟩), .int .i64 a] w fun e w' => e = .returned (.int .i64 0) ∧ Tab p m (N + 1) (put1 T a (failT (T a))) w' ∧ Mod (fun k => k = m) w w' := by
  have c0 := h.cell
  have l1 := h.look a ha
  have C := Lib.hid (madeT_any w h)
  have hadd := run_float_arith (P := Try.prog) w .add 71 .f64 _ _ _ (Fl_add (a := (T a).2) (b := 1) (by have := (h.ok a).2; omega) (by omega))
  have hmin := run_minF w #[71, 71] 71 ((T a).2 + 1) 1000 (by have := (h.ok a).2; omega) (by omega)
  obtain ⟨w2, hrun, hg, hT⟩ := h.put hN a ha (failT (T a)) (failT_ok (h.ok a))
  have HT := Lib.hid hT
  have HM : Hid (Mod (fun k => k = m) w w2) := Lib.hid (Mod.grown hg (fun k hk => by injection hk with hk; exact hk.symm))
  rw [Fl1] at hadd
  rw [Fl1000] at hmin
  unfold cV failT at hrun
  unfold cV at l1
  clear h hT hg
  dsimp only at hrun l1
  generalize Fl (T a).1 = f1 at *
  generalize Fl (min ((T a).2 + 1) 1000) = f3 at *
  generalize Fl ((T a).2 + 1) = f4 at *
  generalize Fl (T a).2 = f2 at *
  go_enter Try.func28, Try.ntmps28
  go_wp2_with fail
  refine C.out.mono ?_
  rintro e w1 ⟨rfl, rfl⟩
  go_wp2_with fail
  go_ret
  exact ⟨rfl, HT.out, HM.out⟩
set_option maxHeartbeats 1000000 in
theorem Answered_no (w : World) (h : Tab p m N T w) (a k : Int) (hk : k < 0 ∨ 1000 < k) :
    Calls Try.prog 30 #[.pointer (some ⟨p, 0, none⟩), .int .i64 a, .int .i64 k] w fun e w' => e = .returned (.int .i64 1) ∧ w = w' := by
  have C := Lib.hid (madeT_any w h)
  clear h
  by_cases h0 : k < 0
  · clear hk
    go_enter Try.func30, Try.ntmps30
    go_wp2_with fail
    refine C.out.mono ?_
    rintro e w1 ⟨rfl, rfl⟩
    go_wp2_with fail
    go_ret
    exact ⟨rfl, rfl⟩
  · have h1 : 1000 < k := by omega
    have h2 : 0 ≤ k := by omega
    clear hk h0
    go_enter Try.func30, Try.ntmps30
    go_wp2_with fail
    refine C.out.mono ?_
    rintro e w1 ⟨rfl, rfl⟩
    go_wp2_with fail
    go_ret
    exact ⟨rfl, rfl⟩
set_option maxHeartbeats 1000000 in
theorem Answered_yes (w : World) (h : Tab p m N T w) (hN : N < 17592186044416) (a : Int) (ha : I64 a) (k : Nat) (hk : k ≤ 1000) :
    Calls Try.prog 30 #[.pointer (some ⟨p, 0, none⟩), .int .i64 a, .int .i64 k] w fun e w' => e = .returned (.int .i64 0) ∧ Tab p m (N + 1) (put1 T a (ansT (T a) k)) w' ∧ Mod (fun k => k = m) w w' := by
  have k1 := (h.ok a).1
  have k2 := (h.ok a).2
  have hd : Tab p m N T w.drew := h.below (Below.drew (Below.refl _ _))
  have c0 := h.cell
  have c1 := hd.cell
  have l1 := h.look a ha
  have C := Lib.hid (madeT_any w h)
  have q8 := run_float_arith (P := Try.prog) w .quo 71 .f64 _ _ _ (quo8 (n := (T a).1) (by omega))
  have q2 := fun W => run_float_arith (P := Try.prog) W .quo 71 .f64 _ _ _ (quo2 (n := (T a).2) (by omega))
  have FL1 := Lib.hid (fun W => Floor_any (Qf (T a).1 3) (Fl ((T a).1 / 8)) W (floor8 (by omega)).1 (floor8 (by omega)).2)
  have FL2 := Lib.hid (fun W => Floor_any (Qf (T a).2 1) (Fl ((T a).2 / 2)) W (floor2 (by omega)).1 (floor2 (by omega)).2)
  have hsub := run_float_arith (P := Try.prog) w .sub 71 .f64 _ _ _ (Fl_sub (a := (T a).1) (b := (T a).1 / 8) (by omega) (by omega))
  have hadd := run_float_arith (P := Try.prog) w .add 71 .f64 _ _ _ (Fl_add (a := (T a).1 - (T a).1 / 8) (b := k) (by omega) (by omega))
  have hcv : floatOfInt .f64 (k : Int) = Fl k := Fl_of_int k
  obtain ⟨w2, hrun, hg, hT⟩ := hd.put hN a ha (ansT (T a) k) (ansT_ok (h.ok a) hk)
  have c2 := hT.cell
  have HT := Lib.hid hT
  have HM : Hid (Mod (fun k => k = m) w w2) := Lib.hid ((Mod.refl _ w).drew.trans (Mod.grown (S := fun k => k = m) hg (fun k hk => by injection hk with hk; exact hk.symm)) (fun i e => .inl e))
  unfold cV ansT at hrun
  unfold cV at l1
  clear h hd hT hg k1 k2
  dsimp only at hrun l1
  have hk0 : (0 : Int) ≤ k := by omega
  have hk1 : (k : Int) ≤ 1000 := by omega
  generalize Fl ((T a).1 - (T a).1 / 8 + k) = g1 at *
  generalize Fl ((T a).1 - (T a).1 / 8) = g2 at *
  generalize Fl ((T a).1 / 8) = g3 at *
  generalize Fl ((T a).2 / 2) = g4 at *
  generalize Qf (T a).1 3 = g5 at *
  generalize Qf (T a).2 1 = g6 at *
  generalize Fl (T a).1 = f1 at *
  generalize Fl (T a).2 = f2 at *
  generalize Fl k = f3 at *
  go_enter Try.func30, Try.ntmps30
  go_wp2_with fail
  refine C.out.mono ?_
  rintro e w1 ⟨rfl, rfl⟩
  go_wp2_with fail
  refine (FL1.out _).mono ?_
  rintro e w1 ⟨rfl, rfl⟩
  go_wp2_with fail
  go_region_held3 (fun w' => w'.cell? ⟨p, 0, none⟩ = some (.map (some m)))
    (first | assumption)
    (first
      | (go_at_call 45; (with_reducible refine (FL2.out _).mono ?_); rintro e w' ⟨rfl, rfl⟩))
  go_wp2_with fail
  go_ret
  exact ⟨rfl, HT.out, HM.out⟩
end
end Go.Proofs.Ytabclpffjpcejaa
