/-
  The document's reader of chunks in memory: step.
-/
import Derived.Test.YtdifemaidngnjaaCkC
import Derived.Test.YtdifemaidngnjaaQt
namespace Go.Proofs.Ytdifemaidngnjaa
open Go.RowKit
set_option linter.unusedVariables false
set_option maxRecDepth 100000

set_option maxHeartbeats 2000000 in
theorem step_3y (g : Nat) (s : Ck) (v : Value) (c : UInt8) (w : World) (h : CX w g s v) (ok : CkOk s) (hp : s.pl = 3) (hc : c.toNat = 13) :
    Calls Try.prog 32 #[.pointer (some ⟨g, 0, none⟩), .int .u8 c.toNat] w (StepX w g v (stepC s c)) := by
  have c1 := (cell_of_row _ g 1 _ _ _ h.1).trans rfl
  rw [hp] at c1
  obtain ⟨n, hn⟩ : ∃ n, n = c.toNat := ⟨_, rfl⟩
  rw [← hn]
  have HS := Lib.hid h
  have e : stepC s c = (0, { s with pl := 4 }) := by unfold stepC; simp [hp, hc]
  rw [hc] at hn
  subst hn
  have x0 := (cell_of_row _ g 1 _ _ _ h.1).trans rfl
  have f0 := frozen_of_row _ _ 1 _ _ h.1
  have r0 := row_set (w := w) (g := g) (i := 1) (.int .i64 4) h.1
  have HQ : Hid (StepX w g v (stepC s c) (.returned (.int .i64 0)) (w.setCell ⟨g, 1, none⟩ (.int .i64 4))) := Lib.hid (by rw [e]; exact StepX.turn h (grown_set g 1 (.int .i64 4) w) r0 rfl)
  generalize StepX w g v (stepC s c) = Q at *
  clear h hp hc e ok HS r0
  go_enter Try.func32, Try.ntmps32
  go_wp2_with fail
  exact HQ.out

set_option maxHeartbeats 2000000 in
theorem step_3n (g : Nat) (s : Ck) (v : Value) (c : UInt8) (w : World) (h : CX w g s v) (ok : CkOk s) (hp : s.pl = 3) (hc : ¬ c.toNat = 13) :
    Calls Try.prog 32 #[.pointer (some ⟨g, 0, none⟩), .int .u8 c.toNat] w (StepX w g v (stepC s c)) := by
  have c1 := (cell_of_row _ g 1 _ _ _ h.1).trans rfl
  rw [hp] at c1
  obtain ⟨n, hn⟩ : ∃ n, n = c.toNat := ⟨_, rfl⟩
  rw [← hn]
  have HS := Lib.hid h
  have e : stepC s c = (120, s) := by unfold stepC; simp [hp, hc]
  have hn1 : ¬ (n : Int) = 13 := by omega
  have HQ : Hid (StepX w g v (stepC s c) (.returned (.int .i64 120)) w) := Lib.hid (by rw [e]; exact StepX.stay h (Below.refl _ _))
  generalize StepX w g v (stepC s c) = Q at *
  clear h hp hc e ok HS  hn
  go_enter Try.func32, Try.ntmps32
  go_wp2_with fail
  exact HQ.out

set_option maxHeartbeats 2000000 in
theorem step_4y (g : Nat) (s : Ck) (v : Value) (c : UInt8) (w : World) (h : CX w g s v) (ok : CkOk s) (hp : s.pl = 4) (hc : c.toNat = 10) :
    Calls Try.prog 32 #[.pointer (some ⟨g, 0, none⟩), .int .u8 c.toNat] w (StepX w g v (stepC s c)) := by
  have c1 := (cell_of_row _ g 1 _ _ _ h.1).trans rfl
  rw [hp] at c1
  obtain ⟨n, hn⟩ : ∃ n, n = c.toNat := ⟨_, rfl⟩
  rw [← hn]
  have HS := Lib.hid h
  have e : stepC s c = (0, { s with pl := 0, dig := 0 }) := by unfold stepC; simp [hp, hc]
  rw [hc] at hn
  subst hn
  have x0 := (cell_of_row _ g 1 _ _ _ h.1).trans rfl
  have f0 := frozen_of_row _ _ 1 _ _ h.1
  have r0 := row_set (w := w) (g := g) (i := 1) (.int .i64 0) h.1
  have x1 := (cell_of_row _ g 2 _ _ _ r0).trans rfl
  have f1 := frozen_of_row _ _ 2 _ _ r0
  have r1 := row_set (w := (w.setCell ⟨g, 1, none⟩ (.int .i64 0))) (g := g) (i := 2) (.int .i64 0) r0
  have HQ : Hid (StepX w g v (stepC s c) (.returned (.int .i64 0)) ((w.setCell ⟨g, 1, none⟩ (.int .i64 0)).setCell ⟨g, 2, none⟩ (.int .i64 0))) := Lib.hid (by rw [e]; exact StepX.turn h (grown_trans (grown_set g 1 (.int .i64 0) w) (grown_set g 2 (.int .i64 0) ((w.setCell ⟨g, 1, none⟩ (.int .i64 0)))) (fun k hk => .inl hk)) r1 rfl)
  generalize StepX w g v (stepC s c) = Q at *
  clear h hp hc e ok HS r0 r1
  go_enter Try.func32, Try.ntmps32
  go_wp2_with fail
  exact HQ.out

set_option maxHeartbeats 2000000 in
theorem step_4n (g : Nat) (s : Ck) (v : Value) (c : UInt8) (w : World) (h : CX w g s v) (ok : CkOk s) (hp : s.pl = 4) (hc : ¬ c.toNat = 10) :
    Calls Try.prog 32 #[.pointer (some ⟨g, 0, none⟩), .int .u8 c.toNat] w (StepX w g v (stepC s c)) := by
  have c1 := (cell_of_row _ g 1 _ _ _ h.1).trans rfl
  rw [hp] at c1
  obtain ⟨n, hn⟩ : ∃ n, n = c.toNat := ⟨_, rfl⟩
  rw [← hn]
  have HS := Lib.hid h
  have e : stepC s c = (120, s) := by unfold stepC; simp [hp, hc]
  have hn1 : ¬ (n : Int) = 10 := by omega
  have HQ : Hid (StepX w g v (stepC s c) (.returned (.int .i64 120)) w) := Lib.hid (by rw [e]; exact StepX.stay h (Below.refl _ _))
  generalize StepX w g v (stepC s c) = Q at *
  clear h hp hc e ok HS  hn
  go_enter Try.func32, Try.ntmps32
  go_wp2_with fail
  exact HQ.out

set_option maxHeartbeats 2000000 in
theorem step_5y (g : Nat) (s : Ck) (v : Value) (c : UInt8) (w : World) (h : CX w g s v) (ok : CkOk s) (hp : s.pl = 5) (hc : c.toNat = 13) :
    Calls Try.prog 32 #[.pointer (some ⟨g, 0, none⟩), .int .u8 c.toNat] w (StepX w g v (stepC s c)) := by
  have c1 := (cell_of_row _ g 1 _ _ _ h.1).trans rfl
  rw [hp] at c1
  obtain ⟨n, hn⟩ : ∃ n, n = c.toNat := ⟨_, rfl⟩
  rw [← hn]
  have HS := Lib.hid h
  have e : stepC s c = (0, { s with pl := 6 }) := by unfold stepC; simp [hp, hc]
  rw [hc] at hn
  subst hn
  have x0 := (cell_of_row _ g 1 _ _ _ h.1).trans rfl
  have f0 := frozen_of_row _ _ 1 _ _ h.1
  have r0 := row_set (w := w) (g := g) (i := 1) (.int .i64 6) h.1
  have HQ : Hid (StepX w g v (stepC s c) (.returned (.int .i64 0)) (w.setCell ⟨g, 1, none⟩ (.int .i64 6))) := Lib.hid (by rw [e]; exact StepX.turn h (grown_set g 1 (.int .i64 6) w) r0 rfl)
  generalize StepX w g v (stepC s c) = Q at *
  clear h hp hc e ok HS r0
  go_enter Try.func32, Try.ntmps32
  go_wp2_with fail
  exact HQ.out

set_option maxHeartbeats 2000000 in
theorem step_5n (g : Nat) (s : Ck) (v : Value) (c : UInt8) (w : World) (h : CX w g s v) (ok : CkOk s) (hp : s.pl = 5) (hc : ¬ c.toNat = 13) :
    Calls Try.prog 32 #[.pointer (some ⟨g, 0, none⟩), .int .u8 c.toNat] w (StepX w g v (stepC s c)) := by
  have c1 := (cell_of_row _ g 1 _ _ _ h.1).trans rfl
  rw [hp] at c1
  obtain ⟨n, hn⟩ : ∃ n, n = c.toNat := ⟨_, rfl⟩
  rw [← hn]
  have HS := Lib.hid h
  have e : stepC s c = (120, s) := by unfold stepC; simp [hp, hc]
  have hn1 : ¬ (n : Int) = 13 := by omega
  have HQ : Hid (StepX w g v (stepC s c) (.returned (.int .i64 120)) w) := Lib.hid (by rw [e]; exact StepX.stay h (Below.refl _ _))
  generalize StepX w g v (stepC s c) = Q at *
  clear h hp hc e ok HS  hn
  go_enter Try.func32, Try.ntmps32
  go_wp2_with fail
  exact HQ.out

set_option maxHeartbeats 2000000 in
theorem step_6y (g : Nat) (s : Ck) (v : Value) (c : UInt8) (w : World) (h : CX w g s v) (ok : CkOk s) (hp : s.pl = 6) (hc : c.toNat = 10) :
    Calls Try.prog 32 #[.pointer (some ⟨g, 0, none⟩), .int .u8 c.toNat] w (StepX w g v (stepC s c)) := by
  have c1 := (cell_of_row _ g 1 _ _ _ h.1).trans rfl
  rw [hp] at c1
  obtain ⟨n, hn⟩ : ∃ n, n = c.toNat := ⟨_, rfl⟩
  rw [← hn]
  have HS := Lib.hid h
  have e : stepC s c = (0, { s with whole := true }) := by unfold stepC; simp [hp, hc]
  rw [hc] at hn
  subst hn
  have x0 := (cell_of_row _ g 5 _ _ _ h.1).trans rfl
  have f0 := frozen_of_row _ _ 5 _ _ h.1
  have r0 := row_set (w := w) (g := g) (i := 5) (.bool true) h.1
  have HQ : Hid (StepX w g v (stepC s c) (.returned (.int .i64 0)) (w.setCell ⟨g, 5, none⟩ (.bool true))) := Lib.hid (by rw [e]; exact StepX.turn h (grown_set g 5 (.bool true) w) r0 rfl)
  generalize StepX w g v (stepC s c) = Q at *
  clear h hp hc e ok HS r0
  go_enter Try.func32, Try.ntmps32
  go_wp2_with fail
  exact HQ.out

set_option maxHeartbeats 2000000 in
theorem step_6n (g : Nat) (s : Ck) (v : Value) (c : UInt8) (w : World) (h : CX w g s v) (ok : CkOk s) (hp : s.pl = 6) (hc : ¬ c.toNat = 10) :
    Calls Try.prog 32 #[.pointer (some ⟨g, 0, none⟩), .int .u8 c.toNat] w (StepX w g v (stepC s c)) := by
  have c1 := (cell_of_row _ g 1 _ _ _ h.1).trans rfl
  rw [hp] at c1
  obtain ⟨n, hn⟩ : ∃ n, n = c.toNat := ⟨_, rfl⟩
  rw [← hn]
  have HS := Lib.hid h
  have e : stepC s c = (120, s) := by unfold stepC; simp [hp, hc]
  have hn1 : ¬ (n : Int) = 10 := by omega
  have HQ : Hid (StepX w g v (stepC s c) (.returned (.int .i64 120)) w) := Lib.hid (by rw [e]; exact StepX.stay h (Below.refl _ _))
  generalize StepX w g v (stepC s c) = Q at *
  clear h hp hc e ok HS  hn
  go_enter Try.func32, Try.ntmps32
  go_wp2_with fail
  exact HQ.out

set_option maxHeartbeats 2000000 in
theorem step_1n (g : Nat) (s : Ck) (v : Value) (c : UInt8) (w : World) (h : CX w g s v) (ok : CkOk s) (hp : s.pl = 1) (hc : ¬ c.toNat = 10) :
    Calls Try.prog 32 #[.pointer (some ⟨g, 0, none⟩), .int .u8 c.toNat] w (StepX w g v (stepC s c)) := by
  have c1 := (cell_of_row _ g 1 _ _ _ h.1).trans rfl
  rw [hp] at c1
  obtain ⟨n, hn⟩ : ∃ n, n = c.toNat := ⟨_, rfl⟩
  rw [← hn]
  have HS := Lib.hid h
  have e : stepC s c = (120, s) := by unfold stepC; simp [hp, hc]
  have hn1 : ¬ (n : Int) = 10 := by omega
  have HQ : Hid (StepX w g v (stepC s c) (.returned (.int .i64 120)) w) := Lib.hid (by rw [e]; exact StepX.stay h (Below.refl _ _))
  generalize StepX w g v (stepC s c) = Q at *
  clear h hp hc e ok HS  hn
  go_enter Try.func32, Try.ntmps32
  go_wp2_with fail
  exact HQ.out

set_option maxHeartbeats 2000000 in
theorem step_1y (g : Nat) (s : Ck) (v : Value) (c : UInt8) (w : World) (h : CX w g s v) (ok : CkOk s) (hp : s.pl = 1) (hc : c.toNat = 10) :
    Calls Try.prog 32 #[.pointer (some ⟨g, 0, none⟩), .int .u8 c.toNat] w (StepX w g v (stepC s c)) := by
  have c1 := (cell_of_row _ g 1 _ _ _ h.1).trans rfl
  rw [hp] at c1
  obtain ⟨n, hn⟩ : ∃ n, n = c.toNat := ⟨_, rfl⟩
  rw [← hn]
  have e : stepC s c = (0, fedC s) := by unfold stepC fedC; simp [hp, hc]
  rw [hc] at hn
  subst hn
  have E := Lib.hid (fed_ref g s v w h)
  have HQ : Hid (∀ w', w.grownBy w' (some g) → CX w' g (fedC s) v → StepX w g v (stepC s c) (.returned (.int .i64 0)) w') := Lib.hid (fun w' k hx => by rw [e]; exact StepX.turn h k hx.1 rfl)
  generalize StepX w g v (stepC s c) = Q at *
  clear h hp hc e ok
  go_enter Try.func32, Try.ntmps32
  go_wp2_with fail
  refine E.out.mono ?_
  rintro e w1 ⟨rfl, k1, h1⟩
  have HF := Lib.hid (HQ.out w1 k1 h1)
  clear k1 h1 HQ E
  go_wp2_with fail
  exact HF.out

set_option maxHeartbeats 2000000 in
theorem step_0d (g : Nat) (s : Ck) (v : Value) (c : UInt8) (w : World) (h : CX w g s v) (ok : CkOk s) (hp : s.pl = 0) (hc : (digC c).isSome) (hd : s.dig < 6) :
    Calls Try.prog 32 #[.pointer (some ⟨g, 0, none⟩), .int .u8 c.toNat] w (StepX w g v (stepC s c)) := by
  have c1 := (cell_of_row _ g 1 _ _ _ h.1).trans rfl
  rw [hp] at c1
  obtain ⟨n, hn⟩ : ∃ n, n = c.toNat := ⟨_, rfl⟩
  rw [← hn]
  have e : stepC s c = (0, { s with left := 16 * s.left + (digC c).getD 0, dig := s.dig + 1 }) := by unfold stepC; rw [if_pos ⟨hp, hc, hd⟩]
  obtain ⟨d0, d1, d2⟩ := dgn_some hc
  rw [← hn] at d0 d1
  have hn2 : n < 256 := by rw [hn]; exact c.toNat_lt
  have E := Lib.hid (fun W => digit_any n hn2 W)
  obtain ⟨d, hdd⟩ : ∃ d, d = (digC c).getD 0 := ⟨_, rfl⟩
  rw [← hdd] at d1 d2 e
  rw [d1] at E
  have c2 := (cell_of_row _ g 2 _ _ _ h.1).trans rfl
  have c3 : ∀ m, (w.drewN m).cell? ⟨g, 3, none⟩ = some (.int .i64 s.left) := fun m => (cell_of_row _ g 3 _ _ _ (h.drewN m).1).trans rfl
  have f3 : ∀ m, (w.drewN m).frozen? ⟨g, 3, none⟩ = false := fun m => frozen_of_row _ _ 3 _ _ (h.drewN m).1
  have c3' := (cell_of_row _ g 3 _ _ _ h.1).trans rfl
  have j1 : (s.dig : Int) < 6 := by omega
  have j2 : (0 : Int) ≤ (d : Int) := by omega
  have hl := ok.left
  have wr1 : IntKind.i64.wrap (16 * (s.left : Int)) = 16 * (s.left : Int) := IntWalk.i64_in _ (by omega)
  have wr2 : IntKind.i64.wrap (16 * (s.left : Int) + (d : Int)) = 16 * (s.left : Int) + (d : Int) := IntWalk.i64_in _ (by omega)
  have wr3 : IntKind.i64.wrap ((s.dig : Int) + 1) = (s.dig : Int) + 1 := IntWalk.i64_in _ (by omega)
  have z1 : 16 * (s.left : Int) + (d : Int) = ((16 * s.left + d : Nat) : Int) := by omega
  have z2 : (s.dig : Int) + 1 = ((s.dig + 1 : Nat) : Int) := by omega
  have R1 := Lib.hid (fun m => row_set (w := w.drewN m) (g := g) (i := 3) (.int .i64 (16 * (s.left : Int) + (d : Int))) (h.drewN m).1)
  have HQ : Hid (∀ m, StepX w g v (stepC s c) (.returned (.int .i64 0)) (((w.drewN m).setCell ⟨g, 3, none⟩ (.int .i64 (16 * (s.left : Int) + (d : Int)))).setCell ⟨g, 2, none⟩ (.int .i64 ((s.dig : Int) + 1)))) := Lib.hid (fun m => by
    have R := R1.out m
    rw [e]
    rw [z1] at R ⊢
    rw [z2]
    exact StepX.turn h (grown_trans (grown_trans (grown_of_below (below_drewN (Below.refl _ _) m) _) (grown_set g 3 _ _) (fun k hk => .inl hk)) (grown_set g 2 _ _) (fun k hk => .inl hk)) (row_set (i := 2) _ R) rfl)
  generalize StepX w g v (stepC s c) = Q at *
  have HL : Hid (∃ z, z = s.left) := Lib.hid ⟨_, rfl⟩
  clear h hp hc e ok hn hdd d0 d1 hl hd z1 z2
  go_enter Try.func32, Try.ntmps32
  go_wp2_with fail
  refine (E.out _).mono ?_
  rintro e w1 ⟨rfl, rfl⟩
  go_wp2_with fail
  refine wp_region_quiet_tail 11 (by kernel_rfl) (by kernel_rfl) ?_
  simp only [List.take_succ_cons, List.take_zero, List.drop_succ_cons, List.drop_zero]
  repeat (go_big_quiet_step ((go_at_call 37; exact Calls.quiet_of_same (E.out _))))
  refine wpQuiet_nil ?_
  intro w3 hw3
  obtain ⟨nq, rfl⟩ := hw3
  have c3q := c3 nq
  have f3q := f3 nq
  have rq := R1.out nq
  have c2q := (cell_of_row _ g 2 _ _ _ rq).trans rfl
  have f2q := frozen_of_row _ _ 2 _ _ rq
  have HF := Lib.hid (HQ.out nq)
  clear c3 f3 HQ R1 E rq
  go_wp2_with fail
  exact HF.out

set_option maxHeartbeats 2000000 in
theorem step_0c (g : Nat) (s : Ck) (v : Value) (c : UInt8) (w : World) (h : CX w g s v) (ok : CkOk s) (hp : s.pl = 0) (hc : c.toNat = 13) :
    Calls Try.prog 32 #[.pointer (some ⟨g, 0, none⟩), .int .u8 c.toNat] w (StepX w g v (stepC s c)) := by
  have c1 := (cell_of_row _ g 1 _ _ _ h.1).trans rfl
  rw [hp] at c1
  obtain ⟨n, hn⟩ : ∃ n, n = c.toNat := ⟨_, rfl⟩
  rw [← hn]
  have hz : (digC c).isSome = false := by unfold digC; simp [hc]
  have e : stepC s c = sizedC s := by
    unfold stepC sizedC
    rw [if_neg (by rw [hz]; simp), if_pos ⟨hp, hc⟩]
    repeat' split
    all_goals rfl
  have E := Lib.hid (digit_any 13 (by omega) w)
  rw [show dgn 13 = -1 by rfl] at E
  have S1 := Lib.hid (sized_ref g s v w h ok.dig (Nat.le_of_lt ok.left) ok.fits ok.most)
  rw [← e] at S1
  rw [hc] at hn
  subst hn
  have HE : Hid (∀ e w', StepX w g v (stepC s c) e w' → ∃ r : Int, e = .returned (.int .i64 r)) := Lib.hid (fun e w' ⟨_, h, _⟩ => ⟨_, h⟩)
  generalize StepX w g v (stepC s c) = Q at *
  clear h hp hc e ok hz
  go_enter Try.func32, Try.ntmps32
  go_wp2_with fail
  refine E.out.mono ?_
  rintro e w1 ⟨rfl, rfl⟩
  go_wp2_with fail
  refine S1.out.mono ?_
  rintro e w2 hq
  obtain ⟨r, rfl⟩ := HE.out _ _ hq
  have HF := Lib.hid hq
  clear hq
  go_wp2_with fail
  exact HF.out

set_option maxHeartbeats 2000000 in
theorem step_0o (g : Nat) (s : Ck) (v : Value) (c : UInt8) (w : World) (h : CX w g s v) (ok : CkOk s) (hp : s.pl = 0) (h13 : ¬ c.toNat = 13) (hc : (digC c).isSome) (hd : 6 ≤ s.dig) :
    Calls Try.prog 32 #[.pointer (some ⟨g, 0, none⟩), .int .u8 c.toNat] w (StepX w g v (stepC s c)) := by
  have c1 := (cell_of_row _ g 1 _ _ _ h.1).trans rfl
  rw [hp] at c1
  obtain ⟨n, hn⟩ : ∃ n, n = c.toNat := ⟨_, rfl⟩
  rw [← hn]
  have e : stepC s c = (120, s) := by
    unfold stepC
    rw [if_neg (by omega), if_neg (by omega), if_neg (by omega), if_neg (by omega), if_neg (by omega), if_neg (by omega), if_neg (by omega), if_neg (by omega)]
  have hn2 : n < 256 := by rw [hn]; exact c.toNat_lt
  have E := Lib.hid (digit_any n hn2 w)
  obtain ⟨d0, d1, d2⟩ := dgn_some hc
  rw [← hn] at d0
  have j1 : ¬ (s.dig : Int) < 6 := by omega
  have c2 := (cell_of_row _ g 2 _ _ _ h.1).trans rfl
  clear d1 d2
  have hn1 : ¬ (n : Int) = 13 := by omega
  have HQ : Hid (StepX w g v (stepC s c) (.returned (.int .i64 120)) w) := Lib.hid (by rw [e]; exact StepX.stay h (Below.refl _ _))
  generalize StepX w g v (stepC s c) = Q at *
  generalize dgn n = d at *
  clear h hp hc e ok hn h13 hn2 hd
  go_enter Try.func32, Try.ntmps32
  go_wp2_with fail
  refine E.out.mono ?_
  rintro e w1 ⟨rfl, rfl⟩
  go_wp2_with fail
  exact HQ.out

set_option maxHeartbeats 2000000 in
theorem step_0x (g : Nat) (s : Ck) (v : Value) (c : UInt8) (w : World) (h : CX w g s v) (ok : CkOk s) (hp : s.pl = 0) (h13 : ¬ c.toNat = 13) (hc : (digC c).isSome = false) :
    Calls Try.prog 32 #[.pointer (some ⟨g, 0, none⟩), .int .u8 c.toNat] w (StepX w g v (stepC s c)) := by
  have c1 := (cell_of_row _ g 1 _ _ _ h.1).trans rfl
  rw [hp] at c1
  obtain ⟨n, hn⟩ : ∃ n, n = c.toNat := ⟨_, rfl⟩
  rw [← hn]
  have e : stepC s c = (120, s) := by
    unfold stepC
    rw [if_neg (by rw [hc]; simp), if_neg (by omega), if_neg (by omega), if_neg (by omega), if_neg (by omega), if_neg (by omega), if_neg (by omega), if_neg (by omega)]
  have hn2 : n < 256 := by rw [hn]; exact c.toNat_lt
  have E := Lib.hid (digit_any n hn2 w)
  have d0 := dgn_none hc
  rw [← hn] at d0
  rw [d0] at E
  clear d0
  have hn1 : ¬ (n : Int) = 13 := by omega
  have HQ : Hid (StepX w g v (stepC s c) (.returned (.int .i64 120)) w) := Lib.hid (by rw [e]; exact StepX.stay h (Below.refl _ _))
  generalize StepX w g v (stepC s c) = Q at *
  clear h hp hc e ok hn h13 hn2 
  go_enter Try.func32, Try.ntmps32
  go_wp2_with fail
  refine E.out.mono ?_
  rintro e w1 ⟨rfl, rfl⟩
  go_wp2_with fail
  exact HQ.out

set_option maxHeartbeats 2000000 in
theorem step_2l (g : Nat) (s : Ck) (v : Value) (c : UInt8) (w : World) (h : CX w g s v) (ok : CkOk s) (hp : s.pl = 2) (hc : s.left = 1) :
    Calls Try.prog 32 #[.pointer (some ⟨g, 0, none⟩), .int .u8 c.toNat] w (StepX w g v (stepC s c)) := by
  have c1 := (cell_of_row _ g 1 _ _ _ h.1).trans rfl
  rw [hp] at c1
  obtain ⟨n, hn⟩ : ∃ n, n = c.toNat := ⟨_, rfl⟩
  rw [← hn]
  have hl0 := ok.some hp
  have hl1 := ok.left
  have hrm := ok.room (.inr hp)
  have hmo := ok.most
  have e : stepC s c = (0, { s with body := s.body ++ [c], left := s.left - 1, pl := 3 }) := by unfold stepC; simp [hp, hc]
  have z1 : 0 = ((s.left - 1 : Nat) : Int) := by omega
  have hgl := (Array.getElem?_eq_some_iff.1 h.1).1
  have b0 : Below w.heap.size w (w.alloc (.cells #[.int .u8 n] 5 (0, 0))) := Below.alloc (Below.refl _ _) (Nat.le_refl _) _
  have hnew : Hid (Bys (w.alloc (.cells #[.int .u8 n] 5 (0, 0))) (some ⟨w.heap.size, 0, none⟩) [c]) := Lib.hid (by
    rw [hn]
    exact ((OwnR.made (l := [c]) (Nat.le_refl _) (show #[Value.int .u8 c.toNat] = (([c] : Bs).map byteV).toArray from rfl) (by simp [maxLen])).ownB.bysN).elim fun A hh => by
      obtain ⟨c', hv, hs⟩ := hh
      injection hv with hv _ _
      subst hv
      exact hs.bys)
  have HO := Lib.hid (h.2.1.below b0 (Nat.le_refl _))
  obtain ⟨A, cv, rfl, -⟩ := h.2.1.bysN
  have c4 := (cell_of_row _ g 4 _ _ _ h.1).trans rfl
  have c4a : (w.alloc (.cells #[.int .u8 n] 5 (0, 0))).cell? ⟨g, 4, none⟩ = some (.slice A s.body.length cv) := cell_on c4 b0
  have HS := Lib.hid h
  have HB0 := Lib.hid b0
  have HL : Hid (s.body.length + 1 ≤ 140737488355328) := Lib.hid (by omega)
  have HD : Hid (∀ v2 w', OwnB w' 0 v2 (s.body ++ [c]) → v2.ownBlock ≠ some g → w'.heap[g]? = some (.cells #[.int .i64 s.most, .int .i64 3, .int .i64 s.dig, .int .i64 0, v2, .bool s.whole, .int .i64 s.fault] 66 (0, 0)) → Mod (FX g (.slice A s.body.length cv)) w w' → (∀ k, v2.ownBlock = some k → (Value.slice A s.body.length cv).ownBlock = some k ∨ w.heap.size ≤ k) → StepX w g (.slice A s.body.length cv) (stepC s c) (.returned (.int .i64 0)) w') := Lib.hid (fun v2 w' q1 q2 q3 q4 q5 => by
    rw [show (.int .i64 0 : Value) = .int .i64 ((s.left - 1 : Nat) : Int) from congrArg _ z1] at q3
    rw [e]
    exact ⟨v2, rfl, ⟨q3, q1, q2⟩, q4, q5⟩)
  generalize StepX w g (.slice A s.body.length cv) (stepC s c) = Q at *
  obtain ⟨bd, hbd⟩ : ∃ b, b = s.body := ⟨_, rfl⟩
  have HNG := Lib.hid h.2.2
  rw [← hbd] at HO c4 c4a HL HD HNG
  have HR := Lib.hid h.1
  rw [hp, hc] at HR
  rw [← hbd] at HR
  obtain ⟨nb, hnb⟩ : ∃ b, b = bd.length := ⟨_, rfl⟩
  rw [← hnb] at HO c4 c4a HL HD HNG HR
  have HNB := Lib.hid hnb
  clear h hp hc e ok hl0 hl1 hrm hmo z1 b0 hn HS hbd hnb
  go_enter Try.func32, Try.ntmps32
  go_wp2_with (first
    | (at_builtin; refine wpList_append_bys rfl (.tmp 75) (.tmp 77) rfl 0 _ bd rfl HO.out (some ⟨w.heap.size, 0, none⟩) 1 1 [c] rfl rfl hnew.out (fun h => by cases h) (by have := HL.out; have := HNB.out; simp; omega) (Nat.zero_le _) ?_)
    | fail)
  intro v1 w1 o1 g1 f1
  obtain ⟨A1, cv1, hv, -⟩ := o1.bysN
  generalize (bd ++ [c]).length = n1 at hv
  subst hv
  obtain ⟨v1, hv⟩ : ∃ z, z = Value.slice A1 n1 cv1 := ⟨_, rfl⟩
  rw [← hv] at o1 f1
  have hsz : (w.alloc (.cells #[.int .u8 n] 5 (0, 0))).heap.size = w.heap.size + 1 := by simp
  have M1 : Mod (FX g (.slice A nb cv)) w w1 := (Mod.below (S := FX g (.slice A nb cv)) HB0.out).trans (Mod.grown (S := FX g (.slice A nb cv)) g1 (fun k hk => .inr hk)) (fun i hi => .inl hi)
  have q1 : w1.heap[g]? = _ := (g1.block g (by rw [hsz]; omega) (fun hk => HNG.out hk.symm)).trans ((HB0.out.block g hgl).trans HR.out)
  have c4b := (cell_of_row _ g 4 _ _ _ q1).trans rfl
  have f4b := frozen_of_row _ _ 4 _ _ q1
  have hv1 : v1.ownBlock ≠ some g := fun hk => by
    rcases f1 g hk with hh | hh
    · exact HNG.out hh
    · omega
  have G2 := grown_set g 4 v1 w1
  have O2 := o1.kept G2 (by cases hv : v1.ownBlock with | none => exact .inl rfl | some j => exact .inr (fun hk => hv1 (hv.trans hk)))
  have q2 := row_set (w := w1) (g := g) (i := 4) v1 q1
  have c3b := (cell_of_row _ g 3 _ _ _ q2).trans rfl
  have f3b := frozen_of_row _ _ 3 _ _ q2
  have G3 := grown_set g 3 (.int .i64 0) (w1.setCell ⟨g, 4, none⟩ v1)
  have q3 := row_set (i := 3) (.int .i64 0) q2
  have c3c := (cell_of_row _ g 3 _ _ _ q3).trans rfl
  have c1c := (cell_of_row _ g 1 _ _ _ q3).trans rfl
  have f1c := frozen_of_row _ _ 1 _ _ q3
  have G4 := grown_set g 1 (.int .i64 3) ((w1.setCell ⟨g, 4, none⟩ v1).setCell ⟨g, 3, none⟩ (.int .i64 0))
  have q4 := row_set (i := 1) (.int .i64 3) q3
  have GG := grown_trans (grown_trans G2 G3 (fun k hk => .inl hk)) G4 (fun k hk => .inl hk)
  have HF := Lib.hid (HD.out v1 _ (o1.kept GG (by cases hv : v1.ownBlock with | none => exact .inl rfl | some j => exact .inr (fun hk => hv1 (hv.trans hk)))) hv1 q4 (M1.trans (Mod.grown (S := FX g (.slice A nb cv)) GG (fun k hk => by injection hk with hk; exact .inl hk.symm)) (fun i hi => .inl hi)) (fun k hk => by
    rcases f1 k hk with hh | hh
    · exact .inl hh
    · exact .inr (by omega)))
  rw [hv] at HF c3b f3b c3c c1c f1c
  clear o1 g1 f1 M1 q1 G2 O2 q2 G3 q3 q4 GG hv1 HD HO hnew HB0 HR HNG HNB HL c4a hsz hv
  clear G4
  go_wp2_with fail
  exact HF.out

set_option maxHeartbeats 2000000 in
theorem step_2m (g : Nat) (s : Ck) (v : Value) (c : UInt8) (w : World) (h : CX w g s v) (ok : CkOk s) (hp : s.pl = 2) (hc : s.left ≠ 1) :
    Calls Try.prog 32 #[.pointer (some ⟨g, 0, none⟩), .int .u8 c.toNat] w (StepX w g v (stepC s c)) := by
  have c1 := (cell_of_row _ g 1 _ _ _ h.1).trans rfl
  rw [hp] at c1
  obtain ⟨n, hn⟩ : ∃ n, n = c.toNat := ⟨_, rfl⟩
  rw [← hn]
  have hl0 := ok.some hp
  have hl1 := ok.left
  have hrm := ok.room (.inr hp)
  have hmo := ok.most
  have e : stepC s c = (0, { s with body := s.body ++ [c], left := s.left - 1, pl := 2 }) := by unfold stepC; simp [hp, hc]
  have wr1 : IntKind.i64.wrap ((s.left : Int) - 1) = (s.left : Int) - 1 := IntWalk.i64_in _ (by omega)
  have z1 : ((s.left : Int) - 1) = ((s.left - 1 : Nat) : Int) := by omega
  have y1 : ¬ (s.left : Int) - 1 = 0 := by omega
  have hgl := (Array.getElem?_eq_some_iff.1 h.1).1
  have b0 : Below w.heap.size w (w.alloc (.cells #[.int .u8 n] 5 (0, 0))) := Below.alloc (Below.refl _ _) (Nat.le_refl _) _
  have hnew : Hid (Bys (w.alloc (.cells #[.int .u8 n] 5 (0, 0))) (some ⟨w.heap.size, 0, none⟩) [c]) := Lib.hid (by
    rw [hn]
    exact ((OwnR.made (l := [c]) (Nat.le_refl _) (show #[Value.int .u8 c.toNat] = (([c] : Bs).map byteV).toArray from rfl) (by simp [maxLen])).ownB.bysN).elim fun A hh => by
      obtain ⟨c', hv, hs⟩ := hh
      injection hv with hv _ _
      subst hv
      exact hs.bys)
  have HO := Lib.hid (h.2.1.below b0 (Nat.le_refl _))
  obtain ⟨A, cv, rfl, -⟩ := h.2.1.bysN
  have c4 := (cell_of_row _ g 4 _ _ _ h.1).trans rfl
  have c4a : (w.alloc (.cells #[.int .u8 n] 5 (0, 0))).cell? ⟨g, 4, none⟩ = some (.slice A s.body.length cv) := cell_on c4 b0
  have HS := Lib.hid h
  have HB0 := Lib.hid b0
  have HL : Hid (s.body.length + 1 ≤ 140737488355328) := Lib.hid (by omega)
  have HD : Hid (∀ v2 w', OwnB w' 0 v2 (s.body ++ [c]) → v2.ownBlock ≠ some g → w'.heap[g]? = some (.cells #[.int .i64 s.most, .int .i64 2, .int .i64 s.dig, .int .i64 ((s.left : Int) - 1), v2, .bool s.whole, .int .i64 s.fault] 66 (0, 0)) → Mod (FX g (.slice A s.body.length cv)) w w' → (∀ k, v2.ownBlock = some k → (Value.slice A s.body.length cv).ownBlock = some k ∨ w.heap.size ≤ k) → StepX w g (.slice A s.body.length cv) (stepC s c) (.returned (.int .i64 0)) w') := Lib.hid (fun v2 w' q1 q2 q3 q4 q5 => by
    rw [show (.int .i64 ((s.left : Int) - 1) : Value) = .int .i64 ((s.left - 1 : Nat) : Int) from congrArg _ z1] at q3
    rw [e]
    exact ⟨v2, rfl, ⟨q3, q1, q2⟩, q4, q5⟩)
  generalize StepX w g (.slice A s.body.length cv) (stepC s c) = Q at *
  obtain ⟨bd, hbd⟩ : ∃ b, b = s.body := ⟨_, rfl⟩
  have HNG := Lib.hid h.2.2
  rw [← hbd] at HO c4 c4a HL HD HNG
  have HR := Lib.hid h.1
  rw [hp] at HR
  rw [← hbd] at HR
  obtain ⟨nb, hnb⟩ : ∃ b, b = bd.length := ⟨_, rfl⟩
  rw [← hnb] at HO c4 c4a HL HD HNG HR
  have HNB := Lib.hid hnb
  clear h hp hc e ok hl0 hl1 hrm hmo z1 b0 hn HS hbd hnb
  go_enter Try.func32, Try.ntmps32
  go_wp2_with (first
    | (at_builtin; refine wpList_append_bys rfl (.tmp 75) (.tmp 77) rfl 0 _ bd rfl HO.out (some ⟨w.heap.size, 0, none⟩) 1 1 [c] rfl rfl hnew.out (fun h => by cases h) (by have := HL.out; have := HNB.out; simp; omega) (Nat.zero_le _) ?_)
    | fail)
  intro v1 w1 o1 g1 f1
  obtain ⟨A1, cv1, hv, -⟩ := o1.bysN
  generalize (bd ++ [c]).length = n1 at hv
  subst hv
  obtain ⟨v1, hv⟩ : ∃ z, z = Value.slice A1 n1 cv1 := ⟨_, rfl⟩
  rw [← hv] at o1 f1
  have hsz : (w.alloc (.cells #[.int .u8 n] 5 (0, 0))).heap.size = w.heap.size + 1 := by simp
  have M1 : Mod (FX g (.slice A nb cv)) w w1 := (Mod.below (S := FX g (.slice A nb cv)) HB0.out).trans (Mod.grown (S := FX g (.slice A nb cv)) g1 (fun k hk => .inr hk)) (fun i hi => .inl hi)
  have q1 : w1.heap[g]? = _ := (g1.block g (by rw [hsz]; omega) (fun hk => HNG.out hk.symm)).trans ((HB0.out.block g hgl).trans HR.out)
  have c4b := (cell_of_row _ g 4 _ _ _ q1).trans rfl
  have f4b := frozen_of_row _ _ 4 _ _ q1
  have hv1 : v1.ownBlock ≠ some g := fun hk => by
    rcases f1 g hk with hh | hh
    · exact HNG.out hh
    · omega
  have G2 := grown_set g 4 v1 w1
  have O2 := o1.kept G2 (by cases hv : v1.ownBlock with | none => exact .inl rfl | some j => exact .inr (fun hk => hv1 (hv.trans hk)))
  have q2 := row_set (w := w1) (g := g) (i := 4) v1 q1
  have c3b := (cell_of_row _ g 3 _ _ _ q2).trans rfl
  have f3b := frozen_of_row _ _ 3 _ _ q2
  have G3 := grown_set g 3 (.int .i64 ((s.left : Int) - 1)) (w1.setCell ⟨g, 4, none⟩ v1)
  have q3 := row_set (i := 3) (.int .i64 ((s.left : Int) - 1)) q2
  have c3c := (cell_of_row _ g 3 _ _ _ q3).trans rfl
  have c1c := (cell_of_row _ g 1 _ _ _ q3).trans rfl
  have f1c := frozen_of_row _ _ 1 _ _ q3
  have q4 := q3
  have GG := grown_trans G2 G3 (fun k hk => .inl hk)
  have HF := Lib.hid (HD.out v1 _ (o1.kept GG (by cases hv : v1.ownBlock with | none => exact .inl rfl | some j => exact .inr (fun hk => hv1 (hv.trans hk)))) hv1 q4 (M1.trans (Mod.grown (S := FX g (.slice A nb cv)) GG (fun k hk => by injection hk with hk; exact .inl hk.symm)) (fun i hi => .inl hi)) (fun k hk => by
    rcases f1 k hk with hh | hh
    · exact .inl hh
    · exact .inr (by omega)))
  rw [hv] at HF c3b f3b c3c c1c f1c
  clear o1 g1 f1 M1 q1 G2 O2 q2 G3 q3 q4 GG hv1 HD HO hnew HB0 HR HNG HNB HL c4a hsz hv
  go_wp2_with fail
  exact HF.out

theorem step_ref (g : Nat) (s : Ck) (v : Value) (c : UInt8) (w : World) (h : CX w g s v) (ok : CkOk s) :
    Calls Try.prog 32 #[.pointer (some ⟨g, 0, none⟩), .int .u8 c.toNat] w (StepX w g v (stepC s c)) := by
  have hpl := ok.pl
  have hp : s.pl = 0 ∨ s.pl = 1 ∨ s.pl = 2 ∨ s.pl = 3 ∨ s.pl = 4 ∨ s.pl = 5 ∨ s.pl = 6 := by omega
  rcases hp with hp | hp | hp | hp | hp | hp | hp
  · by_cases hc : (digC c).isSome
    · by_cases hd : s.dig < 6
      · exact step_0d g s v c w h ok hp hc hd
      · have h13 : ¬ c.toNat = 13 := fun e => by
          have : c = 13 := UInt8.toNat_inj.1 e
          subst this
          exact absurd hc (by decide)
        exact step_0o g s v c w h ok hp h13 hc (by omega)
    · by_cases h13 : c.toNat = 13
      · exact step_0c g s v c w h ok hp h13
      · exact step_0x g s v c w h ok hp h13 (by simpa using hc)
  · by_cases hc : c.toNat = 10
    · exact step_1y g s v c w h ok hp hc
    · exact step_1n g s v c w h ok hp hc
  · by_cases hc : s.left = 1
    · exact step_2l g s v c w h ok hp hc
    · exact step_2m g s v c w h ok hp hc
  · by_cases hc : c.toNat = 13
    · exact step_3y g s v c w h ok hp hc
    · exact step_3n g s v c w h ok hp hc
  · by_cases hc : c.toNat = 10
    · exact step_4y g s v c w h ok hp hc
    · exact step_4n g s v c w h ok hp hc
  · by_cases hc : c.toNat = 13
    · exact step_5y g s v c w h ok hp hc
    · exact step_5n g s v c w h ok hp hc
  · by_cases hc : c.toNat = 10
    · exact step_6y g s v c w h ok hp hc
    · exact step_6n g s v c w h ok hp hc

end Go.Proofs.Ytdifemaidngnjaa
