/-
  Times and TTLs as they count; whether a set is fresh.
-/
import Derived.Test.YtbeggckkgaoacaaGrA
import Derived.Deep.QuietTactic
import Derived.BigQuiet
namespace Go.Proofs.Ytbeggckkgaoacaa
open Go.RowKit
set_option linter.unusedVariables false
set_option maxRecDepth 100000

set_option maxHeartbeats 400000 in
theorem clock_any (t : Int) (w : World) : Calls Try.prog 44 #[.int .i64 t] w fun e w' => e = .returned (.int .i64 (clockN t)) ∧ w = w' := by
  have HC : Hid (clockN t = min (max t 0) 1099511541376) := Lib.hid rfl
  go_enter Try.func44, Try.ntmps44
  go_wp2_with fail
  go_ret
  exact ⟨by rw [HC.out]; rfl, rfl⟩

set_option maxHeartbeats 400000 in
theorem clock_ref (t : Int) (w : World) : Calls Try.prog 40 #[.int .i64 t] w fun e w' => e = .returned (.int .i64 (clockN t)) ∧ w = w' := by
  have HC : Hid (clockN t = min (max t 0) 1099511541376) := Lib.hid rfl
  go_enter Try.func40, Try.ntmps40
  go_wp2_with fail
  go_ret
  exact ⟨by rw [HC.out]; rfl, rfl⟩

set_option maxHeartbeats 400000 in
theorem last_any (n : Int) (w : World) : Calls Try.prog 47 #[.int .i64 n] w fun e w' => e = .returned (.int .i64 (lastN n)) ∧ w = w' := by
  by_cases h0 : n < 0
  · have HR : Hid (lastN n = 0) := Lib.hid (by simp [lastN, h0])
    go_enter Try.func47, Try.ntmps47
    go_wp2_with fail
    go_ret
    exact ⟨by rw [HR.out]; rfl, rfl⟩
  · by_cases h1 : 2147483648 ≤ n
    · have HR : Hid (lastN n = 0) := Lib.hid (by simp [lastN, h1])
      go_enter Try.func47, Try.ntmps47
      go_wp2_with fail
      go_ret
      exact ⟨by rw [HR.out]; rfl, rfl⟩
    · have HR : Hid (lastN n = min n 86400) := Lib.hid (by simp [lastN, h0, h1])
      go_enter Try.func47, Try.ntmps47
      go_wp2_with fail
      go_ret
      exact ⟨by rw [HR.out]; rfl, rfl⟩

set_option maxHeartbeats 400000 in
theorem last_ref (n : Int) (w : World) : Calls Try.prog 39 #[.int .i64 n] w fun e w' => e = .returned (.int .i64 (lastN n)) ∧ w = w' := by
  by_cases h0 : n < 0
  · have HR : Hid (lastN n = 0) := Lib.hid (by simp [lastN, h0])
    go_enter Try.func39, Try.ntmps39
    go_wp2_with fail
    go_ret
    exact ⟨by rw [HR.out]; rfl, rfl⟩
  · by_cases h1 : 2147483648 ≤ n
    · have HR : Hid (lastN n = 0) := Lib.hid (by simp [lastN, h1])
      go_enter Try.func39, Try.ntmps39
      go_wp2_with fail
      go_ret
      exact ⟨by rw [HR.out]; rfl, rfl⟩
    · have HR : Hid (lastN n = min n 86400) := Lib.hid (by simp [lastN, h0, h1])
      go_enter Try.func39, Try.ntmps39
      go_wp2_with fail
      go_ret
      exact ⟨by rw [HR.out]; rfl, rfl⟩

set_option maxHeartbeats 400000 in
theorem canType_any (n : Int) (w : World) : Calls Try.prog 46 #[.int .i64 n] w fun e w' => e = .returned (.bool (rangeN 1 n)) ∧ w = w' := by
  by_cases h0 : 1 ≤ n
  · by_cases h1 : n ≤ 65535
    · have HR : Hid (rangeN 1 n = true) := Lib.hid (by simp [rangeN, h0, h1])
      go_enter Try.func46, Try.ntmps46
      go_wp2_with fail
      go_ret
      exact ⟨by rw [HR.out]; rfl, rfl⟩
    · have HR : Hid (rangeN 1 n = false) := Lib.hid (by simp [rangeN, h1])
      go_enter Try.func46, Try.ntmps46
      go_wp2_with fail
      go_ret
      exact ⟨by rw [HR.out]; rfl, rfl⟩
  · have HR : Hid (rangeN 1 n = false) := Lib.hid (by simp [rangeN, h0])
    go_enter Try.func46, Try.ntmps46
    go_wp2_with fail
    go_ret
    exact ⟨by rw [HR.out]; rfl, rfl⟩

set_option maxHeartbeats 400000 in
theorem canClass_any (n : Int) (w : World) : Calls Try.prog 56 #[.int .i64 n] w fun e w' => e = .returned (.bool (rangeN 0 n)) ∧ w = w' := by
  by_cases h0 : 0 ≤ n
  · by_cases h1 : n ≤ 65535
    · have HR : Hid (rangeN 0 n = true) := Lib.hid (by simp [rangeN, h0, h1])
      go_enter Try.func56, Try.ntmps56
      go_wp2_with fail
      go_ret
      exact ⟨by rw [HR.out]; rfl, rfl⟩
    · have HR : Hid (rangeN 0 n = false) := Lib.hid (by simp [rangeN, h1])
      go_enter Try.func56, Try.ntmps56
      go_wp2_with fail
      go_ret
      exact ⟨by rw [HR.out]; rfl, rfl⟩
  · have HR : Hid (rangeN 0 n = false) := Lib.hid (by simp [rangeN, h0])
    go_enter Try.func56, Try.ntmps56
    go_wp2_with fail
    go_ret
    exact ⟨by rw [HR.out]; rfl, rfl⟩

set_option maxHeartbeats 1000000 in
theorem fresh_any (s : St) (A : Option Addr) (c : Nat) (now : Int) (w : World) : Calls Try.prog 19 #[.agg (stC s A c), .int .i64 now] w fun e w' => e = .returned (.bool (freshN s now)) ∧ Below w.heap.size w w' := by
  have r1 := row_new (w := w) (k := w.heap.size) (.cells (stC s A c) 29 (0, 0)) rfl
  have b0 : Below w.heap.size w (w.alloc (.cells (stC s A c) 29 (0, 0))) := Below.alloc (Below.refl _ _) (Nat.le_refl _) _
  have c5 : (w.alloc (.cells (stC s A c) 29 (0, 0))).cell? ⟨w.heap.size, 5, none⟩ = some (.int .i64 s.ex) := (cell_of_row _ _ 5 _ _ _ r1).trans rfl
  have HR : Hid (freshN s now = decide (clockN now < s.ex)) := Lib.hid rfl
  generalize hC : stC s A c = C at *
  clear hC r1
  generalize s.ex = x at *
  generalize freshN s now = R at *
  have HB := Lib.hid b0
  clear b0
  go_enter Try.func19, Try.ntmps19
  go_wp2_with fail
  go_quiet ((go_at_call 44; exact Calls.quiet_of_same ((clock_any _ _).mono fun _ _ ⟨h1, h2⟩ => ⟨h1, h2.symm⟩)))
  go_wp2_with fail
  go_ret
  exact ⟨by rw [HR.out]; rfl, below_drewN HB.out _⟩

set_option maxHeartbeats 1000000 in
theorem fresh_ref (s : St) (A : Option Addr) (c : Nat) (now : Int) (w : World) : Calls Try.prog 20 #[.agg (stC s A c), .int .i64 now] w fun e w' => e = .returned (.bool (freshN s now)) ∧ Below w.heap.size w w' := by
  have r1 := row_new (w := w) (k := w.heap.size) (.cells (stC s A c) 29 (0, 0)) rfl
  have b0 : Below w.heap.size w (w.alloc (.cells (stC s A c) 29 (0, 0))) := Below.alloc (Below.refl _ _) (Nat.le_refl _) _
  have c5 : (w.alloc (.cells (stC s A c) 29 (0, 0))).cell? ⟨w.heap.size, 5, none⟩ = some (.int .i64 s.ex) := (cell_of_row _ _ 5 _ _ _ r1).trans rfl
  have HR : Hid (freshN s now = decide (clockN now < s.ex)) := Lib.hid rfl
  generalize hC : stC s A c = C at *
  clear hC r1
  generalize s.ex = x at *
  generalize freshN s now = R at *
  have HB := Lib.hid b0
  clear b0
  go_enter Try.func20, Try.ntmps20
  go_wp2_with fail
  go_quiet ((go_at_call 40; exact Calls.quiet_of_same ((clock_ref _ _).mono fun _ _ ⟨h1, h2⟩ => ⟨h1, h2.symm⟩)))
  go_wp2_with fail
  go_ret
  exact ⟨by rw [HR.out]; rfl, below_drewN HB.out _⟩
end Go.Proofs.Ytbeggckkgaoacaa
