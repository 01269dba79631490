/-
  The document's numbers (layer 7's Big).
-/
import Derived.Test.YtocbcobaodefgaaEnJ
import Derived.Laws.OwnMore
namespace Go.Proofs.Ytocbcobaodefgaa
open Go.RowKit
set_option linter.unusedVariables false
set_option maxRecDepth 100000

theorem big_step (k n : Nat) : big (k + 1) n = UInt8.ofNat (n / 256 ^ k) :: big k n := rfl
def bigRow (m wd n : Nat) : Array Value := (List.replicate m (Value.int .u8 0) ++ (big (wd - m) n).map byteV).toArray
theorem bigRow_set (m wd n : Nat) (h : m + 1 ≤ wd) : (bigRow (m + 1) wd n).setIfInBounds m (byteV (UInt8.ofNat (n / 256 ^ (wd - (m + 1))))) = bigRow m wd n := by
  unfold bigRow
  rw [List.setIfInBounds_toArray, show wd - m = (wd - (m + 1)) + 1 by omega, big_step]
  congr 1
  rw [List.set_append_left _ _ (by simp), List.replicate_succ', List.set_append_right _ _ (by simp)]
  simp
theorem bigRow_at (m wd n : Nat) : (bigRow (m + 1) wd n)[m]? = some (.int .u8 0) := by
  unfold bigRow
  rw [List.getElem?_toArray, List.getElem?_append_left (by simp)]
  simp
theorem bigRow_none (wd n : Nat) : bigRow 0 wd n = ((big wd n).map byteV).toArray := by simp [bigRow]
theorem bigRow_all (wd n : Nat) : bigRow wd wd n = (List.replicate wd (Value.int .u8 0)).toArray := by simp [bigRow, big]

set_option maxHeartbeats 1000000 in
set_option maxRecDepth 100000 in
theorem Big_any (n wd : Nat) (h8 : wd ≤ 8) (hn : n ≤ 140737488355328) (W : World) : Calls Try.prog 113 #[.int .i64 n, .int .i64 wd] W fun e w' => e = .returned (.slice (some ⟨W.heap.size, 0, none⟩) wd wd) ∧ w'.heap[W.heap.size]? = some (.cells ((big wd n).map byteV).toArray 5 (0, 0)) ∧ Below W.heap.size W w' := by
  obtain ⟨i0, hi, hz0, hz1, hz2⟩ := info_parts info_u8
  have hmk : ∀ W : World, (Instr.makeSlice 22 (.int .i64 (wd : Int)) (.int .i64 (wd : Int))).run Try.prog W = .ok (.slice (some ⟨W.heap.size, 0, none⟩) wd wd) (W.alloc (.cells (bigRow wd wd n) 5)) := fun W => by
    have h := run_make (P := Try.prog) W 22 5 i0 (.int .u8 0) Try.underlying22 hi hz0 .i64 .i64 (wd : Int) (wd : Int) (by omega) (by omega) (by rw [hz2]; omega) (by omega)
    have e : madeCells (Value.int .u8 0).cells (((wd : Nat) : Int).toNat * i0.size) = bigRow wd wd n := by
      rw [bigRow_all, hz1, Nat.mul_one, Int.toNat_natCast]
      apply Array.toList_inj.1
      exact toList_madeCells_one _ _
    rw [e] at h
    simpa using h
  have HN := Lib.hid (bigRow_none wd n)
  have hst := Lib.hid (bigRow_set · wd n)
  have hat := Lib.hid (bigRow_at · wd n)
  have r0 := row_new (w := W) (k := W.heap.size) (.cells (bigRow wd wd n) 5 (0, 0)) rfl
  have b0 : Below W.heap.size W (W.alloc (.cells (bigRow wd wd n) 5)) := Below.alloc (Below.refl _ _) (Nat.le_refl _) _
  have H0 : Hid (Value.int .i64 (n : Int) = .int .i64 ((n / 256 ^ (wd - wd) : Nat) : Int)) := Lib.hid (by simp)
  have H1 : Hid ((wd : Int) - 1 = ((wd : Nat) : Int) - 1) := Lib.hid rfl
  clear hi hz0 hz1 hz2
  go_enter Try.func113, Try.ntmps113
  go_wp2_with fail
  clear hmk
  generalize W.alloc (.cells (bigRow wd wd n) 5) = W0 at *
  go_loopw [0, 6] (fun v i wr => ∃ (m : Nat) (s : Int) (q : Nat), i = .int .i64 s ∧ s = (m : Int) - 1 ∧ m ≤ wd ∧ v = .int .i64 q ∧ Hid (q = n / 256 ^ (wd - m)) ∧ wr.heap[W.heap.size]? = some (.cells (bigRow m wd n) 5 (0, 0)) ∧ Below W.heap.size W wr) (fun _ i _ => (intOf i + 1).toNat)
  case atStart => exact ⟨wd, _, n, rfl, rfl, Nat.le_refl _, rfl, Lib.hid (by simp), r0, b0⟩
  case round =>
    obtain ⟨m, s, q, rfl, hs, hm, rfl, hq, hr, hB⟩ := hrel
    clear r0 b0 H0 H1
    have hqn : q ≤ 140737488355328 := by
      have := Nat.div_le_self n (256 ^ (wd - m))
      rw [← hq.out] at this
      omega
    by_cases hm0 : 1 ≤ m
    · obtain ⟨k, rfl⟩ : ∃ k, m = k + 1 := ⟨m - 1, by omega⟩
      obtain rfl : s = (k : Int) := by omega
      have there : wr.cell? ⟨W.heap.size, k, none⟩ = some (.int .u8 0) := (cell_of_row _ _ k _ _ _ hr).trans (hat.out k)
      have fz : wr.frozen? ⟨W.heap.size, k, none⟩ = false := frozen_of_row _ _ k _ _ hr
      have hv : (Value.int .u8 ((q : Int) % 256)) = byteV (UInt8.ofNat (n / 256 ^ (wd - (k + 1)))) := by
        rw [← hq.out]; simp [byteV]
      have hr2 := row_set (w := wr) (g := W.heap.size) (i := k) (.int .u8 ((q : Int) % 256)) hr
      rw [hv, hst.out k hm, ← hv] at hr2
      have hB2 : Below W.heap.size W (wr.setCell ⟨W.heap.size, k, none⟩ (.int .u8 ((q : Int) % 256))) := Below.setCell hB (Nat.le_refl _) _
      have HQ : Hid (q / 256 = n / 256 ^ (wd - k)) := Lib.hid (by rw [hq.out, show wd - k = (wd - (k + 1)) + 1 by omega, Nat.pow_succ, Nat.div_div_eq_div_mul])
      have HR2 := Lib.hid hr2
      clear hr hr2 hv hB hq hs
      go_wp2_with fail
      go_roundw
      case rel => exact ⟨k, _, q / 256, rfl, by omega, by omega, by simp, HQ, HR2.out, hB2⟩
      case measure => simp [intOf] <;> omega
    · obtain rfl : m = 0 := by omega
      have hneg : ¬ 0 ≤ s := by omega
      rw [HN.out] at hr
      have HR := Lib.hid hr
      clear hr hq hs
      go_wp2_with fail
      go_ret
      exact ⟨rfl, HR.out, hB⟩
end Go.Proofs.Ytocbcobaodefgaa
