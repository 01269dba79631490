/-
  A fresh pool in memory: New; freeID on a connection with nothing open.
  The landed pool: the first ID from any draw on, on a connection with nothing open.
  The landed pool: sorting at most one, a question that is late.
  The landed pool: sorting at most one.
-/
import Derived.Test.YtknpkifhkefikaaDoorPa
import Derived.Deep.CutBlock
import Derived.Deep.DeepCutAuto
namespace Go.Proofs.YtknpkifhkefikaaDoor
open Go.RowKit Go.Maps
set_option linter.unusedVariables false
set_option maxRecDepth 100000

/-- How a slice of connections reads. -/
def slcN : Value → Option (DataW Unit × List MemPlace)
  | .slice none 0 0 => some (.nil, [])
  | .slice (some ⟨b, 0, .none⟩) _ _ => some (.lit (.int .i64 b), [])
  | _ => .none
theorem slcN_nil {v : Value} {z : DataW Unit × List MemPlace} (h : slcN v = some z) (e : z.1 = .nil) : v = .slice none 0 0 := by
  unfold slcN at h
  split at h
  · rfl
  · injection h with h; subst h; cases e
  · cases h
theorem zeroSlcN (w : World) : (zeroValue 169).run Tryd.prog w = .ok (.slice none 0 0) w := by kernel_rfl
theorem zeroPtrP (w : World) : (zeroValue 112).run Tryd.prog w = .ok (.pointer none) w := by kernel_rfl
/-- A pool with nothing in it, on the net at n. -/
structure PoF (g n m1 m2 : Nat) (w : World) : Prop where
  r : w.heap[g]? = some (.cells #[.pointer (some ⟨n, 0, none⟩), .map (some m1), .map (some m2), .int .i64 0] 107 (0, 0))
  k1 : w.ownsMap Tryd.prog 3 ptrN m1 0 (.map [])
  k2 : w.ownsMap Tryd.prog 3 slcN m2 0 (.map [])
set_option maxHeartbeats 1000000 in
theorem NewP_any (n m last N : Nat) (w : World) (h : NetS n m N last [] w) : Calls Tryd.prog 20 #[.pointer (some ⟨n, 0, none⟩)] w fun e w' => e = .returned (.tuple #[.pointer (some ⟨w.heap.size + 2, 0, none⟩), .int .i64 0]) ∧ PoF (w.heap.size + 2) n w.heap.size (w.heap.size + 1) w' ∧ Below w.heap.size w w' := by
  have C := Lib.hid (Write_no w h 0 ⟨by omega, by omega⟩ rfl none 0 0)
  obtain ⟨W, hW⟩ : ∃ W, W = ((w.alloc (.map #[] 0)).alloc (.map #[] 0)).alloc (.cells #[.pointer (some ⟨n, 0, none⟩), .map (some w.heap.size), .map (some (w.heap.size + 1)), .int .i64 0] 107) := ⟨_, rfl⟩
  have h1 := World.ownsMap_made w Tryd.prog 3 ptrN
  have h2 := World.ownsMap_made (w.alloc (.map #[] 0)) Tryd.prog 3 slcN
  have t : PoF (w.heap.size + 2) n w.heap.size (w.heap.size + 1) W := by
    rw [hW]
    refine ⟨row_new _ (by simp), (h1.alloc _).alloc _, ?_⟩
    have := h2.alloc (.cells #[.pointer (some ⟨n, 0, none⟩), .map (some w.heap.size), .map (some (w.heap.size + 1)), .int .i64 0] 107)
    simpa using this
  have b : Below w.heap.size w W := by rw [hW]; exact Below.alloc (Below.alloc (Below.alloc (Below.refl _ _) (Nat.le_refl _) _) (by simp) _) (by simp; omega) _
  have HW := Lib.hid hW
  have hmm := @run_makeMap Tryd.prog
  clear h h1 h2 hW
  go_enter Tryd.func20, Tryd.ntmps20
  go_wp2_with fail
  refine C.out.mono ?_
  rintro e w1 ⟨rfl, rfl⟩
  clear C
  go_wp2_with fail
  rw [← HW.out]
  go_ret2
  exact ⟨rfl, t, b⟩

theorem idx0_any (f : Value) (w : World) : Calls Tryd.prog 105 #[.slice none 0 0, f] w fun e w' => e = .returned (.int .i64 (-1)) ∧ w' = w := by
  go_enter Tryd.func105, Tryd.ntmps105
  go_wp2_with fail
  go_loopw [8] (fun v8 wr => v8 = .int .i64 0 ∧ wr = w) (fun _ _ => 0)
  case atStart => exact ⟨rfl, rfl⟩
  case round =>
    obtain ⟨rfl, rfl⟩ := hrel
    go_wp2_with fail
    go_ret
    exact ⟨rfl, rfl⟩
theorem has0_any (f : Value) (w : World) : Calls Tryd.prog 100 #[.slice none 0 0, f] w fun e w' => e = .returned (.bool false) ∧ w' = w := by
  have C := Lib.hid (idx0_any f w)
  go_enter Tryd.func100, Tryd.ntmps100
  go_wp2_with fail
  refine C.out.mono ?_
  rintro e w1 ⟨rfl, rfl⟩
  go_wp2_with fail
  go_ret
  exact ⟨rfl, rfl⟩
set_option maxHeartbeats 1000000 in
theorem freeID_any (gc : Nat) (c0 c1 c2 : Value) (draw : Int) (w : World) (hr : w.heap[gc]? = some (.cells #[c0, c1, c2, .slice none 0 0] 119 (0, 0))) (hd : 0 ≤ draw) (hd2 : draw ≤ 65535) : Calls Tryd.prog 59 #[.pointer (some ⟨gc, 0, none⟩), .int .i64 draw] w fun e w' => e = .returned (.int .i64 draw) ∧ Below w.heap.size w w' := by
  have B := Lib.hid (Below.alloc (o := .cells #[.int .i64 draw] 3) (Below.refl w.heap.size w) (Nat.le_refl _))
  have r1 : (w.alloc (.cells #[.int .i64 draw] 3)).heap[gc]? = _ := row_old _ hr
  have k3 := (cell_of_row _ _ 3 _ _ _ r1).trans rfl
  have wr : IntKind.u64.wrap draw = draw := IntWalk.u64_in _ (by omega)
  have C := Lib.hid (fun f W => has0_any f W)
  have hm : draw % 65536 = draw := by omega
  clear hr r1
  go_enter Tryd.func59, Tryd.ntmps59
  go_wp2_with fail
  have d0 := (cell_of_row _ _ 0 _ _ _ (row_new (w := w) (.cells #[.int .i64 draw] 3 (0, 0)) rfl)).trans rfl
  generalize w.alloc (.cells #[.int .i64 draw] 3) = W1 at *
  go_loopw [16] (fun _ wr => wr = W1) (fun _ _ => 0)
  case atStart => exact rfl
  case round =>
    obtain rfl := hrel
    go_wp2_with fail
    refine (C.out _ _).mono ?_
    rintro e w2 ⟨rfl, rfl⟩
    go_wp2_with fail
    go_ret
    exact ⟨rfl, B.out⟩
end Go.Proofs.YtknpkifhkefikaaDoor
namespace Go.Proofs.YtknpkifhkefikaaDoor
open Go.RowKit
set_option linter.unusedVariables false
set_option maxRecDepth 100000

theorem draw_of (i : Int) : ∃ a : Nat, wrap64 ((IntKind.u64.wrap i).tmod 65536) = a ∧ a < 65536 := by
  have h0 : 0 ≤ IntKind.u64.wrap i := by rw [IntKind.wrap_u64]; omega
  rw [Int.tmod_eq_emod_of_nonneg h0]
  generalize IntKind.u64.wrap i = u at *
  have h1 := Int.emod_nonneg u (b := (65536 : Int)) (by omega)
  have h2 := Int.emod_lt_of_pos u (b := (65536 : Int)) (by omega)
  generalize u % (65536 : Int) = r at *
  refine ⟨r.toNat, ?_, by omega⟩
  unfold wrap64
  omega
set_option maxHeartbeats 1000000 in
theorem freeIDd_any (gc : Nat) (c0 c1 c2 : Value) (draw a : Int) (w : World) (hr : w.heap[gc]? = some (.cells #[c0, c1, c2, .slice none 0 0] 119 (0, 0))) (ha : wrap64 ((IntKind.u64.wrap draw).tmod 65536) = a) : Calls Tryd.prog 59 #[.pointer (some ⟨gc, 0, none⟩), .int .i64 draw] w fun e w' => e = .returned (.int .i64 a) ∧ Below w.heap.size w w' := by
  have B := Lib.hid (Below.alloc (o := .cells #[.int .i64 a] 3) (Below.refl w.heap.size w) (Nat.le_refl _))
  have r1 : (w.alloc (.cells #[.int .i64 a] 3)).heap[gc]? = _ := row_old _ hr
  have k3 := (cell_of_row _ _ 3 _ _ _ r1).trans rfl
  have C := Lib.hid (fun f W => has0_any f W)
  clear hr r1
  go_enter Tryd.func59, Tryd.ntmps59
  go_wp2_with fail
  have d0 := (cell_of_row _ _ 0 _ _ _ (row_new (w := w) (.cells #[.int .i64 a] 3 (0, 0)) rfl)).trans rfl
  generalize w.alloc (.cells #[.int .i64 a] 3) = W1 at *
  go_loopw [16] (fun _ wr => wr = W1) (fun _ _ => 0)
  case atStart => exact rfl
  case round =>
    obtain rfl := hrel
    go_wp2_with fail
    refine (C.out _ _).mono ?_
    rintro e w2 ⟨rfl, rfl⟩
    go_wp2_with fail
    go_ret
    exact ⟨rfl, B.out⟩
end Go.Proofs.YtknpkifhkefikaaDoor
namespace Go.Proofs.YtknpkifhkefikaaDoor
open Go.RowKit
set_option linter.unusedVariables false
set_option maxRecDepth 100000

theorem ins1_any (A : Option Addr) (n c : Nat) (w : World) (hn : n ≤ 1) : Calls Tryd.prog 126 #[.slice A n c, .int .i64 0, .int .i64 n] w fun e w' => e = .returned (.tuple #[]) ∧ w' = w := by
  have h1 : ¬ (1 : Int) < (n : Int) := by omega
  go_enter Tryd.func126, Tryd.ntmps126
  go_wp2_with fail
  go_loopw [6] (fun v6 wr => v6 = .int .i64 1 ∧ wr = w) (fun _ _ => 0)
  case atStart => exact ⟨rfl, rfl⟩
  case round =>
    obtain ⟨rfl, rfl⟩ := hrel
    go_wp2_with fail
    go_end0
    exact ⟨rfl, rfl⟩
theorem insF1_any (A : Option Addr) (n c : Nat) (f : Value) (w : World) (hn : n ≤ 1) : Calls Tryd.prog 137 #[.slice A n c, .int .i64 0, .int .i64 n, f] w fun e w' => e = .returned (.tuple #[]) ∧ w' = w := by
  have h1 : ¬ (1 : Int) < (n : Int) := by omega
  go_enter Tryd.func137, Tryd.ntmps137
  go_wp2_with fail
  go_loopw [8] (fun v6 wr => v6 = .int .i64 1 ∧ wr = w) (fun _ _ => 0)
  case atStart => exact ⟨rfl, rfl⟩
  case round =>
    obtain ⟨rfl, rfl⟩ := hrel
    go_wp2_with fail
    go_end0
    exact ⟨rfl, rfl⟩
/-- Given up behind ten ticks. -/
theorem late_any (v0 v1 v2 v3 v4 v5 v6 v7 v8 v9 v10 : Value) (s d : Nat) (w : World) (hs : s ≤ 1000000) (hd : d ≤ 30) : Calls Tryd.prog 64 #[.agg #[v0, v1, v2, v3, v4, v5, v6, v7, v8, v9, v10, .int .i64 s], .int .i64 ((s : Int) + d)] w fun e w' => e = .returned (.bool (decide (10 ≤ d))) ∧ Below w.heap.size w w' := by
  obtain ⟨W1, hW1⟩ : ∃ W1, W1 = w.alloc (.cells #[v0, v1, v2, v3, v4, v5, v6, v7, v8, v9, v10, .int .i64 s] 124) := ⟨_, rfl⟩
  have HB := Lib.hid (show Below w.heap.size w W1 by rw [hW1]; exact Below.alloc (Below.refl _ _) (Nat.le_refl _) _)
  have c11 : W1.cell? ⟨w.heap.size, 11, none⟩ = some (.int .i64 s) := by rw [hW1]; exact (cell_of_row _ _ 11 _ _ _ (row_new _ rfl)).trans rfl
  have e1 : IntKind.u64.wrap ((s : Int) + d) = (s : Int) + d := IntWalk.u64_in _ (by omega)
  have e2 : IntKind.u64.wrap (s : Int) = (s : Int) := IntWalk.u64_in _ (by omega)
  have e3 : IntKind.u64.wrap ((s : Int) + d - s) = d := by rw [show (s : Int) + d - s = d by omega]; exact IntWalk.u64_in _ (by omega)
  have h0 : (s : Int) ≤ (s : Int) + d := by omega
  have HW1 := Lib.hid hW1
  by_cases h : 10 ≤ d
  · have h' : (10 : Int) ≤ (d : Int) := by omega
    rw [decide_eq_true h]
    clear hW1 h
    go_enter Tryd.func64, Tryd.ntmps64
    go_upto_region 1 with fail
    rw [← HW1.out]
    go_wp2_with fail
    go_ret
    exact ⟨rfl, HB.out⟩
  · have h' : ¬ (10 : Int) ≤ (d : Int) := by omega
    rw [decide_eq_false h]
    clear hW1 h
    go_enter Tryd.func64, Tryd.ntmps64
    go_upto_region 1 with fail
    rw [← HW1.out]
    go_wp2_with fail
    go_ret
    exact ⟨rfl, HB.out⟩
end Go.Proofs.YtknpkifhkefikaaDoor
namespace Go.Proofs.YtknpkifhkefikaaDoor
open Go.RowKit
set_option linter.unusedVariables false
set_option maxRecDepth 100000

theorem len64_1 (n : Nat) (w : World) (hn : n ≤ 1) : Calls Tryd.prog 136 #[.int .u64 n] w fun e w' => e = .returned (.int .i64 n) ∧ w' = w := by
  rcases (by omega : n = 0 ∨ n = 1) with rfl | rfl
  · go_enter Tryd.func136, Tryd.ntmps136
    go_wp2_with fail
    go_ret
    exact ⟨by first | rfl | kernel_rfl, rfl⟩
  · go_enter Tryd.func136, Tryd.ntmps136
    go_wp2_with fail
    go_ret
    exact ⟨by first | rfl | kernel_rfl, rfl⟩
theorem len_1 (n : Nat) (w : World) (hn : n ≤ 1) : Calls Tryd.prog 107 #[.int .u64 n] w fun e w' => e = .returned (.int .i64 n) ∧ w' = w := by
  have C := Lib.hid (fun W => len64_1 n W hn)
  go_enter Tryd.func107, Tryd.ntmps107
  go_wp2_with fail
  refine (C.out _).mono ?_
  rintro e w1 ⟨rfl, hw⟩
  rw [hw]
  go_wp2_with fail
  go_ret
  exact ⟨rfl, rfl⟩
theorem pdq1_any (A : Option Addr) (n c : Nat) (k : Int) (w : World) (hn : n ≤ 1) : Calls Tryd.prog 106 #[.slice A n c, .int .i64 0, .int .i64 n, .int .i64 k] w fun e w' => e = .returned (.tuple #[]) ∧ w' = w := by
  have C := Lib.hid (fun W => ins1_any A n c W hn)
  have h12 : (n : Int) ≤ 12 := by omega
  go_enter Tryd.func106, Tryd.ntmps106
  go_wp2_with fail
  go_loopw [1, 2] (fun v1 v2 wr => v1 = .int .i64 0 ∧ v2 = .int .i64 n ∧ wr = w) (fun _ _ _ => 0)
  case atStart => exact ⟨rfl, rfl, rfl⟩
  case round =>
    obtain ⟨rfl, rfl, rfl⟩ := hrel
    go_wp2_with fail
    refine (C.out _).mono ?_
    rintro e w1 ⟨rfl, hw⟩
    rw [hw]
    go_wp2_with fail
    exact bodyPost_ret (v := .tuple #[]) (by simp [results, Tryd.results106]) rfl ⟨rfl, rfl⟩
theorem sort1_any (A : Option Addr) (n c : Nat) (w : World) (hn : n ≤ 1) : Calls Tryd.prog 66 #[.slice A n c] w fun e w' => e = .returned (.tuple #[]) ∧ w' = w := by
  have C := Lib.hid (fun W => len_1 n W hn)
  have D := Lib.hid (fun k W => pdq1_any A n c k W hn)
  have e1 : IntKind.u64.wrap (n : Int) = n := IntWalk.u64_in _ (by omega)
  go_enter Tryd.func66, Tryd.ntmps66
  go_wp2_with fail
  refine (C.out _).mono ?_
  rintro e w1 ⟨rfl, hw⟩
  rw [hw]
  go_wp2_with fail
  refine (D.out _ _).mono ?_
  rintro e w2 ⟨rfl, hw2⟩
  rw [hw2]
  go_wp2_with fail
  go_end0
  exact ⟨rfl, rfl⟩
theorem pdqF1_any (A : Option Addr) (n c : Nat) (k : Int) (f : Value) (w : World) (hn : n ≤ 1) : Calls Tryd.prog 108 #[.slice A n c, .int .i64 0, .int .i64 n, .int .i64 k, f] w fun e w' => e = .returned (.tuple #[]) ∧ w' = w := by
  have C := Lib.hid (fun W => insF1_any A n c f W hn)
  have h12 : (n : Int) ≤ 12 := by omega
  go_enter Tryd.func108, Tryd.ntmps108
  go_wp2_with fail
  go_loopw [1, 2] (fun v1 v2 wr => v1 = .int .i64 0 ∧ v2 = .int .i64 n ∧ wr = w) (fun _ _ _ => 0)
  case atStart => exact ⟨rfl, rfl, rfl⟩
  case round =>
    obtain ⟨rfl, rfl, rfl⟩ := hrel
    go_wp2_with fail
    refine (C.out _).mono ?_
    rintro e w1 ⟨rfl, hw⟩
    rw [hw]
    go_wp2_with fail
    exact bodyPost_ret (v := .tuple #[]) (by simp [results, Tryd.results108]) rfl ⟨rfl, rfl⟩
theorem sortF1_any (A : Option Addr) (n c : Nat) (f : Value) (w : World) (hn : n ≤ 1) : Calls Tryd.prog 67 #[.slice A n c, f] w fun e w' => e = .returned (.tuple #[]) ∧ w' = w := by
  have C := Lib.hid (fun W => len_1 n W hn)
  have D := Lib.hid (fun k W => pdqF1_any A n c k f W hn)
  have e1 : IntKind.u64.wrap (n : Int) = n := IntWalk.u64_in _ (by omega)
  go_enter Tryd.func67, Tryd.ntmps67
  go_wp2_with fail
  refine (C.out _).mono ?_
  rintro e w1 ⟨rfl, hw⟩
  rw [hw]
  go_wp2_with fail
  refine (D.out _ _).mono ?_
  rintro e w2 ⟨rfl, hw2⟩
  rw [hw2]
  go_wp2_with fail
  go_end0
  exact ⟨rfl, rfl⟩
end Go.Proofs.YtknpkifhkefikaaDoor
