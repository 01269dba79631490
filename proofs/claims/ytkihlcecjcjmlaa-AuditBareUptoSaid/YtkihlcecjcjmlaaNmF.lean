/-
  name.Tail, name.Parent, name.Within.
-/
import Derived.Test.YtkihlcecjcjmlaaNmD
namespace Go.Proofs.Ytkihlcecjcjmlaa
open Go.RowKit
set_option linter.unusedVariables false
set_option maxRecDepth 100000

theorem tail_no {l : Bs} (h : can l = false) (k : Int) : tail l k = [] := by unfold tail; rw [if_neg (by simp [h])]

set_option maxHeartbeats 1000000 in
theorem Tail_no (l : Bs) (k : Int) (w : World) (h : can l = false) : Calls Try.prog 24 #[.string (bs l), .int .i64 k] w fun e w' => e = .returned (.string (bs [])) ∧ Below w.heap.size w w' := by
  obtain ⟨ip, hi, hz, hs⟩ := info_pl
  go_enter Try.func24, Try.ntmps24
  go_wp2_with fail
  refine (split_any l w).mono ?_
  rintro e w1 ⟨C, rfl, hC, h1, hP, hB⟩
  rw [h]
  clear hP
  go_wp2_with (first
    | (refine wpList_alloc_at rfl 76 rfl ip zeroPl hi hz ?_)
    | (refine wpList_store_row rfl 76 (.tmp 5) (.tmp 11) rfl w1.heap.size C rfl rfl 76 zeroPl (new_row _ _) (pl_size hC) (zero_size.trans hC.symm) h1 ?_))
  go_ret
  exact ⟨rfl, Below.setRow (Below.alloc hB hB.size _) hB.size _⟩

theorem slice_tail {l : Bs} (h : can l = true) {i : Nat} (hi : i ≤ (labels l).length) (wx : World) : (Instr.slice 9 (.string (bs l)) (some (.int .u8 (st (labels l) i))) none none).run Try.prog wx = .ok (.string (bs (join ((labels l).drop i)))) wx := by
  obtain ⟨_, _, hj, _⟩ := can_out h
  have h2 := st_le (L := labels l) (i := i) hi
  have hd := drop_st (labels l) i
  rw [← hj] at h2 hd
  have hsz := bs_size l
  rw [run_slice_string_l wx 9 _ Try.underlying9 _ _ (by omega) (by omega), bs_extract, Int.toNat_natCast, hd, hsz]
  rw [List.take_of_length_le]
  rw [← hd]; simp

theorem clamp_eq (k : Int) (n : Nat) : n - clamp k n = ((n : Int) - max 0 (min k (n : Int))).toNat := by unfold clamp; omega

set_option maxHeartbeats 1000000 in
theorem Tail_yes (l : Bs) (k : Int) (w : World) (h : can l = true) (hk1 : -9223372036854775808 ≤ k) (hk2 : k ≤ 9223372036854775807) :
    Calls Try.prog 24 #[.string (bs l), .int .i64 k] w fun e w' => e = .returned (.string (bs (join ((labels l).drop ((labels l).length - clamp k (labels l).length))))) ∧ Below w.heap.size w w' := by
  obtain ⟨ip, hi, hz, hs⟩ := info_pl
  rw [clamp_eq]
  obtain ⟨y, hy⟩ : ∃ y, y = join ((labels l).drop (((labels l).length : Int) - max 0 (min k ((labels l).length : Int))).toNat) := ⟨_, rfl⟩
  rw [← hy]
  have HY := Lib.hid hy
  clear hy
  go_enter Try.func24, Try.ntmps24
  go_wp2_with fail
  refine (split_any l w).mono ?_
  rintro e w1 ⟨C, rfl, hC, h1, hP, hB⟩
  have hp := hP h
  have hn := can_count h
  rw [h]
  clear hP
  have hrow := kept_row (C' := C) (new_row w1 zeroPl)
  have c1 : ((w1.alloc (Obj.cells zeroPl 76 (0, 0))).setRow w1.heap.size C).cell? ⟨w1.heap.size, 128, none⟩ = some (.int .i64 (labels l).length) := (cell_of_row _ _ _ _ _ _ hrow).trans hp.count
  have c2 : ((w1.alloc (Obj.cells zeroPl 76 (0, 0))).setRow w1.heap.size C).cell? ⟨w1.heap.size, (((labels l).length : Int) - max 0 (min k ((labels l).length : Int))).toNat, none⟩ = some (.int .u8 (st (labels l) (((labels l).length : Int) - max 0 (min k ((labels l).length : Int))).toNat)) := (cell_of_row _ _ _ _ _ _ hrow).trans (hp.at' _ (by omega))
  have hsl := fun wx => slice_tail h (i := (((labels l).length : Int) - max 0 (min k ((labels l).length : Int))).toNat) (by omega) wx
  have hcl := fun wx => clone_any (join ((labels l).drop (((labels l).length : Int) - max 0 (min k ((labels l).length : Int))).toNat)) wx (by
    have := join_drop_len (labels l) (((labels l).length : Int) - max 0 (min k ((labels l).length : Int))).toNat
    obtain ⟨h2, _, e, _⟩ := can_out h
    rw [← e] at this
    omega)
  rw [← HY.out] at hcl
  have HCL := Lib.hid hcl
  clear hcl hp h
  rw [← HY.out] at hsl
  clear HY
  generalize st (labels l) (((labels l).length : Int) - max 0 (min k ((labels l).length : Int))).toNat = x at *
  generalize (labels l).length = n at *
  go_wp2_with (first
    | (refine wpList_alloc_at rfl 76 rfl ip zeroPl hi hz ?_)
    | (refine wpList_store_row rfl 76 (.tmp 5) (.tmp 11) rfl w1.heap.size C rfl rfl 76 zeroPl (new_row _ _) (pl_size hC) (zero_size.trans hC.symm) h1 ?_)
    | fail)
  refine (HCL.out _).mono ?_
  rintro e w2 ⟨rfl, hB2⟩
  have hB3 : Below w.heap.size w w2 := Below.trans (Below.setRow (Below.alloc hB hB.size _) hB.size _) (hB2.mono (by have := hB.size; simp; omega))
  clear hB2
  go_wp2_with fail
  go_ret
  exact ⟨rfl, hB3⟩

theorem Tail_any (l : Bs) (k : Int) (w : World) (hk1 : -9223372036854775808 ≤ k) (hk2 : k ≤ 9223372036854775807) :
    Calls Try.prog 24 #[.string (bs l), .int .i64 k] w fun e w' => e = .returned (.string (bs (tail l k))) ∧ Below w.heap.size w w' := by
  cases h : can l
  · rw [tail_no h]; exact Tail_no l k w h
  · unfold tail; rw [if_pos h]; exact Tail_yes l k w h hk1 hk2

set_option maxHeartbeats 1000000 in
theorem Within_any (l z : Bs) (w : World) : Calls Try.prog 15 #[.string (bs l), .string (bs z)] w fun e w' => e = .returned (.bool (within l z)) ∧ Below w.heap.size w w' := by
  have hn : (labels z).length ≤ 127 := by
    cases h : can z
    · rw [labels_no h]; simp
    · exact can_count h
  unfold within
  go_enter Try.func15, Try.ntmps15
  go_wp2_with fail
  refine (Count_any z w).mono ?_
  rintro e w1 ⟨rfl, hB⟩
  go_wp2_with fail
  refine (Tail_any l (labels z).length w1 (by omega) (by omega)).mono ?_
  rintro e w2 ⟨rfl, hB2⟩
  have hB3 : Below w.heap.size w w2 := Below.trans hB (hB2.mono hB.size)
  clear hB hB2
  go_wp2_with fail
  refine (Same_any _ _ w2).mono ?_
  rintro e w3 ⟨rfl, hB4⟩
  have hB5 : Below w.heap.size w w3 := Below.trans hB3 (hB4.mono hB3.size)
  go_wp2_with fail
  go_ret
  exact ⟨rfl, hB5⟩


end Go.Proofs.Ytkihlcecjcjmlaa
