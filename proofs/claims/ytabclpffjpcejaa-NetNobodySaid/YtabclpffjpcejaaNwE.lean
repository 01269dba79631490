/-
  A net that no call made; the walk of NetNobody.
-/
import Derived.Test.YtabclpffjpcejaaNwD
namespace Go.Proofs.Ytabclpffjpcejaa
open Go.RowKit Go.Maps
set_option linter.unusedVariables false
set_option maxRecDepth 100000

/-- A pointer to a net that no call made. -/
def NobN (w : World) (p : Value) : Prop := p = .pointer none ∨ ∃ g, p = .pointer (some ⟨g, 0, none⟩) ∧ w.heap[g]? = some (.cells #[.map none, .int .i64 0] 51 (0, 0))
set_option maxHeartbeats 400000 in
theorem madeN_nob (p : Value) (w : World) (h : NobN w p) : Calls Try.prog 37 #[p] w fun e w' => e = .returned (.bool false) ∧ w' = w := by
  rcases h with rfl | ⟨g, rfl, hr⟩
  · go_enter Try.func37, Try.ntmps37
    go_wp2_with fail
    go_ret
    exact ⟨rfl, rfl⟩
  · have c0 := (cell_of_row _ g 0 _ _ _ hr).trans rfl
    have hm := run_neq_map_nil (P := Try.prog) w 49 3 82 none Try.underlying49
    clear hr
    go_enter Try.func37, Try.ntmps37
    go_wp2_with fail
    go_ret
    exact ⟨rfl, rfl⟩
theorem findN_nob (p x : Value) (w : World) (h : NobN w p) : Calls Try.prog 38 #[p, x] w fun e w' => e = .returned (.tuple #[.pointer none, .int .i64 2]) ∧ w' = w := by
  have M := Lib.hid (madeN_nob p w h)
  clear h
  go_enter Try.func38, Try.ntmps38
  go_wp2_with fail
  refine M.out.mono ?_
  rintro e w1 ⟨rfl, rfl⟩
  go_wp2_with fail
  go_ret2
  exact ⟨rfl, rfl⟩
theorem DialN_nob (p : Value) (a : Int) (w : World) (h : NobN w p) : Calls Try.prog 13 #[p, .int .i64 a] w fun e w' => e = .returned (.tuple #[.int .i64 0, .int .i64 2]) ∧ w' = w := by
  have M := Lib.hid (madeN_nob p w h)
  clear h
  go_enter Try.func13, Try.ntmps13
  go_wp2_with fail
  refine M.out.mono ?_
  rintro e w1 ⟨rfl, rfl⟩
  go_wp2_with fail
  go_ret2
  exact ⟨rfl, rfl⟩
theorem TakeN_nob (p x : Value) (w : World) (h : NobN w p) : Calls Try.prog 17 #[p, x] w fun e w' => e = .returned (.tuple #[.slice none 0 0, .int .i64 2]) ∧ w' = w := by
  have M := Lib.hid (findN_nob p x w h)
  clear h
  go_enter Try.func17, Try.ntmps17
  go_wp2_with fail
  refine M.out.mono ?_
  rintro e w1 ⟨rfl, rfl⟩
  go_wp2_with fail
  go_ret2
  exact ⟨rfl, rfl⟩
theorem AddrN_nob (p x : Value) (w : World) (h : NobN w p) : Calls Try.prog 22 #[p, x] w fun e w' => e = .returned (.tuple #[.int .i64 0, .bool false]) ∧ w' = w := by
  have M := Lib.hid (findN_nob p x w h)
  clear h
  go_enter Try.func22, Try.ntmps22
  go_wp2_with fail
  refine M.out.mono ?_
  rintro e w1 ⟨rfl, rfl⟩
  go_wp2_with fail
  go_ret2
  exact ⟨rfl, rfl⟩
theorem ConnsN_nob (p : Value) (w : World) (h : NobN w p) : Calls Try.prog 25 #[p] w fun e w' => e = .returned (.slice none 0 0) ∧ w' = w := by
  have M := Lib.hid (madeN_nob p w h)
  clear h
  go_enter Try.func25, Try.ntmps25
  go_wp2_with fail
  refine M.out.mono ?_
  rintro e w1 ⟨rfl, rfl⟩
  go_wp2_with fail
  go_ret
  exact ⟨rfl, rfl⟩
theorem WriteN_nob (p x y : Value) (w : World) (h : NobN w p) : Calls Try.prog 15 #[p, x, y] w fun e w' => e = .returned (.int .i64 2) ∧ w' = w := by
  have M := Lib.hid (findN_nob p x w h)
  clear h
  go_enter Try.func15, Try.ntmps15
  go_wp2_with fail
  refine M.out.mono ?_
  rintro e w1 ⟨rfl, rfl⟩
  go_wp2_with fail
  go_ret
  exact ⟨rfl, rfl⟩
theorem DropN_nob (p x : Value) (w : World) (h : NobN w p) : Calls Try.prog 20 #[p, x] w fun e w' => e = .returned (.int .i64 2) ∧ w' = w := by
  have M := Lib.hid (findN_nob p x w h)
  clear h
  go_enter Try.func20, Try.ntmps20
  go_wp2_with fail
  refine M.out.mono ?_
  rintro e w1 ⟨rfl, rfl⟩
  go_wp2_with fail
  go_ret
  exact ⟨rfl, rfl⟩
set_option maxHeartbeats 1000000 in
set_option maxRecDepth 100000 in
theorem NetNobody_any (x0 x1 : Int) (xa : Option Addr) (xn xc : Nat) (w : World) : Calls Try.prog 5 #[.agg #[.int .i64 x0, .int .i64 x1, .slice xa xn xc]] w fun e w' => e = .returned (.bool true) ∧ Below w.heap.size w w' := by
  obtain ⟨W0, hW0⟩ : ∃ W0, W0 = w.alloc (.cells #[.int .i64 x0, .int .i64 x1, .slice xa xn xc] 31) := ⟨_, rfl⟩
  obtain ⟨W1, hW1⟩ : ∃ W1, W1 = W0.alloc (.cells #[.map none, .int .i64 0] 51) := ⟨_, rfl⟩
  obtain ⟨W, hW⟩ : ∃ W, W = W1.alloc (.cells #[.pointer none, .pointer (some ⟨w.heap.size + 1, 0, none⟩)] 23) := ⟨_, rfl⟩
  have z0 : W0.heap.size = w.heap.size + 1 := by rw [hW0]; simp
  have z1 : W1.heap.size = w.heap.size + 2 := by rw [hW1]; simp [z0]
  have r0 : W.heap[w.heap.size]? = some (.cells #[.int .i64 x0, .int .i64 x1, .slice xa xn xc] 31 (0, 0)) := by rw [hW, hW1, hW0]; exact row_old _ (row_old _ (row_new _ rfl))
  have r1 : W.heap[w.heap.size + 1]? = some (.cells #[.map none, .int .i64 0] 51 (0, 0)) := by rw [hW, hW1]; exact row_old _ (row_new _ z0.symm)
  have r2 : W.heap[w.heap.size + 2]? = some (.cells #[.pointer none, .pointer (some ⟨w.heap.size + 1, 0, none⟩)] 23 (0, 0)) := by rw [hW]; exact row_new _ z1.symm
  have bW : Below w.heap.size w W := by rw [hW, hW1, hW0]; exact Below.alloc (Below.alloc (Below.alloc (Below.refl _ _) (Nat.le_refl _) _) (by simp) _) (by simp; omega) _
  have hWW : W = ((w.alloc (.cells #[.int .i64 x0, .int .i64 x1, .slice xa xn xc] 31)).alloc (.cells #[.map none, .int .i64 0] 51)).alloc (.cells #[.pointer none, .pointer (some ⟨w.heap.size + 1, 0, none⟩)] 23) := by rw [hW, hW1, hW0]
  have N0 : Hid (NobN W (.pointer none)) := Lib.hid (.inl rfl)
  have N1 : Hid (NobN W (.pointer (some ⟨w.heap.size + 1, 0, none⟩))) := Lib.hid (.inr ⟨_, rfl, r1⟩)
  have c1 : W.cell? ⟨w.heap.size, 1, none⟩ = some (.int .i64 x1) := (cell_of_row _ _ 1 _ _ _ r0).trans rfl
  have c2 : W.cell? ⟨w.heap.size, 2, none⟩ = some (.slice xa xn xc) := (cell_of_row _ _ 2 _ _ _ r0).trans rfl
  have e0 : W.cell? ⟨w.heap.size + 2, 0, none⟩ = some (.pointer none) := (cell_of_row _ _ 0 _ _ _ r2).trans rfl
  have e1 : W.cell? ⟨w.heap.size + 2, 1, none⟩ = some (.pointer (some ⟨w.heap.size + 1, 0, none⟩)) := (cell_of_row _ _ 1 _ _ _ r2).trans rfl
  have HW := Lib.hid hWW
  have BW := Lib.hid bW
  have NC := Lib.hid (NetCarries_any W 5 ⟨by omega, by omega⟩ none [] 0 0 rfl (fun h => absurd h (by simp)) (by simp) (by omega) 0 ⟨by omega, by omega⟩)
  have DB := Lib.hid (fun p h => DialN_nob p x1 W h)
  have TB := Lib.hid (fun p h => TakeN_nob p (.int .i64 x1) W h)
  have AB := Lib.hid (fun p h => AddrN_nob p (.int .i64 x1) W h)
  have CB := Lib.hid (fun p h => ConnsN_nob p W h)
  have WB := Lib.hid (fun p h => WriteN_nob p (.int .i64 x1) (.slice xa xn xc) W h)
  have RB := Lib.hid (fun p h => DropN_nob p (.int .i64 x1) W h)
  clear r0 r1 r2 z0 z1 hW hW1 hW0 hWW bW
  go_enter Try.func5, Try.ntmps5
  go_wp2_with fail
  rw [← HW.out]
  refine wp_loop_rounds 3 ?_
  rw [rounds_succ]
  go_wp2_with fail
  refine (DB.out _ N0.out).mono ?_
  rintro e w1 ⟨rfl, hw⟩
  rw [hw]
  clear hw
  go_wp2_with fail
  refine (TB.out _ N0.out).mono ?_
  rintro e w1 ⟨rfl, hw⟩
  rw [hw]
  clear hw
  go_wp2_with fail
  refine (AB.out _ N0.out).mono ?_
  rintro e w1 ⟨rfl, hw⟩
  rw [hw]
  clear hw
  go_wp2_with fail
  refine (CB.out _ N0.out).mono ?_
  rintro e w1 ⟨rfl, hw⟩
  rw [hw]
  clear hw
  go_wp2_with fail
  refine (WB.out _ N0.out).mono ?_
  rintro e w1 ⟨rfl, hw⟩
  rw [hw]
  clear hw
  go_wp2_with fail
  refine (RB.out _ N0.out).mono ?_
  rintro e w1 ⟨rfl, hw⟩
  rw [hw]
  clear hw
  go_wp2_with fail
  rw [rounds_succ]
  go_wp2_with fail
  refine (DB.out _ N1.out).mono ?_
  rintro e w1 ⟨rfl, hw⟩
  rw [hw]
  clear hw
  go_wp2_with fail
  refine (TB.out _ N1.out).mono ?_
  rintro e w1 ⟨rfl, hw⟩
  rw [hw]
  clear hw
  go_wp2_with fail
  refine (AB.out _ N1.out).mono ?_
  rintro e w1 ⟨rfl, hw⟩
  rw [hw]
  clear hw
  go_wp2_with fail
  refine (CB.out _ N1.out).mono ?_
  rintro e w1 ⟨rfl, hw⟩
  rw [hw]
  clear hw
  go_wp2_with fail
  refine (WB.out _ N1.out).mono ?_
  rintro e w1 ⟨rfl, hw⟩
  rw [hw]
  clear hw
  go_wp2_with fail
  refine (RB.out _ N1.out).mono ?_
  rintro e w1 ⟨rfl, hw⟩
  rw [hw]
  clear hw
  go_wp2_with fail
  rw [rounds_succ]
  go_wp2_with fail
  refine NC.out.mono ?_
  rintro e w1 ⟨rfl, b1⟩
  have HF := Lib.hid (Below.trans BW.out (b1.mono BW.out.size))
  clear b1
  go_wp2_with fail
  go_ret
  exact ⟨rfl, HF.out⟩
end Go.Proofs.Ytabclpffjpcejaa
