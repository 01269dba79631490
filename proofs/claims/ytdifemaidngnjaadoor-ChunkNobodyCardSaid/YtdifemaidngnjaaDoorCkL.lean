/-
  A reader of chunks that no call made; the walk of ChunkNobody.
-/
import Derived.Test.YtdifemaidngnjaaDoorCkK
import Derived.Test.YtdifemaidngnjaaDoorClG
import Derived.LoopN
namespace Go.Proofs.YtdifemaidngnjaaDoor
open Go.RowKit
set_option linter.unusedVariables false
set_option maxRecDepth 100000

/-- A pointer to a reader that no call made. -/
def NobC (w : World) (p : Value) : Prop := p = .pointer none ∨ ∃ g, p = .pointer (some ⟨g, 0, none⟩) ∧ w.heap[g]? = some (.cells #[.slice none 0 0, .bool false, .int .i64 0, .int .i64 0, .int .i64 0, .int .i64 0, .string (bs []), .int .i64 0, .int .i64 0] 42 (0, 0))
set_option maxHeartbeats 400000 in
theorem madeC_nob (p : Value) (w : World) (h : NobC w p) : Calls Tryd.prog 18 #[p] w fun e w' => e = .returned (.bool false) ∧ w' = w := by
  rcases h with rfl | ⟨g, rfl, hr⟩
  · go_enter Tryd.func18, Tryd.ntmps18
    go_wp2_with fail
    go_ret
    exact ⟨rfl, rfl⟩
  · have c1 := (cell_of_row _ g 1 _ _ _ hr).trans rfl
    clear hr
    go_enter Tryd.func18, Tryd.ntmps18
    go_wp2_with fail
    go_ret
    exact ⟨rfl, rfl⟩
set_option maxHeartbeats 400000 in
theorem feedC_nob (p : Value) (A : Option Addr) (n c : Nat) (w : World) (h : NobC w p) : Calls Tryd.prog 11 #[p, .slice A n c] w fun e w' => e = .returned (.tuple #[.int .i64 0, .bool false, .int .i64 2]) ∧ w' = w := by
  have M := Lib.hid (madeC_nob p w h)
  clear h
  go_enter Tryd.func11, Tryd.ntmps11
  go_wp2_with fail
  refine M.out.mono ?_
  rintro e w1 ⟨rfl, rfl⟩
  go_wp2_with fail
  go_returns
  exact ⟨rfl, rfl⟩
set_option maxHeartbeats 400000 in
theorem bodyC_nob (p : Value) (w : World) (h : NobC w p) : Calls Tryd.prog 13 #[p] w fun e w' => e = .returned (.slice none 0 0) ∧ w' = w := by
  have M := Lib.hid (madeC_nob p w h)
  clear h
  go_enter Tryd.func13, Tryd.ntmps13
  go_wp2_with fail
  refine M.out.mono ?_
  rintro e w1 ⟨rfl, rfl⟩
  go_wp2_with fail
  go_ret
  exact ⟨rfl, rfl⟩
set_option maxHeartbeats 1000000 in
set_option maxRecDepth 100000 in
theorem ChunkNobody_any (A : Option Addr) (b : Bs) (c : Nat) (w : World) (hT : TabC w) : Calls Tryd.prog 6 #[.slice A b.length c] w fun e w' => e = .returned (.bool true) ∧ Below w.heap.size w w' := by
  generalize b.length = n
  have FB := Lib.hid (fun p W h => feedC_nob p A n c W h)
  have LB := Lib.hid (fun p W h => bodyC_nob p W h)
  obtain ⟨W, hW⟩ : ∃ W, W = (w.alloc (.cells #[.slice none 0 0, .bool false, .int .i64 0, .int .i64 0, .int .i64 0, .int .i64 0, .string (bs []), .int .i64 0, .int .i64 0] 42)).alloc (.cells #[.pointer none, .pointer (some ⟨w.heap.size, 0, none⟩)] 30) := ⟨_, rfl⟩
  have bW : Below w.heap.size w W := by rw [hW]; exact Below.alloc (Below.alloc (Below.refl _ _) (Nat.le_refl _) _) (by simp) _
  have r1 : W.heap[w.heap.size]? = some (.cells #[.slice none 0 0, .bool false, .int .i64 0, .int .i64 0, .int .i64 0, .int .i64 0, .string (bs []), .int .i64 0, .int .i64 0] 42 (0, 0)) := by rw [hW]; exact row_old _ (row_new _ rfl)
  have r2 : W.heap[w.heap.size + 1]? = some (.cells #[.pointer none, .pointer (some ⟨w.heap.size, 0, none⟩)] 30 (0, 0)) := by rw [hW]; exact row_new _ (by simp)
  have c0 : W.cell? ⟨w.heap.size + 1, 0, none⟩ = some (.pointer none) := (cell_of_row _ _ 0 _ _ _ r2).trans rfl
  have c1 : W.cell? ⟨w.heap.size + 1, 1, none⟩ = some (.pointer (some ⟨w.heap.size, 0, none⟩)) := (cell_of_row _ _ 1 _ _ _ r2).trans rfl
  have N0 : Hid (NobC W (.pointer none)) := Lib.hid (.inl rfl)
  have N1 : Hid (NobC W (.pointer (some ⟨w.heap.size, 0, none⟩))) := Lib.hid (.inr ⟨_, rfl, r1⟩)
  have HW : Hid (W = (w.alloc (.cells #[.slice none 0 0, .bool false, .int .i64 0, .int .i64 0, .int .i64 0, .int .i64 0, .string ⟨#[]⟩, .int .i64 0, .int .i64 0] 42)).alloc (.cells #[.pointer none, .pointer (some ⟨w.heap.size, 0, none⟩)] 30)) := Lib.hid hW
  have BW := Lib.hid bW
  have HTW : Hid (TabC W) := Lib.hid (hT.on bW)
  clear r1 r2 bW hW hT
  go_enter Tryd.func6, Tryd.ntmps6
  go_wp2_with fail
  rw [← HW.out]
  refine wp_loop_rounds 3 ?_
  rw [rounds_succ]
  go_wp2_with fail
  refine (FB.out _ _ N0.out).mono ?_
  rintro e w1 ⟨rfl, hw⟩
  rw [hw]
  clear hw
  go_wp2_with fail
  refine (LB.out _ _ N0.out).mono ?_
  rintro e w1 ⟨rfl, hw⟩
  rw [hw]
  clear hw
  go_wp2_with fail
  rw [rounds_succ]
  go_wp2_with fail
  refine (FB.out _ _ N1.out).mono ?_
  rintro e w1 ⟨rfl, hw⟩
  rw [hw]
  clear hw
  go_wp2_with fail
  refine (LB.out _ _ N1.out).mono ?_
  rintro e w1 ⟨rfl, hw⟩
  rw [hw]
  clear hw
  go_wp2_with fail
  rw [rounds_succ]
  clear FB LB N0 N1 c0 c1 HW
  obtain ⟨W1, hW1⟩ : ∃ W1, W1 = W.alloc (.cells #[.int .u8 1] 5) := ⟨_, rfl⟩
  have b1 : Below W.heap.size W W1 := by rw [hW1]; exact Below.alloc (Below.refl _ _) (Nat.le_refl _) _
  have s1 : Sl W1 (some ⟨W.heap.size, 0, none⟩) 1 [1] := by rw [hW1]; exact Sl.made (l := [1]) (by rfl) (by simp)
  have PB : Hid (Calls Tryd.prog 4 #[.slice (some ⟨W.heap.size, 0, none⟩) 1 1, .slice none 0 0, .int .i64 1, .slice none 0 0] W1 fun e w' => e = .returned (.bool true) ∧ Below W1.heap.size W1 w') := Lib.hid (ChunkBack_any landC (some ⟨W.heap.size, 0, none⟩) [1] 1 none [] 0 1 none [] 0 W1 (HTW.out.on b1) s1 (Sl.none _) (by simp) (fun h => absurd h (by simp)) (by simp))
  have BF := Lib.hid (Below.trans BW.out (b1.mono BW.out.size))
  have hZ : Hid (W1 = W.alloc (.cells #[.int .u8 1] 5)) := Lib.hid hW1
  rw [hZ.out] at PB
  have hsz : w.heap.size ≤ W1.heap.size := BF.out.size
  clear hW1 b1 s1
  go_wp2_with fail
  refine PB.out.mono ?_
  rintro e w4 ⟨rfl, k4⟩
  rw [← hZ.out] at k4
  have HF := Lib.hid (Below.trans BF.out (k4.mono hsz))
  clear k4 PB
  go_wp2_with fail
  go_ret
  exact ⟨rfl, HF.out⟩
end Go.Proofs.YtdifemaidngnjaaDoor
