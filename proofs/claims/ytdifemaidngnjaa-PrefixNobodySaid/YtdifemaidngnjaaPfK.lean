/-
  A reader of frames that no call made; the walk of PrefixNobody.
-/
import Derived.Test.YtdifemaidngnjaaPfH
import Derived.Test.YtdifemaidngnjaaPfN
import Derived.LoopN
namespace Go.Proofs.Ytdifemaidngnjaa
open Go.RowKit
set_option linter.unusedVariables false
set_option maxRecDepth 100000

/-- A pointer to a reader that no call made. -/
def NobP (w : World) (p : Value) : Prop := p = .pointer none ∨ ∃ g, p = .pointer (some ⟨g, 0, none⟩) ∧ w.heap[g]? = some (.cells #[.slice none 0 0, .bool false] 46 (0, 0))
set_option maxHeartbeats 400000 in
theorem made_nob (p : Value) (w : World) (h : NobP w p) : Calls Try.prog 26 #[p] w fun e w' => e = .returned (.bool false) ∧ w' = w := by
  rcases h with rfl | ⟨g, rfl, hr⟩
  · go_enter Try.func26, Try.ntmps26
    go_wp2_with fail
    go_ret
    exact ⟨rfl, rfl⟩
  · have c1 := (cell_of_row _ g 1 _ _ _ hr).trans rfl
    clear hr
    go_enter Try.func26, Try.ntmps26
    go_wp2_with fail
    go_ret
    exact ⟨rfl, rfl⟩
set_option maxHeartbeats 400000 in
theorem feed_nob (p : Value) (A : Option Addr) (n c : Nat) (w : World) (h : NobP w p) : Calls Try.prog 12 #[p, .slice A n c] w fun e w' => e = .returned (.slice none 0 0) ∧ w' = w := by
  have M := Lib.hid (made_nob p w h)
  clear h
  go_enter Try.func12, Try.ntmps12
  go_wp2_with fail
  refine M.out.mono ?_
  rintro e w1 ⟨rfl, rfl⟩
  go_wp2_with fail
  go_ret
  exact ⟨rfl, rfl⟩
set_option maxHeartbeats 400000 in
theorem left_nob (p : Value) (w : World) (h : NobP w p) : Calls Try.prog 14 #[p] w fun e w' => e = .returned (.int .i64 0) ∧ w' = w := by
  have M := Lib.hid (made_nob p w h)
  clear h
  go_enter Try.func14, Try.ntmps14
  go_wp2_with fail
  refine M.out.mono ?_
  rintro e w1 ⟨rfl, rfl⟩
  go_wp2_with fail
  go_ret
  exact ⟨rfl, rfl⟩
set_option maxHeartbeats 1000000 in
set_option maxRecDepth 100000 in
theorem PrefixNobody_any (A : Option Addr) (b : Bs) (c : Nat) (w : World) : Calls Try.prog 6 #[.slice A b.length c] w fun e w' => e = .returned (.bool true) ∧ Below w.heap.size w w' := by
  generalize b.length = n
  have FB := Lib.hid (fun p W h => feed_nob p A n c W h)
  have LB := Lib.hid (fun p W h => left_nob p W h)
  obtain ⟨W, hW⟩ : ∃ W, W = (w.alloc (.cells #[.slice none 0 0, .bool false] 46)).alloc (.cells #[.pointer none, .pointer (some ⟨w.heap.size, 0, none⟩)] 23) := ⟨_, rfl⟩
  have bW : Below w.heap.size w W := by rw [hW]; exact Below.alloc (Below.alloc (Below.refl _ _) (Nat.le_refl _) _) (by simp) _
  have r1 : W.heap[w.heap.size]? = some (.cells #[.slice none 0 0, .bool false] 46 (0, 0)) := by rw [hW]; exact row_old _ (row_new _ rfl)
  have r2 : W.heap[w.heap.size + 1]? = some (.cells #[.pointer none, .pointer (some ⟨w.heap.size, 0, none⟩)] 23 (0, 0)) := by rw [hW]; exact row_new _ (by simp)
  have c0 : W.cell? ⟨w.heap.size + 1, 0, none⟩ = some (.pointer none) := (cell_of_row _ _ 0 _ _ _ r2).trans rfl
  have c1 : W.cell? ⟨w.heap.size + 1, 1, none⟩ = some (.pointer (some ⟨w.heap.size, 0, none⟩)) := (cell_of_row _ _ 1 _ _ _ r2).trans rfl
  have N0 : Hid (NobP W (.pointer none)) := Lib.hid (.inl rfl)
  have N1 : Hid (NobP W (.pointer (some ⟨w.heap.size, 0, none⟩))) := Lib.hid (.inr ⟨_, rfl, r1⟩)
  have HW := Lib.hid hW
  have BW := Lib.hid bW
  clear r1 r2 bW hW
  go_enter Try.func6, Try.ntmps6
  go_wp2_with fail
  rw [← HW.out]
  refine wp_loop_rounds 3 ?_
  rw [rounds_succ]
  go_wp2_with fail
  refine (FB.out _ _ N0.out).mono ?_
  rintro e w1 ⟨rfl, hw⟩
  rw [hw]
  clear hw
  go_wp2_with fail
  refine (LB.out _ _ N0.out).mono ?_
  rintro e w1 ⟨rfl, hw⟩
  rw [hw]
  clear hw
  go_wp2_with fail
  rw [rounds_succ]
  go_wp2_with fail
  refine (FB.out _ _ N1.out).mono ?_
  rintro e w1 ⟨rfl, hw⟩
  rw [hw]
  clear hw
  go_wp2_with fail
  refine (LB.out _ _ N1.out).mono ?_
  rintro e w1 ⟨rfl, hw⟩
  rw [hw]
  clear hw
  go_wp2_with fail
  rw [rounds_succ]
  clear FB LB N0 N1 c0 c1 HW
  have ne : ∀ (W : World), True := fun _ => trivial
  obtain ⟨W1, hW1⟩ : ∃ W1, W1 = W.alloc (.cells #[.int .u8 1] 5) := ⟨_, rfl⟩
  obtain ⟨W2, hW2⟩ : ∃ W2, W2 = W1.alloc (.cells #[.slice (some ⟨W.heap.size, 0, none⟩) 1 1] 26) := ⟨_, rfl⟩
  obtain ⟨W3, hW3⟩ : ∃ W3, W3 = W2.alloc (.cells #[.int .i64 1] 3) := ⟨_, rfl⟩
  have b1 : Below W.heap.size W W1 := by rw [hW1]; exact Below.alloc (Below.refl _ _) (Nat.le_refl _) _
  have b2 : Below W1.heap.size W1 W2 := by rw [hW2]; exact Below.alloc (Below.refl _ _) (Nat.le_refl _) _
  have b3 : Below W2.heap.size W2 W3 := by rw [hW3]; exact Below.alloc (Below.refl _ _) (Nat.le_refl _) _
  have s1 : Sl W1 (some ⟨W.heap.size, 0, none⟩) 1 [1] := by rw [hW1]; exact Sl.made (l := [1]) (by rfl) (by simp)
  have z1 : W1.heap.size = W.heap.size + 1 := by rw [hW1]; simp
  have z2 : W2.heap.size = W.heap.size + 2 := by rw [hW2]; simp [z1]
  have c2 : W2.cell? ⟨W.heap.size + 1, 0, none⟩ = some (.slice (some ⟨W.heap.size, 0, none⟩) 1 1) := by rw [hW2]; exact (cell_of_row _ _ 0 _ _ _ (row_new _ z1.symm)).trans rfl
  have c3 : W3.cell? ⟨W.heap.size + 2, 0, none⟩ = some (.int .i64 1) := by rw [hW3]; exact (cell_of_row _ _ 0 _ _ _ (row_new _ z2.symm)).trans rfl
  have BY : Byss W3 (some ⟨W.heap.size + 1, 0, none⟩) [[1]] := fun _ => ⟨_, 0, rfl, fun j hj => by
    have : j = 0 := by simp at hj; omega
    subst this
    exact ⟨_, 1, cell_on c2 b3, (s1.on b2).bys.on b3, Nat.le_refl _, by omega, fun h => by cases h⟩⟩
  have NT : Nts W3 (some ⟨W.heap.size + 2, 0, none⟩) [1] := fun _ => ⟨_, 0, rfl, fun j hj => by
    have : j = 0 := by simp at hj; omega
    subst this
    exact c3⟩
  have PB := Lib.hid (PrefixBack_any landP (some ⟨W.heap.size + 1, 0, none⟩) [[1]] 1 (some ⟨W.heap.size + 2, 0, none⟩) [1] 1 W3 BY (by simp) NT (by simp))
  have BF := Lib.hid (Below.trans BW.out (((b1.mono BW.out.size)).trans ((b2.mono (Nat.le_trans BW.out.size b1.size)).trans (b3.mono (Nat.le_trans BW.out.size (Nat.le_trans b1.size b2.size))))))
  have hZ : Hid (W3 = ((W.alloc (.cells #[.int .u8 1] 5)).alloc (.cells #[.slice (some ⟨W.heap.size, 0, none⟩) 1 1] 26)).alloc (.cells #[.int .i64 1] 3)) := Lib.hid (by rw [hW3, hW2, hW1])
  have PB2 : Hid (Calls Try.prog 5 #[.slice (some ⟨W.heap.size + 1, 0, none⟩) 1 1, .slice (some ⟨W.heap.size + 2, 0, none⟩) 1 1] W3 fun e w' => e = .returned (.bool true) ∧ Below W3.heap.size W3 w') := Lib.hid PB.out
  rw [hZ.out] at PB2
  have hsz : w.heap.size ≤ W3.heap.size := BF.out.size
  clear hW1 hW2 hW3 b1 b2 b3 s1 z1 z2 c2 c3 BY NT PB ne
  go_wp2_with fail
  refine PB2.out.mono ?_
  rintro e w4 ⟨rfl, k4⟩
  rw [← hZ.out] at k4
  have HF := Lib.hid (Below.trans BF.out (k4.mono hsz))
  clear k4 PB2
  go_wp2_with fail
  go_ret
  exact ⟨rfl, HF.out⟩
end Go.Proofs.Ytdifemaidngnjaa
