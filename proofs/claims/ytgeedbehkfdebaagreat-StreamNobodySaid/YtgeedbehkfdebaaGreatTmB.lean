/-
  Streams: what is new, what is refused, what goes on at the end.
-/
import Derived.Test.YtgeedbehkfdebaaGreatTmA
import Derived.Test.YtgeedbehkfdebaaGreatHpB
import Derived.Deep.CutBlock
namespace Go.Proofs.YtgeedbehkfdebaaGreat
open Go.RowKit
set_option linter.unusedVariables false
set_option maxRecDepth 100000

/-- Itoa of nought. -/
theorem IT0 (w : World) : IT 0 w := by
  have HD : Hid (bs (decD 0) = ⟨#[48]⟩) := Lib.hid (by unfold decD; rw [Go.Lib.decDigits]; rfl)
  have S : ∀ w : World, Calls Tryz.prog 106 #[.int .i64 0] w fun e w' => e = .returned (.string ⟨#[48]⟩) ∧ w' = w := fun w => by
    go_enter Tryz.func106, Tryz.ntmps106
    go_wp2_with fail
    go_ret
    exact ⟨rfl, rfl⟩
  have HS := Lib.hid S
  clear S
  have F : ∀ w : World, Calls Tryz.prog 98 #[.int .i64 0, .int .i64 10] w fun e w' => e = .returned (.string ⟨#[48]⟩) ∧ w' = w := fun w => by
    go_enter Tryz.func98, Tryz.ntmps98
    go_wp2_with fail
    refine (HS.out _).mono ?_
    rintro e w1 ⟨rfl, rfl⟩
    go_wp2_with fail
    go_ret
    exact ⟨rfl, rfl⟩
  have HF := Lib.hid F
  clear F
  have G : ∀ w : World, Calls Tryz.prog 94 #[.int .i64 0] w fun e w' => e = .returned (.string ⟨#[48]⟩) ∧ w' = w := fun w => by
    go_enter Tryz.func94, Tryz.ntmps94
    go_wp2_with fail
    refine (HF.out _).mono ?_
    rintro e w1 ⟨rfl, rfl⟩
    go_wp2_with fail
    go_ret
    exact ⟨rfl, rfl⟩
  have HG := Lib.hid G
  clear G
  unfold IT
  rw [HD.out]
  clear HD
  go_enter Tryz.func90, Tryz.ntmps90
  go_wp2_with fail
  refine (HG.out _).mono ?_
  rintro e w1 ⟨rfl, hw⟩
  rw [hw]
  clear hw
  go_wp2_with fail
  go_ret
  exact ⟨rfl, Below.refl _ _⟩
/-- What New answers. -/
def NewSP (w : World) (k : Int) (e : Ending) (w' : World) : Prop := Below w.heap.size w w' ∧ ∃ g T v, e = .returned (.tuple #[.pointer (some ⟨g, 0, none⟩), .int .i64 0]) ∧ w.heap.size ≤ g ∧ SRow w' g T v false ∧
  ((k = 1 ∧ T = 57) ∨ (k = 2 ∧ T = 58))
set_option maxHeartbeats 1000000 in
theorem newS_end (k : Int) (hk : k = 1 ∨ k = 2) (w : World) : Calls Tryz.prog 7 #[.int .i64 k] w (NewSP w k) := by
  have P : ∀ w : World, Calls Tryz.prog 21 #[] w fun e w' => ∃ a, e = .returned (.pointer (some ⟨a, 0, none⟩)) ∧ Below w.heap.size w w' := fun w => by
    go_enter Tryz.func21, Tryz.ntmps21
    go_wp2_with fail
    go_ret
    exact ⟨_, rfl, Below.alloc (Below.refl _ _) (Nat.le_refl _) _⟩
  have H : ∀ w : World, Calls Tryz.prog 22 #[] w fun e w' => ∃ a, e = .returned (.pointer (some ⟨a, 0, none⟩)) ∧ Below w.heap.size w w' := fun w => by
    go_enter Tryz.func22, Tryz.ntmps22
    go_wp2_with fail
    go_ret
    exact ⟨_, rfl, Below.alloc (Below.refl _ _) (Nat.le_refl _) _⟩
  have HP := Lib.hid P
  have HH := Lib.hid H
  clear P H
  have D : Hid (∀ (w' : World) g T v, Below w.heap.size w w' → w.heap.size ≤ g → SRow w' g T v false → ((k = 1 ∧ T = 57) ∨ (k = 2 ∧ T = 58)) → NewSP w k (.returned (.tuple #[.pointer (some ⟨g, 0, none⟩), .int .i64 0])) w') := Lib.hid (fun w' g T v a b c d => ⟨a, g, T, v, rfl, b, c, d⟩)
  generalize NewSP w k = Q at *
  rcases hk with rfl | rfl
  · go_enter Tryz.func7, Tryz.ntmps7
    go_wp2_with fail
    refine (HP.out _).mono ?_
    rintro e w1 ⟨a, rfl, k1⟩
    have K1 := Lib.hid k1
    clear k1
    have r1 : SRow (w1.alloc (.cells #[.iface 57 (.agg #[.pointer (some ⟨a, 0, none⟩)]), .bool false] 48)) w1.heap.size 57 (.agg #[.pointer (some ⟨a, 0, none⟩)]) false := row_new _ rfl
    have R := Lib.hid (D.out _ _ _ _ (Below.alloc K1.out K1.out.size _) K1.out.size r1 (.inl (by simp)))
    clear r1 D
    go_wp2_with fail
    exact R.out
  · go_enter Tryz.func7, Tryz.ntmps7
    go_wp2_with fail
    refine (HH.out _).mono ?_
    rintro e w1 ⟨a, rfl, k1⟩
    have K1 := Lib.hid k1
    have hs := k1.size
    clear k1
    have r1 : SRow ((w1.alloc (.cells #[.pointer (some ⟨a, 0, none⟩), .int .i64 0, .bool false] 62)).alloc (.cells #[.iface 58 (.pointer (some ⟨w1.heap.size, 0, none⟩)), .bool false] 48)) (w1.heap.size + 1) 58 (.pointer (some ⟨w1.heap.size, 0, none⟩)) false := row_new _ (by simp)
    have R := Lib.hid (D.out _ _ _ _ (Below.alloc (Below.alloc K1.out K1.out.size _) (by simp; omega) _) (by omega) r1 (.inr (by simp)))
    clear r1 D hs
    go_wp2_with fail
    exact R.out
end Go.Proofs.YtgeedbehkfdebaaGreat
