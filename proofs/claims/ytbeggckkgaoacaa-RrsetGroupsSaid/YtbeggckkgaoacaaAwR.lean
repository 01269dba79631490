/-
  The statements' awake: one small record is one set.
-/
import Derived.Test.YtbeggckkgaoacaaGrG
namespace Go.Proofs.Ytbeggckkgaoacaa
open Go.RowKit
set_option linter.unusedVariables false
set_option maxRecDepth 100000

abbrev wakeL : List Rr := [⟨[0], 1, 1, 5, [1, 2, 3, 4]⟩]
theorem wake_ex : (groupP 1 7 wakeL).map (·.ex) = [12] := by decide +kernel

theorem bys_rowR {w : World} {cs : Array Value} {t : TypeId} {l : Bs} (h : cs = (l.map byteV).toArray) : Bys (w.alloc (.cells cs t)) (some ⟨w.heap.size, 0, none⟩) l := fun _ => by
  subst h
  refine ⟨_, 0, rfl, fun j hj => ?_⟩
  have hr := row_new (w := w) (k := w.heap.size) (.cells (l.map byteV).toArray t (0, 0)) rfl
  refine (cell_of_row _ _ _ _ _ _ hr).trans ?_
  simp [hj, byteV]

set_option maxHeartbeats 4000000 in
set_option maxRecDepth 100000 in
theorem awake09 (w : World) : Calls Try.prog 15 #[] w fun e w' => e = .returned (.bool true) ∧ Below w.heap.size w w' := by
  go_enter Try.func15, Try.ntmps15
  go_wp2_with fail
  obtain ⟨W1, hW1⟩ : ∃ W1, W1 = w.alloc (.cells #[.int .u8 1, .int .u8 2, .int .u8 3, .int .u8 4] 5) := ⟨_, rfl⟩
  have b1 : Below w.heap.size w W1 := by rw [hW1]; exact Below.alloc (Below.refl _ _) (Nat.le_refl _) _
  have D1 : Dat W1 (some ⟨w.heap.size, 0, none⟩) 4 [1, 2, 3, 4] := ⟨by rw [hW1]; exact bys_rowR rfl, by decide, by decide, fun h => by cases h⟩
  rw [← hW1]
  obtain ⟨W2, hW2⟩ : ∃ W2, W2 = W1.alloc (.cells #[.string ⟨#[0]⟩, .int .i64 1, .int .i64 1, .int .i64 5, .slice (some ⟨w.heap.size, 0, none⟩) 4 4] 39) := ⟨_, rfl⟩
  have b2 : Below w.heap.size w W2 := by rw [hW2]; exact Below.alloc b1 b1.size _
  have q2 : Below W1.heap.size W1 W2 := by rw [hW2]; exact Below.alloc (Below.refl _ _) (Nat.le_refl _) _
  have hz : W1.heap.size = w.heap.size + 1 := by rw [hW1]; exact Array.size_push _
  have S2 : Rs W2 (some ⟨w.heap.size + 1, 0, none⟩) wakeL := fun _ => by
    refine ⟨_, 0, rfl, fun j hj => ?_⟩
    obtain rfl : j = 0 := by simp at hj; omega
    refine ⟨_, 4, D1.on q2, fun i v hv => ?_⟩
    have hr := row_new (w := W1) (k := W1.heap.size) (.cells #[.string ⟨#[0]⟩, .int .i64 1, .int .i64 1, .int .i64 5, .slice (some ⟨w.heap.size, 0, none⟩) 4 4] 39 (0, 0)) rfl
    rw [hz] at hr
    rw [hW2]
    refine (cell_of_row _ _ _ _ _ _ hr).trans ?_
    simpa [rrL, bs] using hv
  rw [← hW2]
  have HC := Lib.hid (group_any _ wakeL 1 1 7 W2 S2 (by decide))
  have hl1 : wakeL.length = 1 := rfl
  clear hW1 hW2 D1 S2 q2 b1 hz
  refine HC.out.mono ?_
  rintro e w3 ⟨v, rfl, o3, b3⟩
  have b3' := Below.trans b2 (b3.mono b2.size)
  have hM := wake_ex
  obtain ⟨S, hS⟩ : ∃ S, groupP 1 7 wakeL = [S] ∧ S.ex = 12 := by
    rcases hg : groupP 1 7 wakeL with _ | ⟨S, _ | ⟨T, R⟩⟩
    · rw [hg] at hM; cases hM
    · rw [hg] at hM; exact ⟨S, rfl, by simpa using hM⟩
    · rw [hg] at hM; simp at hM
  obtain ⟨hS, hex⟩ := hS
  rw [hS] at o3
  obtain ⟨g, c, a, d, rfl, -, -, hr, -⟩ := o3.at (j := 0) (by simp)
  have c5 : w3.cell? ⟨g, 5, none⟩ = some (.int .i64 12) := by
    have := hr 5 (.int .i64 S.ex) rfl
    rw [hex] at this
    simpa using this
  clear HC o3 hr hM hS b2 b3
  go_wp2_with fail
  go_ret
  exact ⟨rfl, b3'⟩
end Go.Proofs.Ytbeggckkgaoacaa
