/-
  The landed reader of chunks: its small functions.
-/
import Derived.Test.YtjhameebehkdjaaGreatDoorCkO
import Derived.Test.YtjhameebehkdjaaGreatDoorSp
import Derived.Test.YtjhameebehkdjaaGreatDoorHdB
import Derived.Deep.QuietTactic
import Derived.BigQuiet
namespace Go.Proofs.YtjhameebehkdjaaGreatDoor
open Go.RowKit
set_option linter.unusedVariables false
set_option maxRecDepth 100000

/-- The reader's row. -/
def Rw (w : World) (g : Nat) (v : Value) (most st dg lf : Nat) (mk : Bs) (bh fl : Nat) : Prop := w.heap[g]? = some (.cells #[v, .bool true, .int .i64 most, .int .i64 st, .int .i64 dg, .int .i64 lf, .string (bs mk), .int .i64 bh, .int .i64 fl] 164 (0, 0))
theorem Rw.below {w w1 : World} {g : Nat} {v : Value} {most st dg lf : Nat} {mk : Bs} {bh fl : Nat} (h : Rw w g v most st dg lf mk bh fl) (k : Below w.heap.size w w1) : Rw w1 g v most st dg lf mk bh fl := (k.block g (Array.getElem?_eq_some_iff.1 h).1).trans h
theorem Rw.drewN {w : World} {g : Nat} {v : Value} {most st dg lf : Nat} {mk : Bs} {bh fl : Nat} (h : Rw w g v most st dg lf mk bh fl) (n : Nat) : Rw (w.drewN n) g v most st dg lf mk bh fl := h

section
variable (g : Nat) (v : Value) (most st dg lf : Nat) (mk : Bs) (bh fl : Nat) (w : World)
set_option maxHeartbeats 400000 in
theorem madeC_any (h : Rw w g v most st dg lf mk bh fl) : Calls Tryz.prog 152 #[.pointer (some ⟨g, 0, none⟩)] w fun e w' => e = .returned (.bool true) ∧ w' = w := by
  have c1 := (cell_of_row _ g 1 _ _ _ h).trans rfl
  clear h
  go_enter Tryz.func152, Tryz.ntmps152
  go_wp2_with fail
  go_ret
  exact ⟨rfl, rfl⟩
set_option maxHeartbeats 400000 in
theorem failC_any (e : Nat) (h : Rw w g v most st dg lf mk bh fl) : Calls Tryz.prog 155 #[.pointer (some ⟨g, 0, none⟩), .int .i64 e] w fun r w' => r = .returned (.tuple #[]) ∧ w.grownBy w' (some g) ∧ Rw w' g v most 3 dg lf mk bh e := by
  have x0 := (cell_of_row _ g 3 _ _ _ h).trans rfl
  have f0 := frozen_of_row _ _ 3 _ _ h
  have r0 := row_set (w := w) (g := g) (i := 3) (.int .i64 3) h
  have x1 := (cell_of_row _ g 8 _ _ _ r0).trans rfl
  have f1 := frozen_of_row _ _ 8 _ _ r0
  have r1 := row_set (g := g) (i := 8) (.int .i64 e) r0
  have G : Hid (w.grownBy ((w.setCell ⟨g, 3, none⟩ (.int .i64 3)).setCell ⟨g, 8, none⟩ (.int .i64 e)) (some g)) := Lib.hid (grown_trans (grown_set g 3 _ _) (grown_set g 8 _ _) (fun k hk => .inl hk))
  have R : Hid (Rw ((w.setCell ⟨g, 3, none⟩ (.int .i64 3)).setCell ⟨g, 8, none⟩ (.int .i64 e)) g v most 3 dg lf mk bh e) := Lib.hid r1
  clear h r0 r1
  go_enter Tryz.func155, Tryz.ntmps155
  go_wp2_with fail
  go_end0
  exact ⟨rfl, G.out, R.out⟩
set_option maxHeartbeats 400000 in
theorem expectC_any (m2 : Bs) (z : ByteArray) (hz : z = bs m2) (b2 : Nat) (h : Rw w g v most st dg lf mk bh fl) : Calls Tryz.prog 157 #[.pointer (some ⟨g, 0, none⟩), .string z, .int .i64 b2] w fun r w' => r = .returned (.tuple #[]) ∧ w.grownBy w' (some g) ∧ Rw w' g v most 2 dg lf m2 b2 fl := by
  subst hz
  have x0 := (cell_of_row _ g 3 _ _ _ h).trans rfl
  have f0 := frozen_of_row _ _ 3 _ _ h
  have r0 := row_set (w := w) (g := g) (i := 3) (.int .i64 2) h
  have x1 := (cell_of_row _ g 6 _ _ _ r0).trans rfl
  have f1 := frozen_of_row _ _ 6 _ _ r0
  have r1 := row_set (g := g) (i := 6) (.string (bs m2)) r0
  have x2 := (cell_of_row _ g 7 _ _ _ r1).trans rfl
  have f2 := frozen_of_row _ _ 7 _ _ r1
  have r2 := row_set (g := g) (i := 7) (.int .i64 b2) r1
  have G : Hid (w.grownBy (((w.setCell ⟨g, 3, none⟩ (.int .i64 2)).setCell ⟨g, 6, none⟩ (.string (bs m2))).setCell ⟨g, 7, none⟩ (.int .i64 b2)) (some g)) := Lib.hid (grown_trans (grown_trans (grown_set g 3 _ _) (grown_set g 6 _ _) (fun k hk => .inl hk)) (grown_set g 7 _ _) (fun k hk => .inl hk))
  have R : Hid (Rw (((w.setCell ⟨g, 3, none⟩ (.int .i64 2)).setCell ⟨g, 6, none⟩ (.string (bs m2))).setCell ⟨g, 7, none⟩ (.int .i64 b2)) g v most 2 dg lf m2 b2 fl) := Lib.hid r2
  clear h r0 r1 r2
  go_enter Tryz.func157, Tryz.ntmps157
  go_wp2_with fail
  go_end0
  exact ⟨rfl, G.out, R.out⟩
set_option maxHeartbeats 400000 in
theorem endLenC_any (h : Rw w g v most st dg lf mk bh fl) : Calls Tryz.prog 151 #[.pointer (some ⟨g, 0, none⟩)] w fun r w' => r = .returned (.tuple #[]) ∧ w.grownBy w' (some g) ∧ ((lf = 0 ∧ Rw w' g v most 2 0 lf [10, 13, 10] 3 fl) ∨ (lf ≠ 0 ∧ Rw w' g v most 2 0 lf [10] 1 fl)) := by
  have x0 := (cell_of_row _ g 4 _ _ _ h).trans rfl
  have f0 := frozen_of_row _ _ 4 _ _ h
  have r0 := row_set (w := w) (g := g) (i := 4) (.int .i64 0) h
  have x1 := (cell_of_row _ g 5 _ _ _ r0).trans rfl
  have R0 : Hid (Rw (w.setCell ⟨g, 4, none⟩ (.int .i64 0)) g v most st 0 lf mk bh fl) := Lib.hid r0
  have G := Lib.hid (grown_set g 4 (.int .i64 0) w)
  have E1 := Lib.hid (expectC_any g v most st 0 lf mk bh fl _ [10, 13, 10] ⟨#[10, 13, 10]⟩ rfl 3 R0.out)
  have E2 := Lib.hid (expectC_any g v most st 0 lf mk bh fl _ [10] ⟨#[10]⟩ rfl 1 R0.out)
  clear h r0
  by_cases hl : lf = 0
  · subst hl
    go_enter Tryz.func151, Tryz.ntmps151
    go_wp2_with fail
    refine E1.out.mono ?_
    rintro e w1 ⟨rfl, g1, r1⟩
    have HF : Hid (w.grownBy w1 (some g) ∧ Rw w1 g v most 2 0 0 [10, 13, 10] 3 fl) := Lib.hid ⟨grown_trans G.out g1 (fun k hk => .inl hk), r1⟩
    clear g1 r1
    go_wp2_with fail
    go_end0
    exact ⟨rfl, HF.out.1, .inl ⟨by trivial, HF.out.2⟩⟩
  · have hl' : ¬ (lf : Int) = 0 := by omega
    go_enter Tryz.func151, Tryz.ntmps151
    go_wp2_with fail
    refine E2.out.mono ?_
    rintro e w1 ⟨rfl, g1, r1⟩
    have HF : Hid (w.grownBy w1 (some g) ∧ Rw w1 g v most 2 0 lf [10] 1 fl) := Lib.hid ⟨grown_trans G.out g1 (fun k hk => .inl hk), r1⟩
    clear g1 r1
    go_wp2_with fail
    go_end0
    exact ⟨rfl, HF.out.1, .inr ⟨hl, HF.out.2⟩⟩
end
theorem digC_lt {c : UInt8} {d : Nat} (h : digC c = some d) : d < 16 := by
  unfold digC at h
  repeat' split at h
  all_goals first | (injection h with h; omega) | cases h
set_option maxHeartbeats 1000000 in
theorem digitC_any (c : UInt8) (w : World) : Calls Tryz.prog 158 #[.int .u8 c.toNat] w fun e w' => e = .returned (.tuple #[.int .i64 ((digC c).getD 0), .bool (digC c).isSome]) ∧ w' = w := by
  obtain ⟨n, hn⟩ : ∃ n, n = c.toNat := ⟨_, rfl⟩
  have hc := c.toNat_lt
  rw [← hn] at hc
  have E : digC c = if 48 ≤ n ∧ n ≤ 57 then some (n - 48) else if 97 ≤ n ∧ n ≤ 102 then some (n - 87) else if 65 ≤ n ∧ n ≤ 70 then some (n - 55) else none := by rw [hn]; rfl
  rw [← hn, E]
  clear E hn
  by_cases h1 : 48 ≤ n ∧ n ≤ 57
  · rw [if_pos h1]
    have a1 : (48 : Int) ≤ (n : Int) := by omega
    have a2 : (n : Int) ≤ 57 := by omega
    have wr1 : IntKind.u8.wrap ((n : Int) - 48) = (n : Int) - 48 := IntWalk.u8_in _ (by omega)
    have wr2 : IntKind.i64.wrap ((n : Int) - 48) = (n : Int) - 48 := IntWalk.i64_in _ (by omega)
    have e1 : (((some (n - 48)).getD 0 : Nat) : Int) = (n : Int) - 48 := by simp; omega
    rw [e1]
    clear e1 h1 hc
    go_enter Tryz.func158, Tryz.ntmps158
    go_wp2_with fail
    go_returns
    exact ⟨rfl, rfl⟩
  rw [if_neg h1]
  by_cases h2 : 97 ≤ n ∧ n ≤ 102
  · rw [if_pos h2]
    have a0 : (48 : Int) ≤ (n : Int) := by omega
    have a00 : ¬ (n : Int) ≤ 57 := by omega
    have a1 : (97 : Int) ≤ (n : Int) := by omega
    have a2 : (n : Int) ≤ 102 := by omega
    have wr1 : IntKind.u8.wrap ((n : Int) - 97) = (n : Int) - 97 := IntWalk.u8_in _ (by omega)
    have wr2 : IntKind.i64.wrap ((n : Int) - 97) = (n : Int) - 97 := IntWalk.i64_in _ (by omega)
    have wr3 : IntKind.i64.wrap ((n : Int) - 97 + 10) = (n : Int) - 97 + 10 := IntWalk.i64_in _ (by omega)
    have e1 : (((some (n - 87)).getD 0 : Nat) : Int) = (n : Int) - 97 + 10 := by simp; omega
    rw [e1]
    clear e1 h1 h2 hc
    go_enter Tryz.func158, Tryz.ntmps158
    go_wp2_with fail
    go_returns
    exact ⟨rfl, rfl⟩
  rw [if_neg h2]
  by_cases h3 : 65 ≤ n ∧ n ≤ 70
  · rw [if_pos h3]
    have a0 : (48 : Int) ≤ (n : Int) := by omega
    have a00 : ¬ (n : Int) ≤ 57 := by omega
    have a01 : ¬ (97 : Int) ≤ (n : Int) := by omega
    have a1 : (65 : Int) ≤ (n : Int) := by omega
    have a2 : (n : Int) ≤ 70 := by omega
    have wr1 : IntKind.u8.wrap ((n : Int) - 65) = (n : Int) - 65 := IntWalk.u8_in _ (by omega)
    have wr2 : IntKind.i64.wrap ((n : Int) - 65) = (n : Int) - 65 := IntWalk.i64_in _ (by omega)
    have wr3 : IntKind.i64.wrap ((n : Int) - 65 + 10) = (n : Int) - 65 + 10 := IntWalk.i64_in _ (by omega)
    have e1 : (((some (n - 55)).getD 0 : Nat) : Int) = (n : Int) - 65 + 10 := by simp; omega
    rw [e1]
    clear e1 h1 h2 h3 hc
    go_enter Tryz.func158, Tryz.ntmps158
    go_wp2_with fail
    go_returns
    exact ⟨rfl, rfl⟩
  rw [if_neg h3]
  have d1 : (decide ((48 : Int) ≤ (n : Int)) && decide ((n : Int) ≤ 57)) = false := by rw [Bool.and_eq_false_iff]; simp only [decide_eq_false_iff_not]; omega
  have d2 : (decide ((97 : Int) ≤ (n : Int)) && decide ((n : Int) ≤ 102)) = false := by rw [Bool.and_eq_false_iff]; simp only [decide_eq_false_iff_not]; omega
  have d3 : (decide ((65 : Int) ≤ (n : Int)) && decide ((n : Int) ≤ 70)) = false := by rw [Bool.and_eq_false_iff]; simp only [decide_eq_false_iff_not]; omega
  clear h1 h2 h3
  by_cases b1 : (48 : Int) ≤ (n : Int) <;> by_cases b2 : (97 : Int) ≤ (n : Int) <;> by_cases b3 : (65 : Int) ≤ (n : Int)
  all_goals simp only [b1, b2, b3, decide_true, decide_false, Bool.true_and, Bool.false_and, decide_eq_false_iff_not] at d1 d2 d3
  all_goals go_enter Tryz.func158, Tryz.ntmps158
  all_goals go_wp2_with fail
  all_goals go_returns
  all_goals exact ⟨rfl, rfl⟩
end Go.Proofs.YtjhameebehkdjaaGreatDoor
