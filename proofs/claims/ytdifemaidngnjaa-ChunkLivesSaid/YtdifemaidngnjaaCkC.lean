/-
  The document's reader of chunks in memory: sized, fed.
-/
import Derived.Test.YtdifemaidngnjaaCkB
namespace Go.Proofs.Ytdifemaidngnjaa
open Go.RowKit
set_option linter.unusedVariables false
set_option maxRecDepth 100000

/-- The reader at block g. -/
def CX (w : World) (g : Nat) (s : Ck) (v : Value) : Prop := w.heap[g]? = some (.cells #[.int .i64 s.most, .int .i64 s.pl, .int .i64 s.dig, .int .i64 s.left, v, .bool s.whole, .int .i64 s.fault] 66 (0, 0)) ∧ OwnB w 0 v s.body ∧ v.ownBlock ≠ some g
/-- What a step answers. -/
def StepX (w : World) (g : Nat) (v : Value) (r : Nat × Ck) (e : Ending) (w' : World) : Prop := ∃ v', e = .returned (.int .i64 r.1) ∧ CX w' g r.2 v' ∧ Mod (FX g v) w w' ∧ (∀ k, v'.ownBlock = some k → v.ownBlock = some k ∨ w.heap.size ≤ k)
/-- Cells of the reader turned. -/
theorem CX.set {w w1 : World} {g : Nat} {s t : Ck} {v : Value} (h : CX w g s v) (k : w.grownBy w1 (some g)) (hr : w1.heap[g]? = some (.cells #[.int .i64 t.most, .int .i64 t.pl, .int .i64 t.dig, .int .i64 t.left, v, .bool t.whole, .int .i64 t.fault] 66 (0, 0))) (hb : t.body = s.body) : CX w1 g t v :=
  ⟨hr, by rw [hb]; exact h.2.1.kept k (by cases hv : v.ownBlock with | none => exact .inl rfl | some j => exact .inr (fun e => h.2.2 (hv.trans e))), h.2.2⟩
theorem CX.drewN {w : World} {g : Nat} {s : Ck} {v : Value} (h : CX w g s v) (n : Nat) : CX (w.drewN n) g s v := ⟨h.1, h.2.1.below (below_drewN (Below.refl _ _) n) (Nat.le_refl _), h.2.2⟩
theorem StepX.stay {w w1 : World} {g : Nat} {s : Ck} {v : Value} {n : Nat} (h : CX w g s v) (k : Below w.heap.size w w1) : StepX w g v (n, s) (.returned (.int .i64 n)) w1 :=
  ⟨v, rfl, ⟨(k.block g (Array.getElem?_eq_some_iff.1 h.1).1).trans h.1, h.2.1.below k (Nat.le_refl _), h.2.2⟩, Mod.below k, fun k hk => .inl hk⟩
theorem StepX.turn {w w1 : World} {g : Nat} {s t : Ck} {v : Value} {n : Nat} (h : CX w g s v) (k : w.grownBy w1 (some g)) (hr : w1.heap[g]? = some (.cells #[.int .i64 t.most, .int .i64 t.pl, .int .i64 t.dig, .int .i64 t.left, v, .bool t.whole, .int .i64 t.fault] 66 (0, 0))) (hb : t.body = s.body) : StepX w g v (n, t) (.returned (.int .i64 n)) w1 :=
  ⟨v, rfl, h.set k hr hb, Mod.grown k (fun j hj => by injection hj with hj; exact .inl hj.symm), fun k hk => .inl hk⟩

def sizedC (s : Ck) : Nat × Ck := if s.dig = 0 then (120, s) else if s.most < s.left + s.body.length then (4, s) else (0, { s with pl := 1 })
set_option maxHeartbeats 1000000 in
theorem sized_ref (g : Nat) (s : Ck) (v : Value) (w : World) (h : CX w g s v) (hd : s.dig ≤ 6) (hl : s.left ≤ 16777216) (hb : s.body.length ≤ s.most) (hm : s.most ≤ 65535) :
    Calls Try.prog 38 #[.pointer (some ⟨g, 0, none⟩)] w (StepX w g v (sizedC s)) := by
  have c0 := (cell_of_row _ g 0 _ _ _ h.1).trans rfl
  have c2 := (cell_of_row _ g 2 _ _ _ h.1).trans rfl
  have c3 := (cell_of_row _ g 3 _ _ _ h.1).trans rfl
  obtain ⟨A, c, rfl, -⟩ := h.2.1.bysN
  have c4 := (cell_of_row _ g 4 _ _ _ h.1).trans rfl
  have HS := Lib.hid h
  by_cases h1 : s.dig = 0
  · have HQ : Hid (StepX w g (.slice A s.body.length c) (sizedC s) (.returned (.int .i64 120)) w) := Lib.hid (by unfold sizedC; rw [if_pos h1]; exact StepX.stay h (Below.refl _ _))
    generalize StepX w g (.slice A s.body.length c) (sizedC s) = Q at *
    rw [h1] at c2
    clear h h1
    go_enter Try.func38, Try.ntmps38
    go_wp2_with fail
    exact HQ.out
  have g1 : ¬ (s.dig : Int) = 0 := by omega
  have wr : IntKind.i64.wrap ((s.most : Int) - s.body.length) = (s.most : Int) - s.body.length := IntWalk.i64_in _ (by omega)
  by_cases h2 : s.most < s.left + s.body.length
  · have g2 : ((s.most : Int) - s.body.length) < s.left := by omega
    have HQ : Hid (∀ w1, Below w.heap.size w w1 → StepX w g (.slice A s.body.length c) (sizedC s) (.returned (.int .i64 4)) w1) := Lib.hid (by unfold sizedC; rw [if_neg h1, if_pos h2]; exact fun w1 k => StepX.stay h k)
    generalize StepX w g (.slice A s.body.length c) (sizedC s) = Q at *
    generalize s.body.length = L at *
    clear h h1 h2
    go_enter Try.func38, Try.ntmps38
    go_wp2_with fail
    go_quiet (fail)
    have k := below_drewN (Below.refl w.heap.size w) nq
    go_wp2_with fail
    exact HQ.out _ k
  · have g2 : ¬ ((s.most : Int) - s.body.length) < s.left := by omega
    have fz1 : ∀ n, (w.drewN n).frozen? ⟨g, 1, none⟩ = false := fun n => frozen_of_row _ _ 1 _ _ (h.drewN n).1
    have cc1 : ∀ n, (w.drewN n).cell? ⟨g, 1, none⟩ = some (.int .i64 s.pl) := fun n => (cell_of_row _ g 1 _ _ _ (h.drewN n).1).trans rfl
    have HQ : Hid (∀ n, StepX w g (.slice A s.body.length c) (sizedC s) (.returned (.int .i64 0)) ((w.drewN n).setCell ⟨g, 1, none⟩ (.int .i64 1))) := Lib.hid (by
      unfold sizedC; rw [if_neg h1, if_neg h2]
      exact fun n => StepX.turn h (grown_trans (grown_of_below (below_drewN (Below.refl _ _) n) _) (grown_set g 1 _ _) (fun k hk => .inl hk)) (row_set (i := 1) _ (h.drewN n).1) rfl)
    generalize StepX w g (.slice A s.body.length c) (sizedC s) = Q at *
    generalize s.body.length = L at *
    clear h h1 h2
    go_enter Try.func38, Try.ntmps38
    go_wp2_with fail
    go_quiet (fail)
    have fz := fz1 nq
    have cc := cc1 nq
    have HQ2 := Lib.hid (HQ.out nq)
    clear fz1 cc1 HQ
    go_wp2_with fail
    exact HQ2.out
def fedC (s : Ck) : Ck := { s with pl := if s.left = 0 then 5 else 2 }
set_option maxHeartbeats 1000000 in
theorem fed_ref (g : Nat) (s : Ck) (v : Value) (w : World) (h : CX w g s v) :
    Calls Try.prog 39 #[.pointer (some ⟨g, 0, none⟩)] w fun e w' => e = .returned (.tuple #[]) ∧ w.grownBy w' (some g) ∧ CX w' g (fedC s) v := by
  have HS := Lib.hid h
  have c1 := (cell_of_row _ g 1 _ _ _ h.1).trans rfl
  have f1 := frozen_of_row _ _ 1 _ _ h.1
  have r1 := row_set (w := w) (g := g) (i := 1) (.int .i64 2) h.1
  have c3 := (cell_of_row _ g 3 _ _ _ r1).trans rfl
  have c1' := (cell_of_row _ g 1 _ _ _ r1).trans rfl
  have f1' := frozen_of_row _ _ 1 _ _ r1
  have HR1 := Lib.hid r1
  by_cases h1 : s.left = 0
  · have HF : Hid (fedC s = { s with pl := 5 }) := Lib.hid (by unfold fedC; rw [if_pos h1])
    rw [h1] at c3
    clear h r1
    go_enter Try.func39, Try.ntmps39
    go_wp2_with fail
    go_end0
    have G := grown_trans (grown_set g 1 (.int .i64 2) w) (grown_set g 1 (.int .i64 5) (w.setCell ⟨g, 1, none⟩ (.int .i64 2))) (fun k hk => .inl hk)
    refine ⟨rfl, G, ?_⟩
    rw [HF.out]
    exact HS.out.set G (row_set (i := 1) _ HR1.out) rfl
  · have g1 : ¬ (s.left : Int) = 0 := by omega
    have HF : Hid (fedC s = { s with pl := 2 }) := Lib.hid (by unfold fedC; rw [if_neg h1])
    clear h r1 h1
    go_enter Try.func39, Try.ntmps39
    go_wp2_with fail
    go_end0
    refine ⟨rfl, grown_set g 1 _ _, ?_⟩
    rw [HF.out]
    exact HS.out.set (grown_set g 1 _ _) HR1.out rfl
end Go.Proofs.Ytdifemaidngnjaa
