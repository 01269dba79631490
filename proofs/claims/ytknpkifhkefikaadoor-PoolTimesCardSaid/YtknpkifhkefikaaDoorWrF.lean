/-
  The landed writer: data.
-/
import Derived.Test.YtknpkifhkefikaaDoorWrE
namespace Go.Proofs.YtknpkifhkefikaaDoor
open Go.RowKit Go.Maps
set_option linter.unusedVariables false
set_option maxRecDepth 100000
attribute [local go_sem ↓] exec_appSv exec_appBw

theorem nmsW_snoc (n : Bs) : ∀ (l : List Bs) (X : Wt), nmsW (l ++ [n]) X = nmW n (nmsW l X)
  | [], X => rfl
  | a :: l, X => by rw [List.cons_append, nmsW, nmsW, nmsW_snoc n l]
theorem sumL_snoc (n : Bs) : ∀ (l : List Bs), sumL (l ++ [n]) = sumL l + n.length
  | [] => by simp [sumL]
  | a :: l => by rw [List.cons_append, sumL, sumL, sumL_snoc n l]; omega
theorem nmsW_take {l : List Bs} {i : Nat} (h : i < l.length) (X : Wt) : nmsW (l.take (i + 1)) X = nmW l[i] (nmsW (l.take i) X) := by
  rw [List.take_succ_eq_append_getElem h, nmsW_snoc]
theorem sumL_take {l : List Bs} {i : Nat} (h : i < l.length) : sumL (l.take (i + 1)) = sumL (l.take i) + l[i].length := by
  rw [List.take_succ_eq_append_getElem h, sumL_snoc]
theorem sumL_take_le : ∀ (l : List Bs) (i : Nat), sumL (l.take i) ≤ sumL l
  | [], i => by simp [sumL]
  | a :: l, 0 => by simp [sumL]
  | a :: l, i + 1 => by
    rw [List.take_succ_cons, sumL, sumL]
    have := sumL_take_le l i
    omega
theorem Strs.mod {S : Nat → Prop} {w w1 : World} {A : Option Addr} {L : List Bs} (h : Strs w A L) (k : Mod S w w1) (hn : Off S A) : Strs w1 A L := fun hl => by
  obtain ⟨g, off, hA, hc⟩ := h hl
  exact ⟨g, off, hA, fun j hj => k.cell (hc j hj) (hn _ hA)⟩
theorem WtM.offT {g m N base : Nat} {v : Value} {X : Wt} {w : World} {A : Option Addr} (h : WtM g m N v base X w) (ht : StrT w A) : Off (Foot3 g m v) A := fun p hp hf => by
  obtain ⟨cs, fr, hr⟩ := ht p hp
  rcases hf with e | e | e
  · have := h.head
    rw [← e, hr] at this
    injection this with this
    injection this with _ this
    cases this
  · obtain ⟨M, ⟨es, clock, hb, _⟩, _⟩ := h.map
    rw [← e, hr] at hb
    cases hb
  · obtain ⟨gv, c, rfl, _, _, _, _, cur, hc⟩ := h.form
    injection e with e
    have e : gv = p.block := e
    rw [e, hr] at hc
    injection hc with hc
    injection hc with _ hc
    cases hc
set_option maxHeartbeats 1000000 in
theorem names_any (t : Int) (w : World) : ∃ k : Nat, Calls Tryd.prog 110 #[.int .i64 t] w fun e w' => e = .returned (.tuple #[.int .i64 (aheadW t), .int .i64 k]) ∧ w' = w := by
  have h0 : ∀ (a b : Int), a = b → (a == b) = true := fun a b e => by rw [e]; simp
  have h1 : ∀ (a b : Int), a ≠ b → (a == b) = false := fun a b e => by rw [beq_eq_false_iff_ne]; exact e
  unfold aheadW shapeP
  by_cases e1 : t = 2 ∨ t = 5 ∨ t = 12
  · rw [if_pos e1]
    refine ⟨1, ?_⟩
    rcases e1 with rfl | rfl | rfl
    all_goals
      go_enter Tryd.func110, Tryd.ntmps110
      go_wp2_with fail
      go_ret2
      exact ⟨rfl, rfl⟩
  · rw [if_neg e1]
    by_cases e2 : t = 15
    · subst e2
      refine ⟨1, ?_⟩
      go_enter Tryd.func110, Tryd.ntmps110
      go_wp2_with fail
      go_ret2
      exact ⟨rfl, rfl⟩
    · rw [if_neg e2]
      by_cases e3 : t = 6
      · subst e3
        refine ⟨2, ?_⟩
        go_enter Tryd.func110, Tryd.ntmps110
        go_wp2_with fail
        go_ret2
        exact ⟨rfl, rfl⟩
      · rw [if_neg e3]
        refine ⟨0, ?_⟩
        have f2 := h1 t 2 (fun e => e1 (.inl e))
        have f5 := h1 t 5 (fun e => e1 (.inr (.inl e)))
        have f12 := h1 t 12 (fun e => e1 (.inr (.inr e)))
        have f15 := h1 t 15 e2
        have f6 := h1 t 6 e3
        clear e1 e2 e3 h0 h1
        go_enter Tryd.func110, Tryd.ntmps110
        go_wp2_with fail
        go_ret2
        exact ⟨rfl, rfl⟩
end Go.Proofs.YtknpkifhkefikaaDoor
