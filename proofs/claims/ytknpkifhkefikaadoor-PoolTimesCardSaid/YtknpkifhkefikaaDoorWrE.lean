/-
  The landed writer: a question, data, a record.
-/
import Derived.Test.YtknpkifhkefikaaDoorWrD
import Derived.Test.YtknpkifhkefikaaDoorWd
namespace Go.Proofs.YtknpkifhkefikaaDoor
open Go.RowKit Go.Maps
set_option linter.unusedVariables false
set_option maxRecDepth 100000
attribute [local go_sem ↓] exec_appSv exec_appBw

theorem nm_any (n : Bs) {g m N base : Nat} {v : Value} {X : Wt} (w : World) (h : WtM g m N v base X w) (hNX : N ≤ X.b.length) (hc : can n = true) (hl : X.b.length ≤ 900000) : Calls Tryd.prog 72 #[.pointer (some ⟨g, 0, none⟩), .string (bs n)] w fun e w' => e = .returned (.tuple #[]) ∧ WrP g m v base (nmW n X) w w' := by
  obtain ⟨h1, _, h2, h3⟩ := can_out hc
  have := name_any (labels n) w h hNX h3 (by rw [← h2]; exact h1) hl
  rw [← h2] at this
  exact this
/-- A writer some steps on. -/
structure WrQ (g m : Nat) (v : Value) (base : Nat) (X : Wt) (w w' : World) (N' : Nat) (v' : Value) : Prop where
  at' : WtM g m N' v' base X w'
  le : N' ≤ X.b.length
  mod : Mod (Foot3 g m v) w w'
  fr : v'.ownBlock = v.ownBlock ∨ ∀ k, v'.ownBlock = some k → w.heap.size ≤ k
theorem WrP.open {g m base : Nat} {v : Value} {X : Wt} {w w' : World} (h : WrP g m v base X w w') : ∃ N' v', WrQ g m v base X w w' N' v' := by
  obtain ⟨N', v', ⟨h1, h2⟩, h3, h4⟩ := h
  exact ⟨N', v', h1, h2, h3, h4⟩
theorem WrQ.shut {g m base N' : Nat} {v v' : Value} {X : Wt} {w w' : World} (h : WrQ g m v base X w w' N' v') : WrP g m v base X w w' := ⟨N', v', ⟨h.at', h.le⟩, h.mod, h.fr⟩
theorem WrQ.next {g m base N' N2 : Nat} {v v' v2 : Value} {X X2 : Wt} {w w' w2 : World} (h : WrQ g m v base X w w' N' v') (k : WrQ g m v' base X2 w' w2 N2 v2) : WrQ g m v base X2 w w2 N2 v2 :=
  ⟨k.at', k.le, h.mod.trans k.mod (fun i hi => foot3_of h.fr hi), fresh_of h.fr h.mod.size k.fr⟩
theorem WrQ.start {g m N base : Nat} {v : Value} {X : Wt} {w w0 : World} (h : WtM g m N v base X w) (hN : N ≤ X.b.length) (hB : Below w.heap.size w w0) : WrQ g m v base X w w0 N v := ⟨h.below hB, hN, Mod.below hB, .inl rfl⟩
theorem WrQ.big {g m base N' : Nat} {v v' : Value} {X : Wt} {w w' : World} (h : WrQ g m v base X w w' N' v') (hw : base ≤ w.heap.size) (hf : ∀ k, Foot3 g m v k → base ≤ k) : Below base w w' := h.mod.toBelow hw hf
set_option maxHeartbeats 1000000 in
theorem question_any (q : Qu) {g m N base : Nat} {v : Value} {X : Wt} (w : World) (h : WtM g m N v base X w) (hNX : N ≤ X.b.length) (hq : canQ q = true) (hl : X.b.length ≤ 900000) : Calls Tryd.prog 30 #[.pointer (some ⟨g, 0, none⟩), .agg (quC q)] w fun e w' => e = .returned (.tuple #[]) ∧ WrP g m v base (quW q X) w w' := by
  obtain ⟨n, t, c⟩ := q
  simp only [canQ, Bool.and_eq_true, decide_eq_true_eq] at hq
  obtain ⟨hc, ht1, ht2, hc1, hc2⟩ := hq
  obtain ⟨t, rfl⟩ := Int.eq_ofNat_of_zero_le ht1
  obtain ⟨c, rfl⟩ := Int.eq_ofNat_of_zero_le hc1
  have hn255 := (can_out hc).1
  have hln := nmW_len X hc
  have B0 : Below w.heap.size w (w.alloc (.cells (quC ⟨n, t, c⟩) 44)) := Below.alloc (Below.refl _ _) (Nat.le_refl _) _
  have r0 : (w.alloc (.cells (quC ⟨n, t, c⟩) 44)).heap[w.heap.size]? = some (.cells (quC ⟨n, t, c⟩) 44 (0, 0)) := row_new _ rfl
  have Q0 := WrQ.start h hNX B0
  have c0 := cell_of_row _ _ 0 _ _ _ r0
  have c1 := cell_of_row _ _ 1 _ _ _ r0
  have c2 := cell_of_row _ _ 2 _ _ _ r0
  have hnot : Hid (∀ i, w.heap.size ≤ i → ¬ Foot3 g m v i) := Lib.hid (fun i hi hf => by have := h.lt hf; omega)
  have HX : Hid (quW ⟨n, t, c⟩ X = twW c (twW t (nmW n X))) := Lib.hid rfl
  rw [HX.out]
  simp only [quC, quL, List.getElem?_toArray, List.getElem?_cons_zero, List.getElem?_cons_succ] at c0 c1 c2 B0 Q0 ⊢
  have M1 := Lib.hid (nm_any n _ Q0.at' hNX hc hl)
  have T2 := Lib.hid (fun N' v' W (hW : WtM g m N' v' base (nmW n X) W) (hN : N' ≤ (nmW n X).b.length) => two_any t W hW hN (by omega))
  have T3 := Lib.hid (fun N' v' W (hW : WtM g m N' v' base (twW t (nmW n X)) W) (hN : N' ≤ (twW t (nmW n X)).b.length) => two_any c W hW hN (by rw [twW_len]; omega))
  have HQ0 := Lib.hid Q0
  clear h hNX hc hl hln ht1 ht2 hc1 hc2 r0 B0 Q0 HX
  generalize nmW n X = X1 at *
  generalize twW t X1 = X2 at *
  generalize twW c X2 = X3 at *
  go_enter Tryd.func30, Tryd.ntmps30
  go_wp2_with fail
  refine M1.out.mono ?_
  rintro e w1 ⟨rfl, h1⟩
  obtain ⟨N1, v1, q1⟩ := h1.open
  have Q1 := q1
  have d1 := q1.mod.cell c1 (fun hf => hnot.out _ (Nat.le_refl _) hf)
  have d2 := q1.mod.cell c2 (fun hf => hnot.out _ (Nat.le_refl _) hf)
  have HQ1 := Lib.hid Q1
  clear h1 q1 Q1 c0 c1 c2 M1
  go_wp2_with fail
  refine (T2.out _ _ _ HQ1.out.at' HQ1.out.le).mono ?_
  rintro e w2 ⟨rfl, h2⟩
  obtain ⟨N2, v2, q2⟩ := h2.open
  have Q2 := HQ1.out.next q2
  have hf2 : ¬ Foot3 g m v1 w.heap.size := fun hf => by
    rcases foot3_of HQ1.out.fr hf with h | h
    · exact hnot.out _ (Nat.le_refl _) h
    · simp at h
      omega
  have d2 := q2.mod.cell d2 hf2
  have HQ2 := Lib.hid Q2
  clear h2 q2 Q2 d1 T2
  go_wp2_with fail
  refine (T3.out _ _ _ HQ2.out.at' HQ2.out.le).mono ?_
  rintro e w3 ⟨rfl, h3⟩
  obtain ⟨N3, v3, q3⟩ := h3.open
  have Q3 := Lib.hid (HQ0.out.next (HQ2.out.next q3)).shut
  clear h3 q3 T3
  go_wp2_with fail
  go_end0
  exact ⟨rfl, Q3.out⟩
end Go.Proofs.YtknpkifhkefikaaDoor
