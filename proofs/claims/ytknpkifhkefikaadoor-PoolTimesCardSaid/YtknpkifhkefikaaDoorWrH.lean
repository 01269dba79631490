/-
  The landed writer: a record; whether it is too long.
-/
import Derived.Test.YtknpkifhkefikaaDoorWrG
namespace Go.Proofs.YtknpkifhkefikaaDoor
open Go.RowKit Go.Maps
set_option linter.unusedVariables false
set_option maxRecDepth 100000

set_option maxHeartbeats 1000000 in
theorem record_any (r : Rr) (A : Option Addr) (c : Nat) {g m N base : Nat} {v : Value} {X : Wt} (w : World) (h : WtM g m N v base X w) (hNX : N ≤ X.b.length) (hr : canR r = true) (hS : ∀ W, Below base w W → Sl W A c r.d) (hl : X.b.length ≤ 700000) : Calls Tryd.prog 33 #[.pointer (some ⟨g, 0, none⟩), .agg (rrC r A c)] w fun e w' => e = .returned (.tuple #[]) ∧ WrP g m v base (rrW r X) w w' := by
  obtain ⟨n, t, k, l, d⟩ := r
  simp only [canR, Bool.and_eq_true, decide_eq_true_eq] at hr
  obtain ⟨hc, ht1, ht2, hc1, hc2, hl1, hl2, hd⟩ := hr
  obtain ⟨t, rfl⟩ := Int.eq_ofNat_of_zero_le ht1
  obtain ⟨k, rfl⟩ := Int.eq_ofNat_of_zero_le hc1
  obtain ⟨l, rfl⟩ := Int.eq_ofNat_of_zero_le hl1
  have hn255 := (can_out hc).1
  have hln := nmW_len X hc
  have B0 : Below w.heap.size w (w.alloc (.cells (rrC ⟨n, t, k, l, d⟩ A c) 72)) := Below.alloc (Below.refl _ _) (Nat.le_refl _) _
  have r0 : (w.alloc (.cells (rrC ⟨n, t, k, l, d⟩ A c) 72)).heap[w.heap.size]? = some (.cells (rrC ⟨n, t, k, l, d⟩ A c) 72 (0, 0)) := row_new _ rfl
  have Q0 := WrQ.start h hNX B0
  have c0 := cell_of_row _ _ 0 _ _ _ r0
  have c1 := cell_of_row _ _ 1 _ _ _ r0
  have c2 := cell_of_row _ _ 2 _ _ _ r0
  have c3 := cell_of_row _ _ 3 _ _ _ r0
  have c4 := cell_of_row _ _ 4 _ _ _ r0
  have hnot : Hid (∀ i, w.heap.size ≤ i → ¬ Foot3 g m v i) := Lib.hid (fun i hi hf => by have := h.lt hf; omega)
  have hbig := h.big
  have hbf : ∀ i, Foot3 g m v i → base ≤ i := fun i hi => h.base_le hi
  have HX : Hid (rrW ⟨n, t, k, l, d⟩ X = daW t d (twW l (twW (l / 65536) (twW k (twW t (nmW n X)))))) := Lib.hid rfl
  rw [HX.out]
  have hsh : (l : Int) / 65536 = ((l / 65536 : Nat) : Int) := (Int.natCast_ediv l 65536).symm
  obtain ⟨lh, hlh⟩ : ∃ x, x = l / 65536 := ⟨_, rfl⟩
  rw [← hlh] at hsh ⊢
  obtain ⟨nd, hnd⟩ : ∃ x, x = d.length := ⟨_, rfl⟩
  simp only [rrC, rrL, ← hnd, List.getElem?_toArray, List.getElem?_cons_zero, List.getElem?_cons_succ] at c0 c1 c2 c3 c4 B0 Q0 ⊢
  have M1 := Lib.hid (nm_any n _ Q0.at' hNX hc (by omega))
  have T1 := Lib.hid (fun N' v' W (hW : WtM g m N' v' base (nmW n X) W) (hN : N' ≤ (nmW n X).b.length) => two_any t W hW hN (by omega))
  have T2 := Lib.hid (fun N' v' W (hW : WtM g m N' v' base (twW t (nmW n X)) W) (hN : N' ≤ (twW t (nmW n X)).b.length) => two_any k W hW hN (by rw [twW_len]; omega))
  have T3 := Lib.hid (fun N' v' W (hW : WtM g m N' v' base (twW k (twW t (nmW n X))) W) (hN : N' ≤ (twW k (twW t (nmW n X))).b.length) => two_any lh W hW hN (by rw [twW_len, twW_len]; omega))
  have T4 := Lib.hid (fun N' v' W (hW : WtM g m N' v' base (twW lh (twW k (twW t (nmW n X)))) W) (hN : N' ≤ (twW lh (twW k (twW t (nmW n X)))).b.length) => two_any l W hW hN (by rw [twW_len, twW_len, twW_len]; omega))
  have DA := Lib.hid (fun N' v' W (hB : Below base w W) (hW : WtM g m N' v' base (twW l (twW lh (twW k (twW t (nmW n X))))) W) (hN : N' ≤ (twW l (twW lh (twW k (twW t (nmW n X))))).b.length) => by have := data_any t A d c W hW hN (fun W2 h2 => hS W2 (Below.trans hB h2)) hd (by rw [twW_len, twW_len, twW_len, twW_len]; omega); rw [← hnd] at this; exact this)
  have HB := Lib.hid (fun W X' N' v' (q : WrQ g m v base X' w W N' v') => q.big hbig hbf)
  have HQ0 := Lib.hid Q0
  clear h hNX hc hl hln ht1 ht2 hc1 hc2 hl1 hl2 hd r0 B0 Q0 HX hS hbig hbf hlh hnd
  generalize nmW n X = X1 at *
  generalize twW t X1 = X2 at *
  generalize twW k X2 = X3 at *
  generalize twW lh X3 = X4 at *
  generalize twW l X4 = X5 at *
  generalize daW t d X5 = X6 at *
  go_enter Tryd.func33, Tryd.ntmps33
  go_wp2_with fail
  refine M1.out.mono ?_
  rintro e w1 ⟨rfl, h1⟩
  obtain ⟨N1, v1, q1⟩ := h1.open
  have Q1 := q1
  have d1 := q1.mod.cell c1 (fun hf => hnot.out _ (Nat.le_refl _) hf)
  have d2 := q1.mod.cell c2 (fun hf => hnot.out _ (Nat.le_refl _) hf)
  have d3 := q1.mod.cell c3 (fun hf => hnot.out _ (Nat.le_refl _) hf)
  have d4 := q1.mod.cell c4 (fun hf => hnot.out _ (Nat.le_refl _) hf)
  have HQ1 := Lib.hid Q1
  clear h1 q1 Q1 c0 c1 c2 c3 c4 M1
  go_wp2_with fail
  refine (T1.out _ _ _ HQ1.out.at' HQ1.out.le).mono ?_
  rintro e w2 ⟨rfl, h2⟩
  obtain ⟨N2, v2, q2⟩ := h2.open
  have Q2 := HQ1.out.next q2
  have hf : ¬ Foot3 g m v1 w.heap.size := fun hf => by
    rcases foot3_of HQ1.out.fr hf with h | h
    · exact hnot.out _ (Nat.le_refl _) h
    · simp at h
      omega
  have d1 := q2.mod.cell d1 hf
  have d2 := q2.mod.cell d2 hf
  have d3 := q2.mod.cell d3 hf
  have d4 := q2.mod.cell d4 hf
  have HQ2 := Lib.hid Q2
  clear h2 q2 Q2 T1 hf
  go_wp2_with fail
  refine (T2.out _ _ _ HQ2.out.at' HQ2.out.le).mono ?_
  rintro e w3 ⟨rfl, h3⟩
  obtain ⟨N3, v3, q3⟩ := h3.open
  have Q3 := HQ2.out.next q3
  have hf : ¬ Foot3 g m v2 w.heap.size := fun hf => by
    rcases foot3_of HQ2.out.fr hf with h | h
    · exact hnot.out _ (Nat.le_refl _) h
    · simp at h
      omega
  have d1 := q3.mod.cell d1 hf
  have d2 := q3.mod.cell d2 hf
  have d3 := q3.mod.cell d3 hf
  have d4 := q3.mod.cell d4 hf
  have HQ3 := Lib.hid Q3
  clear h3 q3 Q3 T2 hf
  go_wp2_with fail
  refine (T3.out _ _ _ HQ3.out.at' HQ3.out.le).mono ?_
  rintro e w4 ⟨rfl, h4⟩
  obtain ⟨N4, v4, q4⟩ := h4.open
  have Q4 := HQ3.out.next q4
  have hf : ¬ Foot3 g m v3 w.heap.size := fun hf => by
    rcases foot3_of HQ3.out.fr hf with h | h
    · exact hnot.out _ (Nat.le_refl _) h
    · simp at h
      omega
  have d1 := q4.mod.cell d1 hf
  have d2 := q4.mod.cell d2 hf
  have d3 := q4.mod.cell d3 hf
  have d4 := q4.mod.cell d4 hf
  have HQ4 := Lib.hid Q4
  clear h4 q4 Q4 T3 hf
  go_wp2_with fail
  refine (T4.out _ _ _ HQ4.out.at' HQ4.out.le).mono ?_
  rintro e w5 ⟨rfl, h5⟩
  obtain ⟨N5, v5, q5⟩ := h5.open
  have Q5 := HQ4.out.next q5
  have hf : ¬ Foot3 g m v4 w.heap.size := fun hf => by
    rcases foot3_of HQ4.out.fr hf with h | h
    · exact hnot.out _ (Nat.le_refl _) h
    · simp at h
      omega
  have d1 := q5.mod.cell d1 hf
  have d2 := q5.mod.cell d2 hf
  have d3 := q5.mod.cell d3 hf
  have d4 := q5.mod.cell d4 hf
  have HQ5 := Lib.hid Q5
  clear h5 q5 Q5 T4 hf
  go_wp2_with fail
  refine (DA.out _ _ _ (HB.out _ _ _ _ (HQ0.out.next HQ5.out)) HQ5.out.at' HQ5.out.le).mono ?_
  rintro e w6 ⟨rfl, h6⟩
  obtain ⟨N6, v6, q6⟩ := h6.open
  have Q6 := Lib.hid (HQ0.out.next (HQ5.out.next q6)).shut
  clear h6 q6 DA
  go_wp2_with fail
  go_end0
  exact ⟨rfl, Q6.out⟩
set_option maxHeartbeats 400000 in
theorem long_any {g m N base : Nat} {v : Value} {X : Wt} (w : World) (h : WtM g m N v base X w) : Calls Tryd.prog 31 #[.pointer (some ⟨g, 0, none⟩)] w fun e w' => e = .returned (.bool (decide (65535 < X.b.length))) ∧ w' = w := by
  obtain ⟨c0, -, -⟩ := h.cells
  obtain ⟨gv, c, rfl, -⟩ := h.form
  generalize X.b.length = n at *
  by_cases hl : 65535 < n
  · have f : (65535 : Int) < (n : Int) := by omega
    rw [decide_eq_true hl]
    clear hl h
    go_enter Tryd.func31, Tryd.ntmps31
    go_wp2_with fail
    go_ret
    exact ⟨rfl, rfl⟩
  · have f : ¬ (65535 : Int) < (n : Int) := by omega
    rw [decide_eq_false hl]
    clear hl h
    go_enter Tryd.func31, Tryd.ntmps31
    go_wp2_with fail
    go_ret
    exact ⟨rfl, rfl⟩
end Go.Proofs.YtknpkifhkefikaaDoor
