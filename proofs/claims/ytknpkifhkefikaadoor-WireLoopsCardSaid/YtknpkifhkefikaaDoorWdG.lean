/-
  The document's counts, and all records of a message in one list.
-/
import Derived.Test.YtknpkifhkefikaaDoorWdF
import Derived.Test.YtknpkifhkefikaaDoorWrJ
import Derived.Deep.CutBlock
import Derived.Deep.DeepCutAuto
namespace Go.Proofs.YtknpkifhkefikaaDoor
open Go.RowKit Go.Maps
set_option linter.unusedVariables false
set_option maxRecDepth 100000

set_option maxHeartbeats 1000000 in
theorem dcounts_any (m : Msg) (v : MV) (w : World) : Calls Tryd.prog 35 #[.agg (msL m v).toArray] w fun e w' => e = .returned (ctV m.q.length m.an.length m.au.length m.ad.length) ∧ Below w.heap.size w w' := by
  have r0 := row_old (.cells #[.int .i64 0, .int .i64 0, .int .i64 0, .int .i64 0] 63 (0, 0)) (box_ms (w := w) (m := m) (v := v))
  have r1 := row_new (w := w.alloc (.cells (msL m v).toArray 27 (0, 0))) (k := w.heap.size + 1) (.cells #[.int .i64 0, .int .i64 0, .int .i64 0, .int .i64 0] 63 (0, 0)) (by simp)
  obtain ⟨c8, c9, c10, c11⟩ := ms_cell r0
  obtain ⟨C, hC⟩ : ∃ C, C = (msL m v).toArray := ⟨_, rfl⟩
  rw [← hC] at c8 c9 c10 c11 r0 r1 ⊢
  have B : Below w.heap.size w ((w.alloc (.cells C 27 (0, 0))).alloc (.cells #[.int .i64 0, .int .i64 0, .int .i64 0, .int .i64 0] 63 (0, 0))) := Below.alloc (Below.alloc (Below.refl _ _) (Nat.le_refl _) _) (by simp) _
  clear hC r0
  generalize m.q.length = n0 at *
  generalize m.an.length = n1 at *
  generalize m.au.length = n2 at *
  generalize m.ad.length = n3 at *
  go_enter Tryd.func35, Tryd.ntmps35
  go_wp2_with fail
  refine bodyPost_ret (v := ctV n0 n1 n2 n3) (results_cell_row (fn := Tryd.f35) (p := 2) (ty := 63) (by kernel_rfl) _ _ (w.heap.size + 1) 63 #[.int .i64 n0, .int .i64 n1, .int .i64 n2, .int .i64 n3] (0, 0) _ rfl (row_new _ (by simp)) Tryd.underlying63 rfl (by kernel_rfl)) rfl ?_
  exact ⟨rfl, Below.alloc (Below.alloc (Below.refl _ _) (Nat.le_refl _) _) (by simp) _⟩
theorem info_rr5 : (Tryd.prog.info? 72).map (fun i => (i.zero, i.size, i.bytes)) = some (some (.agg #[.string ⟨#[]⟩, .int .i64 0, .int .i64 0, .int .i64 0, .slice none 0 0]), 5, 64) := by kernel_rfl
theorem rr_cell1 (r : Rr) (a : Option Addr) (c : Nat) : ∀ u ∈ rrL r a c, u.oneCell' = true := fun u hu => by
  simp only [rrL, List.mem_cons, List.not_mem_nil, or_false] at hu
  rcases hu with rfl | rfl | rfl | rfl | rfl <;> rfl
/-- Rows of records, one behind the other; their data lie in the world w0. -/
def RwD (w0 : World) (xs : List Value) (M : List Rr) : Prop := xs.length = M.length * 5 ∧ ∀ j (h : j < M.length), ∃ a c, Dat w0 a c (M[j]).d ∧ ∀ i, i < 5 → xs[j * 5 + i]? = (rrL M[j] a c)[i]?
theorem RwD.nil (w0 : World) : RwD w0 [] [] := ⟨rfl, fun j h => absurd h (by simp)⟩
theorem RwD.app {w0 : World} {xs ys : List Value} {M L : List Rr} (h : RwD w0 xs M) (k : RwD w0 ys L) : RwD w0 (xs ++ ys) (M ++ L) := by
  refine ⟨by rw [List.length_append, List.length_append, h.1, k.1, Nat.add_mul], fun j hj => ?_⟩
  rw [List.length_append] at hj
  by_cases hjl : j < M.length
  · obtain ⟨a, c, h1, h2⟩ := h.2 j hjl
    rw [List.getElem_append_left hjl]
    refine ⟨a, c, h1, fun i hi => ?_⟩
    rw [List.getElem?_append_left (by rw [h.1]; omega)]
    exact h2 i hi
  · obtain ⟨a, c, h1, h2⟩ := k.2 (j - M.length) (by omega)
    rw [List.getElem_append_right (by omega)]
    refine ⟨a, c, h1, fun i hi => ?_⟩
    rw [List.getElem?_append_right (by rw [h.1]; omega), h.1]
    have e : j * 5 + i - M.length * 5 = (j - M.length) * 5 + i := by omega
    rw [e]
    exact h2 i hi
theorem RwD.one {w0 : World} {ys : List Value} {L : List Rr} (h : RwD w0 ys L) : ∀ u ∈ ys, u.oneCell' = true := fun u hu => by
  obtain ⟨j, hj, rfl⟩ := List.mem_iff_getElem.1 hu
  have hl := h.1
  obtain ⟨a, c, -, h2⟩ := h.2 (j / 5) (by omega)
  have h3 := h2 (j % 5) (by omega)
  rw [show j / 5 * 5 + j % 5 = j by omega, List.getElem?_eq_getElem hj] at h3
  exact rr_cell1 _ a c _ (List.mem_of_getElem? h3.symm)
theorem Rs.cells {w0 : World} {A : Option Addr} {L : List Rr} (h : Rs w0 A L) (hl : 0 < L.length) : ∃ ad ys, A = some ad ∧ RwD w0 ys L ∧ ∀ W, Below w0.heap.size w0 W → ∀ (j : Nat) u, ys[j]? = some u → W.cell? (ad.add j) = some u := by
  obtain ⟨g, off, hA, hc⟩ := h hl
  obtain ⟨ys, hys⟩ : ∃ ys, ys = (List.range (L.length * 5)).map (fun k => (w0.cell? ⟨g, off + k, none⟩).getD undef) := ⟨_, rfl⟩
  have key : ∀ j (hj : j < L.length) i, i < 5 → ∃ x, w0.cell? ⟨g, off + (j * 5 + i), none⟩ = some x ∧ ys[j * 5 + i]? = some x := fun j hj i hi => by
    obtain ⟨a, c, D, R⟩ := hc j hj
    have hx : (rrL L[j] a c)[i]? = some ((rrL L[j] a c)[i]'(by simpa [rrL] using hi)) := List.getElem?_eq_getElem _
    have hr := R i _ hx
    rw [Nat.add_assoc] at hr
    refine ⟨_, hr, ?_⟩
    rw [hys, List.getElem?_map, List.getElem?_range (by omega)]
    simp only [Option.map_some, hr, Option.getD_some]
  refine ⟨_, ys, hA, ⟨by rw [hys]; simp, fun j hj => ?_⟩, fun W hW j u hu => ?_⟩
  · obtain ⟨a, c, D, R⟩ := hc j hj
    refine ⟨a, c, D, fun i hi => ?_⟩
    obtain ⟨x, h1, h2⟩ := key j hj i hi
    have hx : (rrL L[j] a c)[i]? = some ((rrL L[j] a c)[i]'(by simpa [rrL] using hi)) := List.getElem?_eq_getElem _
    have hr := R i _ hx
    rw [Nat.add_assoc, h1] at hr
    rw [h2, hx]
    exact hr
  · have hjl : j < L.length * 5 := by
      have := (List.getElem?_eq_some_iff.1 hu).1
      rw [hys] at this
      simpa using this
    obtain ⟨x, h1, h2⟩ := key (j / 5) (by omega) (j % 5) (by omega)
    rw [show j / 5 * 5 + j % 5 = j by omega] at h1 h2
    rw [hu] at h2
    injection h2 with h2
    subst h2
    rw [Addr.add_lit]
    exact cell_on h1 hW
theorem run_append_nilQ {w : World} {B n : Nat} {v : Value} {xs : List Value} (ty : TypeId) (c : Nat) (hown : w.ownsRow B 72 5 v n xs) : (Builtin.append_ #[25, 25] ty #[v, .slice none 0 c]).run Tryd.prog w = .ok v w := by
  obtain ⟨i0, hi, hz0, hz1, hz2⟩ := info_parts info_rr5
  rcases hown.2 with ⟨rfl, _⟩ | ⟨g, cap, cur, rfl, _, _, hc, _⟩
  · simp [Builtin.append_, run_underlying Tryd.underlying25, sizeOf, typeInfo, hi, Builtin.lenOf, Builtin.firstCells]
  · simp [Builtin.append_, run_underlying Tryd.underlying25, sizeOf, typeInfo, hi, Builtin.lenOf, Builtin.firstCells, hc, storeCells]
/-- A list of records that the call made, their data in the world w0. -/
def OwnD (w0 W : World) (B : Nat) (v : Value) (M : List Rr) : Prop := ∃ xs, W.ownsRow B 72 5 v M.length xs ∧ RwD w0 xs M
theorem OwnD.below {w0 W W' : World} {B : Nat} {v : Value} {M : List Rr} (h : OwnD w0 W B v M) (k : Below W.heap.size W W') : OwnD w0 W' B v M := by
  obtain ⟨xs, h1, h2⟩ := h
  exact ⟨xs, ownsRow_below h1 k (Nat.le_refl _), h2⟩
theorem run_appRs {w0 W : World} {B c : Nat} {v : Value} {M L : List Rr} {A : Option Addr} (h : OwnD w0 W B v M) (hR : Rs w0 A L) (hB : Below w0.heap.size w0 W) (hlen : (M.length + L.length) * 64 ≤ 140737488355328) (hb : B ≤ W.heap.size) :
    ∃ v' W', (Builtin.append_ #[25, 25] 25 #[v, .slice A L.length c]).run Tryd.prog W = .ok v' W' ∧ OwnD w0 W' B v' (M ++ L) ∧ W.grownBy W' v.ownBlock := by
  obtain ⟨i0, hi, hz0, hz1, hz2⟩ := info_parts info_rr5
  obtain ⟨xs, o1, r1⟩ := h
  have go : ∀ (ad : Addr) (ys : List Value), RwD w0 ys L → (∀ (j : Nat) u, ys[j]? = some u → W.cell? (ad.add j) = some u) → ∃ v' W', (Builtin.append_ #[25, 25] 25 #[v, .slice (some ad) L.length c]).run Tryd.prog W = .ok v' W' ∧ OwnD w0 W' B v' (M ++ L) ∧ W.grownBy W' v.ownBlock := fun ad ys hy hc => by
    obtain ⟨v', W', hr, h3, h4, -, -⟩ := run_append_own_at (P := Tryd.prog) W B 25 25 72 i0 (.agg #[.string ⟨#[]⟩, .int .i64 0, .int .i64 0, .int .i64 0, .slice none 0 0]) 5 64 Tryd.underlying25 hi hz0 hz1 hz2 rfl (by decide) v M.length xs o1 ad L.length c ys hy.1 hc hy.one (by unfold maxLen; omega) hlen hb
    exact ⟨v', W', hr, ⟨xs ++ ys, by rw [List.length_append]; exact h3, r1.app hy⟩, h4⟩
  rcases Nat.eq_zero_or_pos L.length with h0 | h0
  · obtain rfl : L = [] := List.length_eq_zero_iff.1 h0
    cases A with
    | none => exact ⟨v, W, run_append_nilQ _ c o1, ⟨xs, by simpa using o1, by simpa using r1⟩, ⟨rfl, rfl, rfl, Nat.le_refl _, fun _ _ _ => rfl⟩⟩
    | some ad => exact go ad [] (RwD.nil w0) (fun j u hu => by simp at hu)
  · obtain ⟨ad, ys, rfl, hy, hc⟩ := hR.cells h0
    exact go ad ys hy (hc W hB)
/-- The j-th record of such a list. -/
theorem OwnD.at {w0 W : World} {B : Nat} {v : Value} {M : List Rr} (h : OwnD w0 W B v M) {j : Nat} (hj : j < M.length) : ∃ g c a d, v = .slice (some ⟨g, 0, none⟩) M.length c ∧ B ≤ g ∧ W.rangeAt g (j * 5) (rrL M[j] a d) ∧ Dat w0 a d (M[j]).d := by
  obtain ⟨xs, o, r⟩ := h
  obtain ⟨a, d, h1, h2⟩ := r.2 j hj
  rcases o.2 with ⟨h4, h5⟩ | ⟨g, cap, cur, h4, hb, hh, hc, hm, hsz, ht⟩
  · omega
  · refine ⟨g, cap, a, d, h4, hb, fun i v hi => ?_, h1⟩
    obtain ⟨hil, _⟩ := List.getElem?_eq_some_iff.1 hi
    have hi5 : i < 5 := hil
    have h3 := h2 i hi5
    rw [cell_of_row _ g (j * 5 + i) _ _ _ hh]
    rw [hi, ← ht, List.getElem?_take_of_lt (by have := Nat.mul_le_mul_right 5 (show j + 1 ≤ M.length by omega); omega)] at h3
    simpa using h3
theorem OwnD.form {w0 W : World} {B : Nat} {v : Value} {M : List Rr} (h : OwnD w0 W B v M) : ∃ A c, v = .slice A M.length c ∧ (∀ p, A = some p → B ≤ p.block ∧ p.block < W.heap.size) := by
  obtain ⟨xs, o, r⟩ := h
  rcases o.2 with ⟨h4, h5⟩ | ⟨g, cap, cur, h4, hb, hh, hc, hm, hsz, ht⟩
  · exact ⟨none, 0, by rw [h4, h5], fun p hp => by cases hp⟩
  · exact ⟨_, cap, h4, fun p hp => by injection hp with hp; subst hp; exact ⟨hb, (Array.getElem?_eq_some_iff.1 hh).1⟩⟩
/-- Where 'all' stands. -/
structure AJ (w0 wd : World) (C : Array Value) (L1 L2 L3 : List Rr) (D : Nat → Option Value) (W : World) : Prop where
  bx : W.heap[w0.heap.size]? = some (.cells C 27 (0, 0))
  be : Below w0.heap.size w0 W
  bd : Below wd.heap.size wd W
  s0 : ∀ x, D 0 = some x → D 3 = none → OwnD wd W (w0.heap.size + 1) x []
  s1 : ∀ x, D 3 = some x → D 6 = none → OwnD wd W (w0.heap.size + 1) x L1
  s2 : ∀ x, D 6 = some x → D 9 = none → OwnD wd W (w0.heap.size + 1) x (L1 ++ L2)
  s3 : ∀ x, D 9 = some x → OwnD wd W (w0.heap.size + 1) x (L1 ++ L2 ++ L3)
  u0 : D 0 = none → D 3 = none
  u1 : D 3 = none → D 6 = none
  u2 : D 6 = none → D 9 = none
section
variable {w0 wd W : World} {C : Array Value} {L1 L2 L3 : List Rr} {D : Nat → Option Value}
theorem AJ.big (h : AJ w0 wd C L1 L2 L3 D W) : w0.heap.size + 1 ≤ W.heap.size := (Array.getElem?_eq_some_iff.1 h.bx).1
theorem AJ.start (hb : W.heap[w0.heap.size]? = some (.cells C 27 (0, 0))) (k : Below w0.heap.size w0 W) (kd : Below wd.heap.size wd W) : AJ w0 wd C L1 L2 L3 (fun _ => none) W :=
  ⟨hb, k, kd, fun _ h => by (cases h), fun _ h => by (cases h), fun _ h => by (cases h), fun _ h => by (cases h), fun _ => rfl, fun _ => rfl, fun _ => rfl⟩
theorem AJ.pure (h : AJ w0 wd C L1 L2 L3 D W) {i : Nat} (v : Value) (hi : 0 ≠ i ∧ 3 ≠ i ∧ 6 ≠ i ∧ 9 ≠ i) : AJ w0 wd C L1 L2 L3 (updD D i v) W := by
  obtain ⟨i1, i2, i3, i4⟩ := hi
  obtain ⟨h1, h2, hd, h3, h4, h5, h6, h7, h8, h9⟩ := h
  refine ⟨h1, h2, hd, ?_, ?_, ?_, ?_, ?_, ?_, ?_⟩
  · simpa only [updD_ne i1, updD_ne i2] using h3
  · simpa only [updD_ne i2, updD_ne i3] using h4
  · simpa only [updD_ne i3, updD_ne i4] using h5
  · simpa only [updD_ne i4] using h6
  · simpa only [updD_ne i1, updD_ne i2] using h7
  · simpa only [updD_ne i2, updD_ne i3] using h8
  · simpa only [updD_ne i3, updD_ne i4] using h9
theorem AJ.build (h : AJ w0 wd C L1 L2 L3 D W) : AJ w0 wd C L1 L2 L3 (updD D 0 (.slice (some ⟨W.heap.size, 0, none⟩) 0 0)) (W.alloc (.cells #[] 72)) := by
  have hb := h.big
  have k : Below W.heap.size W (W.alloc (.cells #[] 72)) := Below.alloc (Below.refl _ _) (Nat.le_refl _) _
  obtain ⟨h1, h2, hd, h3, h4, h5, h6, h7, h8, h9⟩ := h
  refine ⟨row_old _ h1, Below.trans h2 (k.mono h2.size), Below.trans hd (k.mono hd.size), ?_, ?_, ?_, ?_, ?_, ?_, ?_⟩
  · intro x hx _
    obtain rfl := Option.some.inj (updD_eq.symm.trans hx)
    exact ⟨[], ⟨rfl, .inr ⟨_, 0, #[], rfl, hb, row_new _ rfl, Nat.le_refl _, by simp [maxLen], rfl, rfl⟩⟩, RwD.nil _⟩
  · intro x hx hn
    rw [updD_ne (by decide)] at hx hn
    exact (h4 x hx hn).below k
  · intro x hx hn
    rw [updD_ne (by decide)] at hx hn
    exact (h5 x hx hn).below k
  · intro x hx
    rw [updD_ne (by decide)] at hx
    exact (h6 x hx).below k
  · intro e; rw [updD_eq] at e; cases e
  · rw [updD_ne (by decide), updD_ne (by decide)]; exact h8
  · rw [updD_ne (by decide), updD_ne (by decide)]; exact h9
theorem AJ.app3 {x : Value} {A : Option Addr} {c : Nat} (h : AJ w0 wd C L1 L2 L3 D W) (hno : D 3 = none) (hx : D 0 = some x) (hb : wd.heap.size ≤ w0.heap.size) (hR : Rs wd A L1) (hlen : (([] : List Rr).length + L1.length) * 64 ≤ 140737488355328) : ∃ v' W', (Builtin.append_ #[25, 25] 25 #[x, .slice A L1.length c]).run Tryd.prog W = .ok v' W' ∧ AJ w0 wd C L1 L2 L3 (updD D 3 v') W' := by
  have ho := h.s0 x hx hno
  obtain ⟨v', W', hr, o', hg⟩ := run_appRs (c := c) ho hR h.bd hlen h.big
  have hlt : ∀ k, x.ownBlock = some k → w0.heap.size + 1 ≤ k := fun k hk => by
    obtain ⟨xs, o, -⟩ := ho
    exact (o.lt k hk).1
  refine ⟨v', W', hr, ?_⟩
  obtain ⟨h1, h2, hd, h3, h4, h5, h6, h7, h8, h9⟩ := h
  refine ⟨(hg.block _ (Array.getElem?_eq_some_iff.1 h1).1 (fun e => by have := hlt _ e.symm; omega)).trans h1, Below.grown h2 hg h2.size (fun k hk => by have := hlt k hk; omega), Below.grown hd hg hd.size (fun k hk => by have := hlt k hk; omega), ?_, ?_, ?_, ?_, ?_, ?_, ?_⟩
  · intro y hy e; rw [updD_eq] at e; cases e
  · intro y hy _; obtain rfl := Option.some.inj (updD_eq.symm.trans hy); exact o'
  · intro y hy _; rw [updD_ne (by decide), h8 hno] at hy; cases hy
  · intro y hy; rw [updD_ne (by decide), h9 (h8 hno)] at hy; cases hy
  · intro e; rw [updD_ne (by decide), hx] at e; cases e
  · intro e; rw [updD_eq] at e; cases e
  · rw [updD_ne (by decide), updD_ne (by decide)]; exact h9
theorem AJ.app6 {x : Value} {A : Option Addr} {c : Nat} (h : AJ w0 wd C L1 L2 L3 D W) (hno : D 6 = none) (hx : D 3 = some x) (hb : wd.heap.size ≤ w0.heap.size) (hR : Rs wd A L2) (hlen : ((L1 : List Rr).length + L2.length) * 64 ≤ 140737488355328) : ∃ v' W', (Builtin.append_ #[25, 25] 25 #[x, .slice A L2.length c]).run Tryd.prog W = .ok v' W' ∧ AJ w0 wd C L1 L2 L3 (updD D 6 v') W' := by
  have ho := h.s1 x hx hno
  obtain ⟨v', W', hr, o', hg⟩ := run_appRs (c := c) ho hR h.bd hlen h.big
  have hlt : ∀ k, x.ownBlock = some k → w0.heap.size + 1 ≤ k := fun k hk => by
    obtain ⟨xs, o, -⟩ := ho
    exact (o.lt k hk).1
  refine ⟨v', W', hr, ?_⟩
  obtain ⟨h1, h2, hd, h3, h4, h5, h6, h7, h8, h9⟩ := h
  refine ⟨(hg.block _ (Array.getElem?_eq_some_iff.1 h1).1 (fun e => by have := hlt _ e.symm; omega)).trans h1, Below.grown h2 hg h2.size (fun k hk => by have := hlt k hk; omega), Below.grown hd hg hd.size (fun k hk => by have := hlt k hk; omega), ?_, ?_, ?_, ?_, ?_, ?_, ?_⟩
  · intro y hy e; rw [updD_ne (by decide), hx] at e; cases e
  · intro y hy e; rw [updD_eq] at e; cases e
  · intro y hy _; obtain rfl := Option.some.inj (updD_eq.symm.trans hy); exact o'
  · intro y hy; rw [updD_ne (by decide), h9 hno] at hy; cases hy
  · rw [updD_ne (by decide), updD_ne (by decide)]; exact h7
  · intro e; rw [updD_ne (by decide), hx] at e; cases e
  · intro e; rw [updD_eq] at e; cases e
theorem AJ.app9 {x : Value} {A : Option Addr} {c : Nat} (h : AJ w0 wd C L1 L2 L3 D W) (hno : D 9 = none) (hx : D 6 = some x) (hb : wd.heap.size ≤ w0.heap.size) (hR : Rs wd A L3) (hlen : (((L1 ++ L2) : List Rr).length + L3.length) * 64 ≤ 140737488355328) : ∃ v' W', (Builtin.append_ #[25, 25] 25 #[x, .slice A L3.length c]).run Tryd.prog W = .ok v' W' ∧ AJ w0 wd C L1 L2 L3 (updD D 9 v') W' := by
  have ho := h.s2 x hx hno
  obtain ⟨v', W', hr, o', hg⟩ := run_appRs (c := c) ho hR h.bd hlen h.big
  have hlt : ∀ k, x.ownBlock = some k → w0.heap.size + 1 ≤ k := fun k hk => by
    obtain ⟨xs, o, -⟩ := ho
    exact (o.lt k hk).1
  refine ⟨v', W', hr, ?_⟩
  obtain ⟨h1, h2, hd, h3, h4, h5, h6, h7, h8, h9⟩ := h
  refine ⟨(hg.block _ (Array.getElem?_eq_some_iff.1 h1).1 (fun e => by have := hlt _ e.symm; omega)).trans h1, Below.grown h2 hg h2.size (fun k hk => by have := hlt k hk; omega), Below.grown hd hg hd.size (fun k hk => by have := hlt k hk; omega), ?_, ?_, ?_, ?_, ?_, ?_, ?_⟩
  · intro y hy e; rw [updD_ne (by decide)] at e; exact absurd (h8 e) (by rw [hx]; simp)
  · intro y hy e; rw [updD_ne (by decide), hx] at e; cases e
  · intro y hy e; rw [updD_eq] at e; cases e
  · intro y hy; obtain rfl := Option.some.inj (updD_eq.symm.trans hy); exact o'
  · rw [updD_ne (by decide), updD_ne (by decide)]; exact h7
  · rw [updD_ne (by decide), updD_ne (by decide)]; exact h8
  · intro e; rw [updD_ne (by decide), hx] at e; cases e
end
def SEA (w : World) (a1 a2 a3 : Option Addr) (n1 n2 n3 c1 c2 c3 : Nat) : Nat → Value → Prop
  | 1, v => v = .pointer (some ⟨w.heap.size, 9, none⟩)
  | 2, v => v = .slice a1 n1 c1
  | 4, v => v = .pointer (some ⟨w.heap.size, 10, none⟩)
  | 5, v => v = .slice a2 n2 c2
  | 7, v => v = .pointer (some ⟨w.heap.size, 11, none⟩)
  | 8, v => v = .slice a3 n3 c3
  | _, _ => True

set_option maxHeartbeats 2000000 in
set_option maxRecDepth 100000 in
theorem dall_any (m : Msg) (v : MV) (wd w : World) (hB0 : Below wd.heap.size wd w) (hM : Ms wd m v) (h1 : m.an.length ≤ 65535) (h2 : m.au.length ≤ 65535) (h3 : m.ad.length ≤ 65535) : Calls Tryd.prog 38 #[.agg (msL m v).toArray] w fun e w' => ∃ u, e = .returned u ∧ OwnD wd w' (w.heap.size + 1) u m.rs ∧ Below w.heap.size w w' := by
  obtain ⟨C, hC⟩ : ∃ C, C = (msL m v).toArray := ⟨_, rfl⟩
  obtain ⟨a1, ha1⟩ : ∃ a, a = v.a1 := ⟨_, rfl⟩
  obtain ⟨a2, ha2⟩ : ∃ a, a = v.a2 := ⟨_, rfl⟩
  obtain ⟨a3, ha3⟩ : ∃ a, a = v.a3 := ⟨_, rfl⟩
  obtain ⟨c1, hc1⟩ : ∃ a, a = v.c1 := ⟨_, rfl⟩
  obtain ⟨c2, hc2⟩ : ∃ a, a = v.c2 := ⟨_, rfl⟩
  obtain ⟨c3, hc3⟩ : ∃ a, a = v.c3 := ⟨_, rfl⟩
  obtain ⟨L1, hL1⟩ : ∃ a, a = m.an := ⟨_, rfl⟩
  obtain ⟨L2, hL2⟩ : ∃ a, a = m.au := ⟨_, rfl⟩
  obtain ⟨L3, hL3⟩ : ∃ a, a = m.ad := ⟨_, rfl⟩
  obtain ⟨n1, hn1⟩ : ∃ n, n = L1.length := ⟨_, rfl⟩
  obtain ⟨n2, hn2⟩ : ∃ n, n = L2.length := ⟨_, rfl⟩
  obtain ⟨n3, hn3⟩ : ∃ n, n = L3.length := ⟨_, rfl⟩
  have R1 := Lib.hid hM.an
  have R2 := Lib.hid hM.au
  have R3 := Lib.hid hM.ad
  rw [← ha1, ← hL1] at R1
  rw [← ha2, ← hL2] at R2
  rw [← ha3, ← hL3] at R3
  have HRS : Hid (m.rs = L1 ++ L2 ++ L3) := Lib.hid (by rw [hL1, hL2, hL3, List.append_assoc]; rfl)
  have F0 : ∀ W : World, W.heap[w.heap.size]? = some (.cells C 27 (0, 0)) → W.cell? ⟨w.heap.size, 9, none⟩ = some (.slice a1 n1 c1) ∧ W.cell? ⟨w.heap.size, 10, none⟩ = some (.slice a2 n2 c2) ∧ W.cell? ⟨w.heap.size, 11, none⟩ = some (.slice a3 n3 c3) := fun W h => by
    rw [hC] at h
    rw [hn1, hn2, hn3, hL1, hL2, hL3, ha1, ha2, ha3, hc1, hc2, hc3]
    exact (ms_cell h).2
  have F1 := Lib.hid (fun W h => (F0 W h).1)
  have F2 := Lib.hid (fun W h => (F0 W h).2.1)
  have F3 := Lib.hid (fun W h => (F0 W h).2.2)
  rw [← hL1] at h1
  rw [← hL2] at h2
  rw [← hL3] at h3
  have HL3 : Hid ((([] : List Rr).length + L1.length) * 64 ≤ 140737488355328) := Lib.hid (by simp; omega)
  have HL6 : Hid ((L1.length + L2.length) * 64 ≤ 140737488355328) := Lib.hid (by omega)
  have HL9 : Hid (((L1 ++ L2).length + L3.length) * 64 ≤ 140737488355328) := Lib.hid (by simp; omega)
  have J0 : Hid (AJ w wd C L1 L2 L3 (fun _ => none) (w.alloc (.cells C 27)).drew) := Lib.hid (AJ.start (row_new (w := w) _ rfl) (Below.drew (Below.alloc (Below.refl _ _) (Nat.le_refl _) _)) (Below.drew (Below.alloc hB0 hB0.size _)))
  have HBS := Lib.hid hB0.size
  have HN1 := Lib.hid hn1
  have HN2 := Lib.hid hn2
  have HN3 := Lib.hid hn3
  rw [HRS.out, ← hC]
  clear hB0 hM ha1 ha2 ha3 hc1 hc2 hc3 hL1 hL2 hL3 hn1 hn2 hn3 F0 h1 h2 h3 hC
  go_enter Tryd.func38, Tryd.ntmps38
  go_upto_region 1 with fail
  refine wp_region_laneJ 10 (by kernel_rfl) (by kernel_rfl) (by kernel_rfl) rfl (d := (fun i => 3 + i)) (S := SEA w a1 a2 a3 n1 n2 n3 c1 c2 c3) (J := AJ w wd C L1 L2 L3) (fun i j hi hj e => by omega) (fun i hi => by simp; omega) (J0.out) (fun i hi b D a' w' un hno hr => ?_) (fun V D w' hV hJ => ?_)
  · obtain ⟨_, o, ho, hall⟩ := mem_ready.1 hr
    have t1 : (a'.tmps[1]?).getD undef = .pointer (some ⟨w.heap.size, 0, none⟩) := slot_of ((un.old 1 (fun i _ => by omega)).trans rfl)
    match i, hi with
    | 0, _ =>
      obtain rfl := Option.some.inj ho
      refine ⟨_, rfl, rfl, ?_⟩
      clear ho hall hr 
      have IJ := un.inv
      clear un
      unfold Oper.wp
      go_simp
      exact ⟨_, rfl, trivial, IJ.build⟩
    | 1, _ =>
      obtain rfl := Option.some.inj ho
      refine ⟨_, rfl, rfl, ?_⟩
      clear ho hall hr 
      have PJ := fun v => un.inv.pure (i := 1) v (by decide)
      clear un
      unfold Oper.wp
      go_simp
      first | exact ⟨_, rfl, rfl⟩ | exact ⟨_, rfl, rfl, PJ _⟩
    | 2, _ =>
      obtain rfl := Option.some.inj ho
      have h1 := getD_both_true (hall ⟨1, .data⟩ (by simp) rfl)
      obtain ⟨v1, hD1, hv1, hr1⟩ := un.got 1 (by simp) h1
      obtain rfl := hr1
      have s1 := slot_of (j := 4) hv1
      have c := F1.out _ un.inv.bx
      refine ⟨_, rfl, rfl, ?_⟩
      clear ho hall hr hv1
      have PJ := fun v => un.inv.pure (i := 2) v (by decide)
      clear un
      unfold Oper.wp
      go_simp
      first | exact ⟨_, rfl, rfl⟩ | exact ⟨_, rfl, rfl, PJ _⟩
    | 3, _ =>
      obtain rfl := Option.some.inj ho
      have h0 := getD_both_true (hall ⟨0, .data⟩ (by simp) rfl)
      obtain ⟨v0, hD0, hv0, hr0⟩ := un.got 0 (by simp) h0
      have s0 := slot_of (j := 3) hv0
      have h2 := getD_both_true (hall ⟨2, .data⟩ (by simp) rfl)
      obtain ⟨v2, hD2, hv2, hr2⟩ := un.got 2 (by simp) h2
      obtain rfl := hr2
      have s2 := slot_of (j := 5) hv2
      refine ⟨_, rfl, rfl, ?_⟩
      clear ho hall hr hv0 hv2
      have IJ := un.inv
      obtain ⟨v9, w9, hrun, hJ9⟩ := IJ.app3 hno hD0 HBS.out R1.out (c := c1) HL3.out
      clear un
      exact wp_app3 rfl (.tmp 3) (.tmp 5) _ rfl _ _ (by simpa [Act.eval] using s0) (by rw [← HN1.out]; simpa [Act.eval] using s2) hrun ⟨_, rfl, trivial, hJ9⟩
    | 4, _ =>
      obtain rfl := Option.some.inj ho
      refine ⟨_, rfl, rfl, ?_⟩
      clear ho hall hr 
      have PJ := fun v => un.inv.pure (i := 4) v (by decide)
      clear un
      unfold Oper.wp
      go_simp
      first | exact ⟨_, rfl, rfl⟩ | exact ⟨_, rfl, rfl, PJ _⟩
    | 5, _ =>
      obtain rfl := Option.some.inj ho
      have h4 := getD_both_true (hall ⟨4, .data⟩ (by simp) rfl)
      obtain ⟨v4, hD4, hv4, hr4⟩ := un.got 4 (by simp) h4
      obtain rfl := hr4
      have s4 := slot_of (j := 7) hv4
      have c := F2.out _ un.inv.bx
      refine ⟨_, rfl, rfl, ?_⟩
      clear ho hall hr hv4
      have PJ := fun v => un.inv.pure (i := 5) v (by decide)
      clear un
      unfold Oper.wp
      go_simp
      first | exact ⟨_, rfl, rfl⟩ | exact ⟨_, rfl, rfl, PJ _⟩
    | 6, _ =>
      obtain rfl := Option.some.inj ho
      have h3 := getD_both_true (hall ⟨3, .data⟩ (by simp) rfl)
      obtain ⟨v3, hD3, hv3, hr3⟩ := un.got 3 (by simp) h3
      have s3 := slot_of (j := 6) hv3
      have h5 := getD_both_true (hall ⟨5, .data⟩ (by simp) rfl)
      obtain ⟨v5, hD5, hv5, hr5⟩ := un.got 5 (by simp) h5
      obtain rfl := hr5
      have s5 := slot_of (j := 8) hv5
      refine ⟨_, rfl, rfl, ?_⟩
      clear ho hall hr hv3 hv5
      have IJ := un.inv
      obtain ⟨v9, w9, hrun, hJ9⟩ := IJ.app6 hno hD3 HBS.out R2.out (c := c2) HL6.out
      clear un
      exact wp_app3 rfl (.tmp 6) (.tmp 8) _ rfl _ _ (by simpa [Act.eval] using s3) (by rw [← HN2.out]; simpa [Act.eval] using s5) hrun ⟨_, rfl, trivial, hJ9⟩
    | 7, _ =>
      obtain rfl := Option.some.inj ho
      refine ⟨_, rfl, rfl, ?_⟩
      clear ho hall hr 
      have PJ := fun v => un.inv.pure (i := 7) v (by decide)
      clear un
      unfold Oper.wp
      go_simp
      first | exact ⟨_, rfl, rfl⟩ | exact ⟨_, rfl, rfl, PJ _⟩
    | 8, _ =>
      obtain rfl := Option.some.inj ho
      have h7 := getD_both_true (hall ⟨7, .data⟩ (by simp) rfl)
      obtain ⟨v7, hD7, hv7, hr7⟩ := un.got 7 (by simp) h7
      obtain rfl := hr7
      have s7 := slot_of (j := 10) hv7
      have c := F3.out _ un.inv.bx
      refine ⟨_, rfl, rfl, ?_⟩
      clear ho hall hr hv7
      have PJ := fun v => un.inv.pure (i := 8) v (by decide)
      clear un
      unfold Oper.wp
      go_simp
      first | exact ⟨_, rfl, rfl⟩ | exact ⟨_, rfl, rfl, PJ _⟩
    | 9, _ =>
      obtain rfl := Option.some.inj ho
      have h6 := getD_both_true (hall ⟨6, .data⟩ (by simp) rfl)
      obtain ⟨v6, hD6, hv6, hr6⟩ := un.got 6 (by simp) h6
      have s6 := slot_of (j := 9) hv6
      have h8 := getD_both_true (hall ⟨8, .data⟩ (by simp) rfl)
      obtain ⟨v8, hD8, hv8, hr8⟩ := un.got 8 (by simp) h8
      obtain rfl := hr8
      have s8 := slot_of (j := 11) hv8
      refine ⟨_, rfl, rfl, ?_⟩
      clear ho hall hr hv6 hv8
      have IJ := un.inv
      obtain ⟨v9, w9, hrun, hJ9⟩ := IJ.app9 hno hD6 HBS.out R3.out (c := c3) HL9.out
      clear un
      exact wp_app3 rfl (.tmp 9) (.tmp 11) _ rfl _ _ (by simpa [Act.eval] using s6) (by rw [← HN3.out]; simpa [Act.eval] using s8) hrun ⟨_, rfl, trivial, hJ9⟩

  · have h9 := (hV 9 (by omega)).1
    simp only [putAll, Act.put, Nat.reduceAdd, List.setIfInBounds_toArray, List.set_cons_succ, List.set_cons_zero, List.drop_succ_cons, List.drop_zero]
    have HO := Lib.hid (hJ.s3 _ h9)
    have HBE := Lib.hid hJ.be
    generalize V 0 = y0, V 1 = y1, V 2 = y2, V 3 = y3, V 4 = y4, V 5 = y5, V 6 = y6, V 7 = y7, V 8 = y8, V 9 = y9 at *
    clear hV hJ h9
    go_wp2_with fail
    go_ret
    exact ⟨_, rfl, HO.out, HBE.out⟩
end Go.Proofs.YtknpkifhkefikaaDoor
