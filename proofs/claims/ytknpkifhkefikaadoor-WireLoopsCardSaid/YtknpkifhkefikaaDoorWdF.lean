/-
  Three texts made and appended, one behind the other, in a region that draws.
-/
import Derived.Test.YtknpkifhkefikaaDoorWb
import Derived.Test.YtknpkifhkefikaaDoorWk
namespace Go.Proofs.YtknpkifhkefikaaDoor
open Go.RowKit Go.Maps
set_option linter.unusedVariables false
set_option maxRecDepth 100000

theorem wp_app3 {o : Oper} {a : Act} {w : World} {K : Act → World → Prop} {Q : Exit → Act → World → Prop} (hgd : o.guard = none) (x y : Operand) (ts : Array TypeId) (ho : o.op = .call { callee := .builtin .append, args := #[x, y], argTypes := ts }) (u v : Value) (hs : a.eval x = u) (hx : a.eval y = v) {v' : Value} {w' : World}
    (hr : (Builtin.append_ ts o.type #[u, v]).run Tryd.prog w = .ok v' w') (h : K (a.put o.dst v') w') : Oper.wp Tryd.prog o a w K Q := by
  unfold Oper.wp execOp
  simp only [ho, resolve, invoke, builtin, Sem.run_bind, Sem.run_pure, Result.andThen_ok, List.map_toArray, List.map_cons, List.map_nil, hs, hx, hr]
  exact h
theorem slot_of {a : Act} {j : Nat} {v : Value} (h : a.tmps[j]? = some v) : (a.tmps[j]?).getD undef = v := by rw [h]; rfl
theorem getD_both_true {b : Array Bool} {k : Nat} (h : b.getD k false = true) : b.getD k true = true := by
  rcases Nat.lt_or_ge k b.size with h' | h'
  · simp [h'] at h ⊢; exact h
  · simp [Array.getElem?_eq_none h'] at h
/-- Where the chain stands, said by which of its operations have come up: texts at 7, 11, 15, appends at 8, 12, 16. -/
structure RJ (w0 : World) (base : Nat) (v0 : Value) (b t1 t2 t3 : Bs) (D : Nat → Option Value) (W : World) : Prop where
  ch : ∃ v z ts, CH w0 base v0 v z ts W ∧ (D 8 = none → v = v0 ∧ z = b) ∧ (∀ x, D 8 = some x → D 12 = none → v = x ∧ z = b ++ t1) ∧ (∀ x, D 12 = some x → D 16 = none → v = x ∧ z = b ++ t1 ++ t2) ∧ (∀ x, D 16 = some x → v = x ∧ z = b ++ t1 ++ t2 ++ t3)
    ∧ (∀ x, D 7 = some x → ∃ q c, x = .slice (some ⟨q, 0, none⟩) t1.length c ∧ (q, t1) ∈ ts) ∧ (∀ x, D 11 = some x → ∃ q c, x = .slice (some ⟨q, 0, none⟩) t2.length c ∧ (q, t2) ∈ ts) ∧ (∀ x, D 15 = some x → ∃ q c, x = .slice (some ⟨q, 0, none⟩) t3.length c ∧ (q, t3) ∈ ts)
  up1 : D 8 = none → D 12 = none
  up2 : D 12 = none → D 16 = none
section
variable {w0 W W' : World} {base : Nat} {v0 : Value} {b t1 t2 t3 : Bs} {D : Nat → Option Value}
theorem RJ.start (h : CH w0 base v0 v0 b [] W) : RJ w0 base v0 b t1 t2 t3 (fun _ => none) W :=
  ⟨⟨v0, b, [], h, fun _ => ⟨rfl, rfl⟩, fun _ h => by (cases h), fun _ h => by (cases h), fun _ h => by (cases h), fun _ h => by (cases h), fun _ h => by (cases h), fun _ h => by (cases h)⟩, fun _ => rfl, fun _ => rfl⟩
theorem RJ.chx (h : RJ w0 base v0 b t1 t2 t3 D W) : ∃ v z ts, CH w0 base v0 v z ts W := by
  obtain ⟨v, z, ts, h, _⟩ := h.ch
  exact ⟨v, z, ts, h⟩
theorem RJ.pure (h : RJ w0 base v0 b t1 t2 t3 D W) {i : Nat} (v : Value) (hi : 7 ≠ i ∧ 8 ≠ i ∧ 11 ≠ i ∧ 12 ≠ i ∧ 15 ≠ i ∧ 16 ≠ i) : RJ w0 base v0 b t1 t2 t3 (updD D i v) W := by
  obtain ⟨i1, i2, i3, i4, i5, i6⟩ := hi
  obtain ⟨h1, h2, h3⟩ := h
  refine ⟨?_, ?_, ?_⟩
  · simpa only [updD_ne i1, updD_ne i2, updD_ne i3, updD_ne i4, updD_ne i5, updD_ne i6] using h1
  · simpa only [updD_ne i1, updD_ne i2, updD_ne i3, updD_ne i4, updD_ne i5, updD_ne i6] using h2
  · simpa only [updD_ne i1, updD_ne i2, updD_ne i3, updD_ne i4, updD_ne i5, updD_ne i6] using h3
theorem RJ.call7 {k c : Nat} (h : RJ w0 base v0 b t1 t2 t3 D W) (hB : Below W.heap.size W W') (hk : W.heap.size ≤ k) (hk2 : k < W'.heap.size) (hb : Bys W' (some ⟨k, 0, none⟩) t1) {m : Nat} (hm : m = t1.length := by rfl) : RJ w0 base v0 b t1 t2 t3 (updD D 7 (.slice (some ⟨k, 0, none⟩) m c)) W' := by
  subst hm
  obtain ⟨⟨v, z, ts, hc, h2, h3, h4, h5, h6, h7, h8⟩, u1, u2⟩ := h
  generalize hx : Value.slice (some ⟨k, 0, none⟩) t1.length c = x
  refine ⟨⟨v, z, (k, t1) :: ts, hc.call hB hk hk2 hb, ?_, ?_, ?_, ?_, ?_, ?_, ?_⟩, ?_, ?_⟩
  · rw [updD_ne (by decide)]; exact h2
  · rw [updD_ne (by decide), updD_ne (by decide)]; exact h3
  · rw [updD_ne (by decide), updD_ne (by decide)]; exact h4
  · rw [updD_ne (by decide)]; exact h5
  · intro y hy; obtain rfl := Option.some.inj (updD_eq.symm.trans hy); exact ⟨k, c, hx.symm, List.mem_cons_self ..⟩
  · intro y hy; rw [updD_ne (by decide)] at hy; obtain ⟨q, c, e, m⟩ := h7 y hy; exact ⟨q, c, e, List.mem_cons_of_mem _ m⟩
  · intro y hy; rw [updD_ne (by decide)] at hy; obtain ⟨q, c, e, m⟩ := h8 y hy; exact ⟨q, c, e, List.mem_cons_of_mem _ m⟩
  · rw [updD_ne (by decide), updD_ne (by decide)]; exact u1
  · rw [updD_ne (by decide), updD_ne (by decide)]; exact u2
theorem RJ.call11 {k c : Nat} (h : RJ w0 base v0 b t1 t2 t3 D W) (hB : Below W.heap.size W W') (hk : W.heap.size ≤ k) (hk2 : k < W'.heap.size) (hb : Bys W' (some ⟨k, 0, none⟩) t2) {m : Nat} (hm : m = t2.length := by rfl) : RJ w0 base v0 b t1 t2 t3 (updD D 11 (.slice (some ⟨k, 0, none⟩) m c)) W' := by
  subst hm
  obtain ⟨⟨v, z, ts, hc, h2, h3, h4, h5, h6, h7, h8⟩, u1, u2⟩ := h
  generalize hx : Value.slice (some ⟨k, 0, none⟩) t2.length c = x
  refine ⟨⟨v, z, (k, t2) :: ts, hc.call hB hk hk2 hb, ?_, ?_, ?_, ?_, ?_, ?_, ?_⟩, ?_, ?_⟩
  · rw [updD_ne (by decide)]; exact h2
  · rw [updD_ne (by decide), updD_ne (by decide)]; exact h3
  · rw [updD_ne (by decide), updD_ne (by decide)]; exact h4
  · rw [updD_ne (by decide)]; exact h5
  · intro y hy; rw [updD_ne (by decide)] at hy; obtain ⟨q, c, e, m⟩ := h6 y hy; exact ⟨q, c, e, List.mem_cons_of_mem _ m⟩
  · intro y hy; obtain rfl := Option.some.inj (updD_eq.symm.trans hy); exact ⟨k, c, hx.symm, List.mem_cons_self ..⟩
  · intro y hy; rw [updD_ne (by decide)] at hy; obtain ⟨q, c, e, m⟩ := h8 y hy; exact ⟨q, c, e, List.mem_cons_of_mem _ m⟩
  · rw [updD_ne (by decide), updD_ne (by decide)]; exact u1
  · rw [updD_ne (by decide), updD_ne (by decide)]; exact u2
theorem RJ.call15 {k c : Nat} (h : RJ w0 base v0 b t1 t2 t3 D W) (hB : Below W.heap.size W W') (hk : W.heap.size ≤ k) (hk2 : k < W'.heap.size) (hb : Bys W' (some ⟨k, 0, none⟩) t3) {m : Nat} (hm : m = t3.length := by rfl) : RJ w0 base v0 b t1 t2 t3 (updD D 15 (.slice (some ⟨k, 0, none⟩) m c)) W' := by
  subst hm
  obtain ⟨⟨v, z, ts, hc, h2, h3, h4, h5, h6, h7, h8⟩, u1, u2⟩ := h
  generalize hx : Value.slice (some ⟨k, 0, none⟩) t3.length c = x
  refine ⟨⟨v, z, (k, t3) :: ts, hc.call hB hk hk2 hb, ?_, ?_, ?_, ?_, ?_, ?_, ?_⟩, ?_, ?_⟩
  · rw [updD_ne (by decide)]; exact h2
  · rw [updD_ne (by decide), updD_ne (by decide)]; exact h3
  · rw [updD_ne (by decide), updD_ne (by decide)]; exact h4
  · rw [updD_ne (by decide)]; exact h5
  · intro y hy; rw [updD_ne (by decide)] at hy; obtain ⟨q, c, e, m⟩ := h6 y hy; exact ⟨q, c, e, List.mem_cons_of_mem _ m⟩
  · intro y hy; rw [updD_ne (by decide)] at hy; obtain ⟨q, c, e, m⟩ := h7 y hy; exact ⟨q, c, e, List.mem_cons_of_mem _ m⟩
  · intro y hy; obtain rfl := Option.some.inj (updD_eq.symm.trans hy); exact ⟨k, c, hx.symm, List.mem_cons_self ..⟩
  · rw [updD_ne (by decide), updD_ne (by decide)]; exact u1
  · rw [updD_ne (by decide), updD_ne (by decide)]; exact u2
theorem RJ.app8 {x : Value} (h : RJ w0 base v0 b t1 t2 t3 D W) (hno : D 8 = none) (hx : D 7 = some x) (hl : (b).length + t1.length ≤ 140737488355328) : ∃ v' W', (Builtin.append_ #[29, 29] 29 #[v0, x]).run Tryd.prog W = .ok v' W' ∧ RJ w0 base v0 b t1 t2 t3 (updD D 8 v') W' := by
  obtain ⟨⟨v, z, ts, hc, h2, h3, h4, h5, h6, h7, h8⟩, u1, u2⟩ := h
  obtain ⟨rfl, rfl⟩ := h2 hno
  obtain ⟨q, c, rfl, hq⟩ := h6 _ hx
  obtain ⟨v', W', hr, o1, o2, o3, o4⟩ := run_appRF 29 hc.own hc.nn (some ⟨q, 0, none⟩) c _ t1 rfl (hc.tm _ hq).2.2.1 (fun e => by cases e) hl hc.big
  have hc' := hc.app (k := 0) o1 o2 o3 o4
  refine ⟨v', W', hr, ⟨v', _, ts, hc', ?_, ?_, ?_, ?_, ?_, ?_, ?_⟩, ?_, ?_⟩
  · intro e; rw [updD_eq] at e; cases e
  · intro y hy _; exact ⟨Option.some.inj (updD_eq.symm.trans hy), rfl⟩
  · intro y hy _; rw [updD_ne (by decide), u1 hno] at hy; cases hy
  · intro y hy; rw [updD_ne (by decide), u2 (u1 hno)] at hy; cases hy
  · rw [updD_ne (by decide)]; exact h6
  · rw [updD_ne (by decide)]; exact h7
  · rw [updD_ne (by decide)]; exact h8
  · intro e; rw [updD_eq] at e; cases e
  · rw [updD_ne (by decide), updD_ne (by decide)]; exact u2
theorem RJ.app12 {x : Value} {u : Value} (h : RJ w0 base v0 b t1 t2 t3 D W) (hno : D 12 = none) (hu : D 8 = some u) (hx : D 11 = some x) (hl : (b ++ t1).length + t2.length ≤ 140737488355328) : ∃ v' W', (Builtin.append_ #[29, 29] 29 #[u, x]).run Tryd.prog W = .ok v' W' ∧ RJ w0 base v0 b t1 t2 t3 (updD D 12 v') W' := by
  obtain ⟨⟨v, z, ts, hc, h2, h3, h4, h5, h6, h7, h8⟩, u1, u2⟩ := h
  obtain ⟨rfl, rfl⟩ := h3 _ hu hno
  obtain ⟨q, c, rfl, hq⟩ := h7 _ hx
  obtain ⟨v', W', hr, o1, o2, o3, o4⟩ := run_appRF 29 hc.own hc.nn (some ⟨q, 0, none⟩) c _ t2 rfl (hc.tm _ hq).2.2.1 (fun e => by cases e) hl hc.big
  have hc' := hc.app (k := 0) o1 o2 o3 o4
  refine ⟨v', W', hr, ⟨v', _, ts, hc', ?_, ?_, ?_, ?_, ?_, ?_, ?_⟩, ?_, ?_⟩
  · intro e; rw [updD_ne (by decide), hu] at e; cases e
  · intro y hy e; rw [updD_eq] at e; cases e
  · intro y hy _; exact ⟨Option.some.inj (updD_eq.symm.trans hy), rfl⟩
  · intro y hy; rw [updD_ne (by decide), u2 hno] at hy; cases hy
  · rw [updD_ne (by decide)]; exact h6
  · rw [updD_ne (by decide)]; exact h7
  · rw [updD_ne (by decide)]; exact h8
  · intro e; rw [updD_ne (by decide), hu] at e; cases e
  · intro e; rw [updD_eq] at e; cases e
theorem RJ.app16 {x : Value} {u : Value} (h : RJ w0 base v0 b t1 t2 t3 D W) (hno : D 16 = none) (hu : D 12 = some u) (hx : D 15 = some x) (hl : (b ++ t1 ++ t2).length + t3.length ≤ 140737488355328) : ∃ v' W', (Builtin.append_ #[29, 29] 29 #[u, x]).run Tryd.prog W = .ok v' W' ∧ RJ w0 base v0 b t1 t2 t3 (updD D 16 v') W' := by
  obtain ⟨⟨v, z, ts, hc, h2, h3, h4, h5, h6, h7, h8⟩, u1, u2⟩ := h
  obtain ⟨rfl, rfl⟩ := h4 _ hu hno
  obtain ⟨q, c, rfl, hq⟩ := h8 _ hx
  obtain ⟨v', W', hr, o1, o2, o3, o4⟩ := run_appRF 29 hc.own hc.nn (some ⟨q, 0, none⟩) c _ t3 rfl (hc.tm _ hq).2.2.1 (fun e => by cases e) hl hc.big
  have hc' := hc.app (k := 0) o1 o2 o3 o4
  refine ⟨v', W', hr, ⟨v', _, ts, hc', ?_, ?_, ?_, ?_, ?_, ?_, ?_⟩, ?_, ?_⟩
  · intro e; rw [updD_ne (by decide)] at e; exact absurd (u1 e) (by rw [hu]; simp)
  · intro y hy e; rw [updD_ne (by decide), hu] at e; cases e
  · intro y hy e; rw [updD_eq] at e; cases e
  · intro y hy; exact ⟨Option.some.inj (updD_eq.symm.trans hy), rfl⟩
  · rw [updD_ne (by decide)]; exact h6
  · rw [updD_ne (by decide)]; exact h7
  · rw [updD_ne (by decide)]; exact h8
  · rw [updD_ne (by decide), updD_ne (by decide)]; exact u1
  · intro e; rw [updD_ne (by decide), hu] at e; cases e
theorem RJ.done {x : Value} (h : RJ w0 base v0 b t1 t2 t3 D W) (hx : D 16 = some x) : ∃ ts, CH w0 base v0 x (b ++ t1 ++ t2 ++ t3) ts W := by
  obtain ⟨⟨v, z, ts, hc, h2, h3, h4, h5, h6, h7, h8⟩, u1, u2⟩ := h
  obtain ⟨rfl, rfl⟩ := h5 _ hx
  exact ⟨ts, hc⟩
end
end Go.Proofs.YtknpkifhkefikaaDoor
