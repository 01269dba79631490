/-
  One more record behind a row of records that the call made.
-/
import Derived.Test.YtbeggckkgaoacaaGrB
import Derived.Test.YtbeggckkgaoacaaLw
namespace Go.Proofs.Ytbeggckkgaoacaa
open Go.RowKit
set_option linter.unusedVariables false
set_option maxRecDepth 100000

noncomputable def appRr (v u : Value) (ty : TypeId) (w : World) : Result Next := ((Builtin.append_ #[22, 22] ty #[v, u]).run Try.prog w).andThen fun a w' => .ok (.value a) w'
theorem exec_appRr (ev : Operand → Value) (d : Option Tmp) (x y : Operand) (t : TypeId) (p : String) (f : Array Edge) (w : World) : (execOp ev { dst := d, op := .call { callee := .builtin .append, args := #[x, y], argTypes := #[22, 22] }, type := t, pos := p, after := f, guard := none }).run Try.prog w = appRr (ev x) (ev y) t w := by
  unfold execOp appRr
  simp only [resolve, invoke, builtin, Sem.run_bind, Sem.run_pure, Result.andThen_ok, List.map_toArray, List.map_cons, List.map_nil]
theorem rr_oneL (r : Rr) (a : Option Addr) (c : Nat) : ∀ u ∈ rrL r a c, u.oneCell' = true := fun u hu => by
  simp only [rrL, List.mem_cons, List.not_mem_nil, or_false] at hu
  rcases hu with rfl | rfl | rfl | rfl | rfl <;> rfl
theorem run_appG0 {w0 w : World} {B : Nat} {v : Value} {M : List Rr} (ty : TypeId) (h : OwnG w0 w B v M) (ad : Addr) (x : Rr) (a : Option Addr) (c : Nat) (hd : Dat w0 a c x.d) (hc : ∀ j u, (rrL x a c)[j]? = some u → w.cell? (ad.add j) = some u)
    (hlen : (M.length + 1) * 64 ≤ 140737488355328) (hbase : B ≤ w.heap.size) :
    ∃ v' w', (Builtin.append_ #[22, 22] ty #[v, .slice (some ad) 1 1]).run Try.prog w = .ok v' w' ∧ OwnG w0 w' B v' (M ++ [x]) ∧ w.grownBy w' v.ownBlock ∧ (v'.ownBlock = v.ownBlock ∨ v'.ownBlock = some w.heap.size) := by
  obtain ⟨i0, hi, hz0, hz1, hz2⟩ := info_parts info_r5
  obtain ⟨xs, o1, r1⟩ := h
  obtain ⟨v', w', hr, h3, h4, -, h6⟩ := run_append_own_at (P := Try.prog) w B 22 ty 39 i0 (.agg #[.string ⟨#[]⟩, .int .i64 0, .int .i64 0, .int .i64 0, .slice none 0 0]) 5 64 Try.underlying22 hi hz0 hz1 hz2 rfl (by decide) v M.length xs o1 ad 1 1 (rrL x a c) rfl hc (rr_oneL x a c) (by unfold maxLen; omega) (by omega) hbase
  exact ⟨v', w', hr, ⟨xs ++ rrL x a c, by simpa using h3, r1.snoc hd⟩, h4, h6⟩
theorem run_appG {w0 w : World} {B : Nat} {v : Value} {M : List Rr} (ty : TypeId) (h : OwnG w0 w B v M) (ad : Addr) (x : Rr) (a : Option Addr) (c : Nat) (hd : Dat w0 a c x.d) (hc : ∀ j u, (rrL x a c)[j]? = some u → w.cell? (ad.add j) = some u)
    (hlen : (M.length + 1) * 64 ≤ 140737488355328) (hbase : B ≤ w.heap.size) :
    ∃ v' w', appRr v (.slice (some ad) 1 1) ty w = .ok (.value v') w' ∧ OwnG w0 w' B v' (M ++ [x]) ∧ w.grownBy w' v.ownBlock ∧ (v'.ownBlock = v.ownBlock ∨ v'.ownBlock = some w.heap.size) := by
  obtain ⟨v', w', h1, h2⟩ := run_appG0 ty h ad x a c hd hc hlen hbase
  exact ⟨v', w', by unfold appRr; rw [h1]; rfl, h2⟩
section
variable {ops : Array Oper} {rest : List Oper} {o : Oper} {a : Act} {W : World} {Q : Exit → Act → World → Prop}
theorem wpList_snocG (hgd : o.guard = none) (s y : Operand) (ho : o.op = .call { callee := .builtin .append, args := #[s, y], argTypes := #[22, 22] })
    (w0 : World) (B : Nat) (v : Value) (M : List Rr) (hs : a.eval s = v) (hN : OwnG w0 W B v M) (hx : a.eval y = .slice (some ⟨W.heap.size, 0, none⟩) 1 1) (x : Rr) (A : Option Addr) (c : Nat) (C : Array Value) (hC : C = rrC x A c) (hd : Dat w0 A c x.d) (hlen : (M.length + 1) * 64 ≤ 140737488355328) (hb : B ≤ W.heap.size)
    (h : ∀ v' w', OwnG w0 w' B v' (M ++ [x]) → Below B W w' → wpList Try.prog ops Q rest (a.put o.dst v') w') :
    wpList Try.prog ops Q (o :: rest) a (W.alloc (.cells C 39)) := by
  have b0 : Below W.heap.size W (W.alloc (.cells C 39)) := Below.alloc (Below.refl _ _) (Nat.le_refl _) _
  refine wpList_plain hgd fun K hK => ?_
  obtain ⟨v', w', hr, h1, h2, h3⟩ := run_appG0 o.type (hN.keptE (grown_of_below b0 none) (elsewhere_none _ _)) ⟨W.heap.size, 0, none⟩ x A c hd (fun j u hj => by
    rw [Addr.add_lit, Nat.zero_add, cell_of_row _ _ j _ _ _ (row_new _ rfl), hC, rrC, List.getElem?_toArray]
    exact hj) hlen (by simp; omega)
  unfold Oper.wp execOp
  simp only [ho, resolve, invoke, builtin, Sem.run_bind, Sem.run_pure, Result.andThen_ok, List.map_toArray, List.map_cons, List.map_nil, hs, hx, hr]
  exact hK _ _ (h v' w' h1 (Below.grown (b0.mono hb) h2 (by simp; omega) (fun k hk => (hN.lt k hk).1)))
end
/-- A record loaded whole. -/
noncomputable def loadRr (v : Value) (w : World) : Result Next := ((Instr.loadAt 39 v).run Try.prog w).andThen fun a w' => .ok (.value a) w'
theorem exec_loadRr (ev : Operand → Value) (d : Option Tmp) (x : Operand) (t : TypeId) (p : String) (f : Array Edge) (gd : Option (Nat × Bool)) (w : World) : (execOp ev { dst := d, op := .load 39 x, type := t, pos := p, after := f, guard := gd }).run Try.prog w = loadRr (ev x) w := by
  unfold execOp loadRr
  simp only [Sem.run_bind, Sem.run_pure]
theorem loadRr_row {w1 : World} {g : Nat} {C : Array Value} (h : w1.heap[g]? = some (.cells C 39 (0, 0))) (hC : (Try.prog.info? 39).map (·.size) = some C.size) : loadRr (.pointer (some ⟨g, 0, none⟩)) w1 = .ok (.value (.agg C)) w1 := by
  unfold loadRr
  simp only [Instr.loadAt, Instr.sureAddr, Sem.run_bind, Sem.run_pure, Result.andThen_ok, run_loadVar_row w1 g 39 39 C (0, 0) _ h Try.underlying39 rfl hC]
end Go.Proofs.Ytbeggckkgaoacaa
