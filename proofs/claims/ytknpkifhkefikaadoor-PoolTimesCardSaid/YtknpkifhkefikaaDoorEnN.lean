/-
  Step laws for a region that draws its order: append onto a plain row, of bytes and of a string; the rows that the region reads stay.
-/
import Derived.Test.YtknpkifhkefikaaDoorGb
import Derived.Lib.AppendStr
import Derived.Deep.RegionHeld3
namespace Go.Proofs.YtknpkifhkefikaaDoor
open Go.RowKit
set_option linter.unusedVariables false
set_option maxRecDepth 100000

def OwnR (w : World) (base : Nat) (v : Value) (l : Bs) : Prop := w.ownsRow base 5 1 v l.length (l.map byteV)
theorem OwnR.ownB {w : World} {base : Nat} {v : Value} {l : Bs} (h : OwnR w base v l) : OwnB w base v l := OwnB.of (l := l) h rfl
theorem OwnR.below {w w' : World} {base : Nat} {v : Value} {l : Bs} (h : OwnR w base v l) (hB : Below w.heap.size w w') : OwnR w' base v l := ownsRow_below h hB (Nat.le_refl _)
theorem OwnR.drew {w : World} {base : Nat} {v : Value} {l : Bs} (h : OwnR w base v l) : OwnR w.drew base v l := h.below (Below.drew (Below.refl _ _))
theorem OwnR.alloc {w : World} {base : Nat} {v : Value} {l : Bs} (h : OwnR w base v l) (o : Obj) : OwnR (w.alloc o) base v l := h.below (Below.alloc (Below.refl _ _) (Nat.le_refl _) _)
theorem strCells_bs (s : Bs) : Lib.strCells (bs s) = s.map byteV := by simp [Lib.strCells, byteV]
theorem OwnR.made {w : World} {base : Nat} {l : Bs} {cs : Array Value} (hb : base ≤ w.heap.size) (hc : cs = (l.map byteV).toArray) (hl : l.length ≤ maxLen) : OwnR (w.alloc (.cells cs 5)) base (.slice (some ⟨w.heap.size, 0, none⟩) l.length l.length) l := by
  subst hc
  exact ⟨by simp, .inr ⟨w.heap.size, l.length, _, rfl, hb, row_new _ rfl, Nat.le_refl _, hl, by simp, by simp [List.take_of_length_le]⟩⟩
theorem news_bys {w : World} {ad : Addr} {l : Bs} (hB : Bys w (some ad) l) : ∀ j u, (l.map byteV)[j]? = some u → w.cell? (ad.add j) = some u := fun j u hj => by
  rw [List.getElem?_map] at hj
  cases hl : l[j]? with
  | none => rw [hl] at hj; cases hj
  | some b =>
    rw [hl] at hj
    injection hj with hj
    obtain ⟨hjl, hjb⟩ := List.getElem?_eq_some_iff.1 hl
    obtain ⟨g, off, hp, hcs⟩ := hB (by omega)
    injection hp with hp
    subst hp
    rw [show (⟨g, off, none⟩ : Addr).add j = ⟨g, off + j, none⟩ by unfold Addr.add; split <;> simp_all]
    rw [hcs j hjl, hjb, ← hj]
    rfl
theorem run_appR {w : World} {base : Nat} {v : Value} {l : Bs} (ty : TypeId) (hown : OwnR w base v l) (ad : Addr) (c m : Nat) (news : Bs) (hm : m = news.length) (hB : Bys w (some ad) news) (hlen : l.length + news.length ≤ 140737488355328) (hbase : base ≤ w.heap.size) :
    ∃ v' w', (Builtin.append_ #[29, 29] ty #[v, .slice (some ad) m c]).run Tryd.prog w = .ok v' w' ∧ OwnR w' base v' (l ++ news) ∧ w.grownBy w' v.ownBlock := by
  obtain ⟨i0, hi, hz0, hz1, hz2⟩ := info_parts info_u8
  obtain ⟨v', w', h0, h1, h2, _⟩ := run_append_own_at (P := Tryd.prog) w base 29 ty 5 i0 (.int .u8 0) 1 1 Tryd.underlying29 hi hz0 hz1 hz2 rfl (by decide) v l.length (l.map byteV) hown ad m c (news.map byteV) (by simp [hm]) (news_bys hB) (fun u hu => by obtain ⟨b, _, rfl⟩ := List.mem_map.1 hu; rfl) (by unfold maxLen; omega) (by omega) hbase
  exact ⟨v', w', h0, by unfold OwnR; rw [List.length_append, List.map_append, ← hm]; exact h1, h2⟩
theorem run_appS {w : World} {base : Nat} {v : Value} {l : Bs} (ty : TypeId) (hown : OwnR w base v l) (s : Bs) (hlen : l.length + s.length ≤ 140737488355328) (hbase : base ≤ w.heap.size) :
    ∃ v' w', (Builtin.append_ #[29, 9] ty #[v, .string (bs s)]).run Tryd.prog w = .ok v' w' ∧ OwnR w' base v' (l ++ s) ∧ w.grownBy w' v.ownBlock := by
  obtain ⟨i0, hi, hz0, hz1, hz2⟩ := info_parts info_u8
  obtain ⟨v', w', h0, h1, h2, _⟩ := Lib.run_append_own_string (P := Tryd.prog) w base 29 9 ty 5 i0 Tryd.underlying29 Tryd.underlying9 hi hz0 hz1 hz2 v l.length (l.map byteV) hown (bs s) (by rw [bs_size]; unfold maxLen; omega) (by rw [bs_size]; omega) hbase
  exact ⟨v', w', h0, by unfold OwnR; rw [List.length_append, List.map_append, ← strCells_bs, ← bs_size s]; exact h1, h2⟩
section
variable {ops : Array Oper} {o : Oper} {a : Act} {w : World} {K : Act → World → Prop} {Q : Exit → Act → World → Prop} {E : Prop}
theorem step_run (hgd : o.guard = none) (x y : Operand) (ts : Array TypeId) (ho : o.op = .call { callee := .builtin .append, args := #[x, y], argTypes := ts }) (u v : Value) (hs : a.eval x = u) (hx : a.eval y = v) {v' : Value} {w' : World}
    (hr : (Builtin.append_ ts o.type #[u, v]).run Tryd.prog w = .ok v' w') (h : K (a.put o.dst v') w') : if Region.wanted o (yielded ops a.tmps) = true then Oper.wp Tryd.prog o a w K Q else E := by
  have hw : Region.wanted o (yielded ops a.tmps) = true := by simp [Region.wanted, hgd]
  rw [if_pos hw]
  unfold Oper.wp execOp
  simp only [ho, resolve, invoke, builtin, Sem.run_bind, Sem.run_pure, Result.andThen_ok, List.map_toArray, List.map_cons, List.map_nil, hs, hx, hr]
  exact h
theorem step_app (hgd : o.guard = none) (x y : Operand) (ho : o.op = .call { callee := .builtin .append, args := #[x, y], argTypes := #[29, 29] }) (base : Nat) (v : Value) (l : Bs) (hs : a.eval x = v) (hown : OwnR w base v l)
    (ad : Addr) (m c : Nat) (hx : a.eval y = .slice (some ad) m c) (news : Bs) (hm : m = news.length) (hB : Bys w (some ad) news) (hlen : l.length + news.length ≤ 140737488355328) (hbase : base ≤ w.heap.size)
    (h : ∀ v' w', OwnR w' base v' (l ++ news) → w.grownBy w' v.ownBlock → K (a.put o.dst v') w') : if Region.wanted o (yielded ops a.tmps) = true then Oper.wp Tryd.prog o a w K Q else E := by
  obtain ⟨v', w', hr, h1, h2⟩ := run_appR o.type hown ad c m news hm hB hlen hbase
  exact step_run hgd x y _ ho _ _ hs hx hr (h v' w' h1 h2)
theorem step_str (hgd : o.guard = none) (x y : Operand) (ho : o.op = .call { callee := .builtin .append, args := #[x, y], argTypes := #[29, 9] }) (base : Nat) (v : Value) (l : Bs) (hs : a.eval x = v) (hown : OwnR w base v l)
    (s : Bs) (hx : a.eval y = .string (bs s)) (hlen : l.length + s.length ≤ 140737488355328) (hbase : base ≤ w.heap.size)
    (h : ∀ v' w', OwnR w' base v' (l ++ s) → w.grownBy w' v.ownBlock → K (a.put o.dst v') w') : if Region.wanted o (yielded ops a.tmps) = true then Oper.wp Tryd.prog o a w K Q else E := by
  obtain ⟨v', w', hr, h1, h2⟩ := run_appS o.type hown s hlen hbase
  exact step_run hgd x y _ ho _ _ hs hx hr (h v' w' h1 h2)
end
section
variable {ops : Array Oper} {rest : List Oper} {o : Oper} {a : Act} {w : World} {Q : Exit → Act → World → Prop}
theorem wpList_appR (hgd : o.guard = none) (x y : Operand) (ho : o.op = .call { callee := .builtin .append, args := #[x, y], argTypes := #[29, 29] }) (base : Nat) (v : Value) (l : Bs) (hs : a.eval x = v) (hown : OwnR w base v l)
    (A : Option Addr) (m c : Nat) (hx : a.eval y = .slice A m c) (news : Bs) (hm : m = news.length) (hB : Bys w A news) (hA : A = none → c = 0) (hlen : l.length + news.length ≤ 140737488355328) (hbase : base ≤ w.heap.size)
    (h : ∀ v' w', OwnR w' base v' (l ++ news) → w.grownBy w' v.ownBlock → wpList Tryd.prog ops Q rest (a.put o.dst v') w') : wpList Tryd.prog ops Q (o :: rest) a w := by
  refine wpList_plain hgd fun K hK => ?_
  cases A with
  | none =>
    have hn : news = [] := by
      rcases news with _ | ⟨b, r⟩
      · rfl
      · obtain ⟨g, off, hp, _⟩ := hB (by simp)
        cases hp
    subst hn
    obtain rfl := hA rfl
    obtain rfl : m = 0 := hm
    have hrun := run_append_nilB o.type hown.ownB
    unfold Oper.wp execOp
    simp only [ho, resolve, invoke, builtin, Sem.run_bind, Sem.run_pure, Result.andThen_ok, List.map_toArray, List.map_cons, List.map_nil, hs, hx, hrun]
    exact hK _ _ (h v w (by simpa using hown) (grown_refl _ _))
  | some ad =>
    obtain ⟨v', w', hr, h1, h2⟩ := run_appR o.type hown ad c m news hm hB hlen hbase
    unfold Oper.wp execOp
    simp only [ho, resolve, invoke, builtin, Sem.run_bind, Sem.run_pure, Result.andThen_ok, List.map_toArray, List.map_cons, List.map_nil, hs, hx, hr]
    exact hK _ _ (h v' w' h1 h2)
end

/-- A row that stays below the base; all that lies below the base stays. -/
structure BX (W0 : World) (base p : Nat) (C : Array Value) (T : TypeId) (w : World) : Prop where
  row : w.heap[p]? = some (.cells C T (0, 0))
  lt : p < base
  big : base ≤ w.heap.size
  bel : Below base W0 w
theorem BX.on {W0 : World} {base p : Nat} {C : Array Value} {T : TypeId} {w w' : World} (h : BX W0 base p C T w) (hB : Below w.heap.size w w') : BX W0 base p C T w' :=
  ⟨(hB.block _ (Array.getElem?_eq_some_iff.1 h.row).1).trans h.row, h.lt, Nat.le_trans h.big hB.size, Below.trans h.bel (hB.mono h.big)⟩
theorem BX.drew {W0 : World} {base p : Nat} {C : Array Value} {T : TypeId} {w : World} (h : BX W0 base p C T w) : BX W0 base p C T w.drew := h.on (Below.drew (Below.refl _ _))
theorem BX.alloc {W0 : World} {base p : Nat} {C : Array Value} {T : TypeId} {w : World} (h : BX W0 base p C T w) (o : Obj) : BX W0 base p C T (w.alloc o) := h.on (Below.alloc (Below.refl _ _) (Nat.le_refl _) _)
theorem BX.gr {W0 : World} {base p : Nat} {C : Array Value} {T : TypeId} {w w' : World} {v : Value} {l : Bs} (hg : w.grownBy w' v.ownBlock) (ho : OwnR w base v l) (h : BX W0 base p C T w) : BX W0 base p C T w' :=
  ⟨(hg.block _ (Array.getElem?_eq_some_iff.1 h.row).1 (fun e => by have := (ho.ownB.lt _ e.symm).1; have := h.lt; omega)).trans h.row, h.lt, Nat.le_trans h.big hg.size, h.bel.grown hg h.big (fun g e => (ho.ownB.lt g e).1)⟩
end Go.Proofs.YtknpkifhkefikaaDoor
