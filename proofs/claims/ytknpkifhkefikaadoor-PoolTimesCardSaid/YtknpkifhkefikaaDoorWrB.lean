/-
  A writer of messages in memory: its struct, its bytes, its map of places.
-/
import Derived.Test.YtknpkifhkefikaaDoorWrA
import Derived.Test.YtknpkifhkefikaaDoorEnN
import Derived.Test.YtknpkifhkefikaaDoorGc
import Derived.Test.YtknpkifhkefikaaDoorSp
import Derived.Maps.OwnSet
import Derived.Maps.AppendAt
import Derived.Lib.AppendStr
namespace Go.Proofs.YtknpkifhkefikaaDoor
open Go.RowKit Go.Maps
set_option linter.unusedVariables false
set_option maxRecDepth 100000

/-- Appends as the walk takes them in a region that draws. -/
noncomputable def appSv (v u : Value) (ty : TypeId) (w : World) : Result Next := ((Builtin.append_ #[29, 9] ty #[v, u]).run Tryd.prog w).andThen fun a w' => .ok (.value a) w'
theorem exec_appSv (ev : Operand → Value) (d : Option Tmp) (x y : Operand) (t : TypeId) (p : String) (f : Array Edge) (w : World) : (execOp ev { dst := d, op := .call { callee := .builtin .append, args := #[x, y], argTypes := #[29, 9] }, type := t, pos := p, after := f, guard := none }).run Tryd.prog w = appSv (ev x) (ev y) t w := by
  unfold execOp appSv
  simp only [resolve, invoke, builtin, Sem.run_bind, Sem.run_pure, Result.andThen_ok, List.map_toArray, List.map_cons, List.map_nil]
theorem appSv_of {v u : Value} {ty : TypeId} {w w' : World} {v' : Value} (h : (Builtin.append_ #[29, 9] ty #[v, u]).run Tryd.prog w = .ok v' w') : appSv v u ty w = .ok (.value v') w' := by
  unfold appSv
  rw [h]
  rfl
theorem exec_appBw (ev : Operand → Value) (d : Option Tmp) (x y : Operand) (t : TypeId) (p : String) (f : Array Edge) (w : World) : (execOp ev { dst := d, op := .call { callee := .builtin .append, args := #[x, y], argTypes := #[29, 29] }, type := t, pos := p, after := f, guard := none }).run Tryd.prog w = appB (ev x) (ev y) t w := by
  unfold execOp appB
  simp only [resolve, invoke, builtin, Sem.run_bind, Sem.run_pure, Result.andThen_ok, List.map_toArray, List.map_cons, List.map_nil]
theorem appS_fresh {w w' : World} {base : Nat} {v v' : Value} {l : Bs} (ty : TypeId) (hown : OwnR w base v l) (hv : v ≠ .slice none 0 0) (s : Bs) (hlen : l.length + s.length ≤ 140737488355328)
    (hr : (Builtin.append_ #[29, 9] ty #[v, .string (bs s)]).run Tryd.prog w = .ok v' w') : v'.ownBlock = v.ownBlock ∨ v'.ownBlock = some w.heap.size := by
  obtain ⟨i0, hi, hz0, hz1, hz2⟩ := info_parts info_u8
  rcases hown.2 with ⟨rfl, _⟩ | ⟨g, cap, cur, rfl, hbg, hg, hnc, hcm, hcs, htake⟩
  · exact absurd rfl hv
  · have hcs' : cur.size = cap := by simpa using hcs
    have hsz := bs_size s
    by_cases hroom : l.length + (bs s).size ≤ cap
    · have hr2 := Lib.run_append_room_string (P := Tryd.prog) w 29 9 ty 5 i0 Tryd.underlying29 Tryd.underlying9 hi hz1 g l.length cap cur hg (bs s) hroom (by omega)
      rw [hr2] at hr
      injection hr with h1 h2
      subst h1
      exact .inl rfl
    · have holds : ∀ j u, (l.map byteV)[j]? = some u → w.cell? ((⟨g, 0, none⟩ : Addr).add j) = some u := hown.cells (g := g) rfl
      have hr2 := Lib.run_append_grow_string (P := Tryd.prog) w 29 9 ty 5 i0 (.int .u8 0) Tryd.underlying29 Tryd.underlying9 hi hz0 ⟨g, 0, none⟩ l.length cap (l.map byteV) (by rw [hz1]; simp) holds (bs s) (by omega) (by omega) (by rw [hz2]; exact growslice_fits (by omega) (by omega))
      rw [hr2] at hr
      injection hr with h1 h2
      subst h1
      exact .inr rfl
/-- What owns a row owns it from its own block on. -/
theorem run_appSF {w : World} {base : Nat} {v : Value} {l : Bs} (ty : TypeId) (hown : OwnR w base v l) (hv : v ≠ .slice none 0 0) (s : Bs) (hlen : l.length + s.length ≤ 140737488355328) (hbase : base ≤ w.heap.size) :
    ∃ v' w', (Builtin.append_ #[29, 9] ty #[v, .string (bs s)]).run Tryd.prog w = .ok v' w' ∧ OwnR w' base v' (l ++ s) ∧ w.grownBy w' v.ownBlock ∧ (v'.ownBlock = v.ownBlock ∨ v'.ownBlock = some w.heap.size) ∧ v' ≠ .slice none 0 0 := by
  obtain ⟨i0, hi, hz0, hz1, hz2⟩ := info_parts info_u8
  obtain ⟨v', w', h0, h1, h2, h3⟩ := Lib.run_append_own_string (P := Tryd.prog) w base 29 9 ty 5 i0 Tryd.underlying29 Tryd.underlying9 hi hz0 hz1 hz2 v l.length (l.map byteV) hown (bs s) (by rw [bs_size]; unfold maxLen; omega) (by rw [bs_size]; omega) hbase
  exact ⟨v', w', h0, by unfold OwnR; rw [List.length_append, List.map_append, ← strCells_bs, ← bs_size s]; exact h1, h2, appS_fresh ty hown hv s hlen h0, fun e => hv (h3.1 e).1⟩
theorem run_appRF {w : World} {base : Nat} {v : Value} {l : Bs} (ty : TypeId) (hown : OwnR w base v l) (hv : v ≠ .slice none 0 0) (A : Option Addr) (c m : Nat) (news : Bs) (hm : m = news.length) (hB : Bys w A news) (hA : A = none → c = 0) (hlen : l.length + news.length ≤ 140737488355328) (hbase : base ≤ w.heap.size) :
    ∃ v' w', (Builtin.append_ #[29, 29] ty #[v, .slice A m c]).run Tryd.prog w = .ok v' w' ∧ OwnR w' base v' (l ++ news) ∧ w.grownBy w' v.ownBlock ∧ (v'.ownBlock = v.ownBlock ∨ v'.ownBlock = some w.heap.size) ∧ v' ≠ .slice none 0 0 := by
  cases A with
  | none =>
    have hn : news = [] := by
      rcases news with _ | ⟨b, r⟩
      · rfl
      · obtain ⟨g, off, hp, _⟩ := hB (by simp)
        cases hp
    subst hn
    obtain rfl := hA rfl
    obtain rfl : m = 0 := hm
    exact ⟨v, w, run_append_nilB ty hown.ownB, by simpa using hown, grown_refl _ _, .inl rfl, hv⟩
  | some ad =>
    obtain ⟨i0, hi, hz0, hz1, hz2⟩ := info_parts info_u8
    obtain ⟨v', w', h0, h1, h2, h3, h4⟩ := run_append_own_at (P := Tryd.prog) w base 29 ty 5 i0 (.int .u8 0) 1 1 Tryd.underlying29 hi hz0 hz1 hz2 rfl (by decide) v l.length (l.map byteV) hown ad m c (news.map byteV) (by simp [hm]) (news_bys hB) (fun u hu => by obtain ⟨b, _, rfl⟩ := List.mem_map.1 hu; rfl) (by unfold maxLen; omega) (by omega) hbase
    exact ⟨v', w', h0, by unfold OwnR; rw [List.length_append, List.map_append, ← hm]; exact h1, h2, h4, fun e => hv (h3.1 e).1⟩

section
variable {ops : Array Oper} {rest : List Oper} {o : Oper} {a : Act} {w : World} {Q : Exit → Act → World → Prop}
theorem wpList_appRF (hgd : o.guard = none) (x y : Operand) (ho : o.op = .call { callee := .builtin .append, args := #[x, y], argTypes := #[29, 29] }) (base : Nat) (v : Value) (l : Bs) (hs : a.eval x = v) (hown : OwnR w base v l) (hv : v ≠ .slice none 0 0)
    (A : Option Addr) (m c : Nat) (hx : a.eval y = .slice A m c) (news : Bs) (hm : m = news.length) (hB : Bys w A news) (hA : A = none → c = 0) (hlen : l.length + news.length ≤ 140737488355328) (hbase : base ≤ w.heap.size)
    (h : ∀ v' w', OwnR w' base v' (l ++ news) → w.grownBy w' v.ownBlock → (v'.ownBlock = v.ownBlock ∨ v'.ownBlock = some w.heap.size) → v' ≠ .slice none 0 0 → wpList Tryd.prog ops Q rest (a.put o.dst v') w') : wpList Tryd.prog ops Q (o :: rest) a w := by
  refine wpList_plain hgd fun K hK => ?_
  obtain ⟨v', w', hr, h1, h2, h3, h4⟩ := run_appRF o.type hown hv A c m news hm hB hA hlen hbase
  unfold Oper.wp execOp
  simp only [ho, resolve, invoke, builtin, Sem.run_bind, Sem.run_pure, Result.andThen_ok, List.map_toArray, List.map_cons, List.map_nil, hs, hx, hr]
  exact hK _ _ (h v' w' h1 h2 h3 h4)
theorem wpList_appSF (hgd : o.guard = none) (x y : Operand) (ho : o.op = .call { callee := .builtin .append, args := #[x, y], argTypes := #[29, 9] }) (base : Nat) (v : Value) (l : Bs) (hs : a.eval x = v) (hown : OwnR w base v l) (hv : v ≠ .slice none 0 0)
    (s : Bs) (hx : a.eval y = .string (bs s)) (hlen : l.length + s.length ≤ 140737488355328) (hbase : base ≤ w.heap.size)
    (h : ∀ v' w', OwnR w' base v' (l ++ s) → w.grownBy w' v.ownBlock → (v'.ownBlock = v.ownBlock ∨ v'.ownBlock = some w.heap.size) → v' ≠ .slice none 0 0 → wpList Tryd.prog ops Q rest (a.put o.dst v') w') : wpList Tryd.prog ops Q (o :: rest) a w := by
  refine wpList_plain hgd fun K hK => ?_
  obtain ⟨v', w', hr, h1, h2, h3, h4⟩ := run_appSF o.type hown hv s hlen hbase
  unfold Oper.wp execOp
  simp only [ho, resolve, invoke, builtin, Sem.run_bind, Sem.run_pure, Result.andThen_ok, List.map_toArray, List.map_cons, List.map_nil, hs, hx, hr]
  exact hK _ _ (h v' w' h1 h2 h3 h4)
end
theorem putP_self (P : Bs → Option Nat) (n : Bs) (a : Nat) : putP P n a n = some a := if_pos rfl
theorem putP_ne {P : Bs → Option Nat} {n q : Bs} {a : Nat} (h : q ≠ n) : putP P n a q = P q := if_neg h
/-- How a number reads. -/
def intE : Value → Option (DataW Unit × List MemPlace)
  | .int .i64 x => some (.lit (.int .i64 x), [])
  | _ => none
theorem intE_mk (x : Int) : intE (.int .i64 x) = some (.lit (.int .i64 x), []) := rfl
theorem intE_inv {v : Value} {x : Int} {ps : List MemPlace} (h : intE v = some (.lit (.int .i64 x), ps)) : v = .int .i64 x := by
  unfold intE at h
  split at h
  · injection h with h
    injection h with h1 h2
    simp at h1
    rw [h1]
  · cases h
theorem strKeyW : Keyed Tryd.prog 9 := string_keyed Tryd.underlying9
theorem keyStrW {n : Bs} (h : n.length ≤ maxLen) : keyOf Tryd.prog 9 (.string (bs n)) = some (.string n) := by
  have := WideMaps.keyOf_string_mk (P := Tryd.prog) Tryd.underlying9 (s := bs n) (by rw [bs_size]; exact h)
  simpa using this
theorem zeroIntW (w : World) : (zeroValue 3).run Tryd.prog w = .ok (.int .i64 0) w := by kernel_rfl

structure WtM (g m N : Nat) (v : Value) (base : Nat) (X : Wt) (w : World) : Prop where
  head : w.heap[g]? = some (.cells #[v, .map (some m)] 67 (0, 0))
  row : OwnR w base v X.b
  nn : v ≠ .slice none 0 0
  map : ∃ M : DataW Unit, w.ownsMap Tryd.prog 9 intE m N M ∧ (∀ n : Bs, M.atKey (.string n) (.lit (.int .i64 0)) = .lit (.int .i64 ((X.P n).getD 0 : Nat))) ∧ ∀ n : Bs, Maps.has M (.string n) = (X.P n).isSome
  ok : X.Ok
  bg : base ≤ g
  bm : base ≤ m
def Foot3 (g m : Nat) (v : Value) (k : Nat) : Prop := k = g ∨ k = m ∨ v.ownBlock = some k
section
variable {g m N base : Nat} {v : Value} {X : Wt} {w w' : World}
theorem WtM.form (h : WtM g m N v base X w) : ∃ gv c, v = .slice (some ⟨gv, 0, none⟩) X.b.length c ∧ base ≤ gv ∧ gv < w.heap.size ∧ X.b.length ≤ c ∧ c ≤ maxLen ∧ ∃ cur, w.heap[gv]? = some (.cells cur 5 (0, 0)) := by
  rcases h.row.2 with ⟨e, _⟩ | ⟨gv, c, cur, e, hb, hh, hc, hm, _⟩
  · exact absurd e h.nn
  · exact ⟨gv, c, e, hb, (Array.getElem?_eq_some_iff.1 hh).1, hc, hm, cur, hh⟩
theorem WtM.lt (h : WtM g m N v base X w) {k : Nat} (hk : Foot3 g m v k) : k < w.heap.size := by
  rcases hk with rfl | rfl | e
  · exact (Array.getElem?_eq_some_iff.1 h.head).1
  · obtain ⟨M, hM, _⟩ := h.map
    exact hM.lt
  · obtain ⟨gv, c, rfl, _, hl, _⟩ := h.form
    injection e with e
    subst e
    exact hl
theorem WtM.base_le (h : WtM g m N v base X w) {k : Nat} (hk : Foot3 g m v k) : base ≤ k := by
  rcases hk with rfl | rfl | e
  · exact h.bg
  · exact h.bm
  · obtain ⟨gv, c, rfl, hb, _⟩ := h.form
    injection e with e
    subst e
    exact hb
theorem WtM.big (h : WtM g m N v base X w) : base ≤ w.heap.size := Nat.le_of_lt (Nat.lt_of_le_of_lt h.bg (h.lt (.inl rfl)))
theorem WtM.gv (h : WtM g m N v base X w) : v.ownBlock ≠ some g := fun e => by
  obtain ⟨gv, c, rfl, _, _, _, _, cur, hc⟩ := h.form
  injection e with e
  subst e
  have := h.head
  rw [hc] at this
  injection this with this
  injection this with _ this
  cases this
theorem WtM.mv (h : WtM g m N v base X w) : v.ownBlock ≠ some m := fun e => by
  obtain ⟨gv, c, rfl, _, _, _, _, cur, hc⟩ := h.form
  injection e with e
  subst e
  obtain ⟨M, ⟨es, clock, hb, _⟩, _⟩ := h.map
  rw [hc] at hb
  cases hb
theorem WtM.gm (h : WtM g m N v base X w) : g ≠ m := fun e => by
  obtain ⟨M, ⟨es, clock, hb, _⟩, _⟩ := h.map
  have := h.head
  rw [e, hb] at this
  cases this
theorem WtM.kept (h : WtM g m N v base X w) (hk : ∀ k, Foot3 g m v k → w'.heap[k]? = w.heap[k]?) : WtM g m N v base X w' := by
  refine ⟨(hk g (.inl rfl)).trans h.head, ?_, h.nn, ?_, h.ok, h.bg, h.bm⟩
  · refine ⟨h.row.1, ?_⟩
    rcases h.row.2 with e | ⟨gv, c, cur, e, hb, hh, r⟩
    · exact .inl e
    · exact .inr ⟨gv, c, cur, e, hb, (hk gv (.inr (.inr (by rw [e]; rfl)))).trans hh, r⟩
  · obtain ⟨M, ⟨es, clock, hb, r⟩, h2⟩ := h.map
    exact ⟨M, ⟨es, clock, (hk m (.inr (.inl rfl))).trans hb, r⟩, h2⟩
theorem WtM.below (h : WtM g m N v base X w) (hB : Below w.heap.size w w') : WtM g m N v base X w' := h.kept fun k hk => hB.block k (h.lt hk)
theorem WtM.alloc (h : WtM g m N v base X w) (o : Obj) : WtM g m N v base X (w.alloc o) := h.below (Below.alloc (Below.refl _ _) (Nat.le_refl _) _)
theorem WtM.drew (h : WtM g m N v base X w) : WtM g m N v base X w.drew := h.below (Below.drew (Below.refl _ _))
theorem WtM.drewN (h : WtM g m N v base X w) (q : Nat) : WtM g m N v base X (w.drewN q) := h.below (below_drewN (Below.refl _ _) q)
theorem WtM.mod {S : Nat → Prop} (h : WtM g m N v base X w) (hM : Mod S w w') (hn : ∀ k, Foot3 g m v k → ¬ S k) : WtM g m N v base X w' := h.kept fun k hk => hM.block k (h.lt hk) (hn k hk)
theorem WtM.cells (h : WtM g m N v base X w) : w.cell? ⟨g, 0, none⟩ = some v ∧ w.cell? ⟨g, 1, none⟩ = some (.map (some m)) ∧ w.frozen? ⟨g, 0, none⟩ = false := ⟨cell_of_row _ _ _ _ _ _ h.head, cell_of_row _ _ _ _ _ _ h.head, frozen_of_row _ _ _ _ _ h.head⟩
theorem WtM.look (h : WtM g m N v base X w) (n : Bs) (hn : n.length ≤ maxLen) : (Instr.lookup 65 (.map (some m)) (.string (bs n)) true).run Tryd.prog w = .ok (.tuple #[.int .i64 ((X.P n).getD 0 : Nat), .bool (X.P n).isSome]) w := by
  obtain ⟨M, hM, hat, hhas⟩ := h.map
  obtain ⟨u, ps, hrun, hv⟩ := hM.look_ok strKeyW Tryd.underlying65 (zeroIntW w) (intE_mk 0) (keyStrW hn)
  rw [hat n] at hv
  rw [hrun, intE_inv hv, hhas n]
theorem WtM.cellG {w1 : World} (h : WtM g m N v base X w) (hg : w.grownBy w1 v.ownBlock) : w1.cell? ⟨g, 0, none⟩ = some v ∧ w1.frozen? ⟨g, 0, none⟩ = false := by
  have hh := hg.block g (h.lt (.inl rfl)) (fun e => h.gv e.symm)
  exact ⟨(World.cell?_of_block (a := ⟨g, 0, none⟩) hh).trans h.cells.1, (World.frozen?_of_block (a := ⟨g, 0, none⟩) hh).trans h.cells.2.2⟩
/-- The bytes are others now: those of a row that is stored over the old one. -/
theorem WtM.store {v' : Value} {b' : Bs} {w1 : World} (h : WtM g m N v base X w) (hg : w.grownBy w1 v.ownBlock) (hr : OwnR w1 base v' b') (hf : v'.ownBlock = v.ownBlock ∨ v'.ownBlock = some w.heap.size) (hn : v' ≠ .slice none 0 0) :
    WtM g m N v' base ⟨b', X.P⟩ (w1.setCell ⟨g, 0, none⟩ v') := by
  have e1 : w1.heap[g]? = w.heap[g]? := hg.block g (h.lt (.inl rfl)) (fun e => h.gv e.symm)
  have e2 : w1.heap[m]? = w.heap[m]? := hg.block m (h.lt (.inr (.inl rfl))) (fun e => h.mv e.symm)
  have hvg : v'.ownBlock ≠ some g := by
    rcases hf with e | e
    · rw [e]; exact h.gv
    · rw [e]; intro e; injection e with e; have := h.lt (.inl rfl); omega
  refine ⟨row_set v' (e1.trans h.head), ?_, hn, ?_, fun n p hp => h.ok n p hp, h.bg, h.bm⟩
  · refine ⟨hr.1, ?_⟩
    rcases hr.2 with e | ⟨gv, c, cur, e, hb, hh, r⟩
    · exact .inl e
    · exact .inr ⟨gv, c, cur, e, hb, row_other v' hh (fun e3 => hvg (by rw [e, e3]; rfl)), r⟩
  · obtain ⟨M, ⟨es, clock, hb, r⟩, h2⟩ := h.map
    exact ⟨M, ⟨es, clock, row_other v' (e2.trans hb) h.gm.symm, r⟩, h2⟩
theorem Mod.store {S : Nat → Prop} (h : Mod S w w') (p : Addr) (u : Value) (hp : S p.block ∨ w.heap.size ≤ p.block) : Mod S w (w'.setCell p u) :=
  ⟨h.os, h.tape, h.output, by simp; exact h.size, fun k hk hn => (Below.heap_setCell w' p u k (fun e => by subst e; rcases hp with e | e; exact hn e; omega)).trans (h.block k hk hn)⟩
/-- A place is put down. -/
theorem WtM.put (h : WtM g m N v base X w) (hN : N < 1000000000) (n : Bs) (hn : n.length ≤ maxLen) (a : Nat) (ha : a < 16384) :
    ∃ w', (Instr.mapUpdate 65 (.map (some m)) (.string (bs n)) (.int .i64 (a : Int))).run Tryd.prog w = .ok () w' ∧ w.grownBy w' (some m) ∧ WtM g m (N + 1) v base ⟨X.b, putP X.P n a⟩ w' := by
  obtain ⟨M, hM, hat, hhas⟩ := h.map
  obtain ⟨w', hrun, hM', hgr⟩ := hM.update strKeyW Tryd.underlying65 (by unfold maxLen; omega) (keyStrW hn) (intE_mk (a : Int))
  have e1 : w'.heap[g]? = w.heap[g]? := hgr.block g (h.lt (.inl rfl)) (fun e => h.gm (by injection e))
  refine ⟨w', hrun, hgr, e1.trans h.head, ?_, h.nn, ⟨_, hM', fun q => ?_, fun q => ?_⟩, fun q p hp => ?_, h.bg, h.bm⟩
  · refine ⟨h.row.1, ?_⟩
    rcases h.row.2 with e | ⟨gv, c, cur, e, hb, hh, r⟩
    · exact .inl e
    · exact .inr ⟨gv, c, cur, e, hb, (hgr.block gv (Array.getElem?_eq_some_iff.1 hh).1 (fun e3 => h.mv (by rw [e]; exact e3))).trans hh, r⟩
  · show (M.put (.string n) _).atKey (.string q) _ = .lit (.int .i64 ((putP X.P n a q).getD 0 : Nat))
    by_cases e : q = n
    · subst e
      rw [atKey_put_same hM.isMap (by trivial), putP_self]
      rfl
    · rw [putP_ne e, atKey_put_other (by simpa using e), hat q]
  · show Maps.has (M.put (.string n) _) (.string q) = (putP X.P n a q).isSome
    by_cases e : q = n
    · subst e
      rw [has_put_same hM.isMap (by trivial), putP_self]
      rfl
    · rw [putP_ne e, has_put_other (by simpa using e), hhas q]
  · simp only at hp
    unfold putP at hp
    split at hp
    · injection hp with hp; omega
    · exact h.ok q p hp
end
/-- What a call of a writer's leaves. -/
def WrP (g m : Nat) (v : Value) (base : Nat) (X' : Wt) (w w' : World) : Prop := ∃ N' v', (WtM g m N' v' base X' w' ∧ N' ≤ X'.b.length) ∧ Mod (Foot3 g m v) w w' ∧ (v'.ownBlock = v.ownBlock ∨ ∀ k, v'.ownBlock = some k → w.heap.size ≤ k)
theorem WrP.of {g m N base : Nat} {v v' : Value} {X X' : Wt} {w w' : World} (h : WtM g m N v base X w) (h1 : WtM g m N v' base X' w' ∧ N ≤ X'.b.length) (hM : Mod (Foot3 g m v) w w') (hf : v'.ownBlock = v.ownBlock ∨ ∀ k, v'.ownBlock = some k → w.heap.size ≤ k) : WrP g m v base X' w w' := ⟨N, v', h1, hM, hf⟩
/-- An append, stored over the writer's bytes. -/
theorem WrP.app {g m N base : Nat} {v v' : Value} {X : Wt} {b' : Bs} {w w0 w1 : World} (h : WtM g m N v base X w) (hN : N ≤ X.b.length) (hB : Below w.heap.size w w0) (hg : w0.grownBy w1 v.ownBlock) (hr : OwnR w1 base v' b') (hf : v'.ownBlock = v.ownBlock ∨ v'.ownBlock = some w0.heap.size) (hn : v' ≠ .slice none 0 0) (hl : X.b.length ≤ b'.length) :
    WrP g m v base ⟨b', X.P⟩ w (w1.setCell ⟨g, 0, none⟩ v') := by
  have h0 := h.below hB
  refine ⟨N, v', ⟨h0.store hg hr hf hn, Nat.le_trans hN hl⟩, ?_, ?_⟩
  · have m1 : Mod (Foot3 g m v) w w1 := (Mod.below hB).trans (Mod.grown (S := Foot3 g m v) hg (fun k hk => .inr (.inr hk))) (fun i e => .inl e)
    exact Mod.store m1 _ _ (.inl (.inl rfl))
  · rcases hf with e | e
    · exact .inl e
    · exact .inr fun k hk => by rw [e] at hk; injection hk with hk; have := hB.size; omega
theorem OwnR.slice_form {w : World} {base : Nat} {v : Value} {l : Bs} (h : OwnR w base v l) (hn : v ≠ .slice none 0 0) : ∃ g c, v = .slice (some ⟨g, 0, none⟩) l.length c ∧ base ≤ g ∧ g < w.heap.size ∧ l.length ≤ c ∧ c ≤ maxLen := by
  rcases OwnR.form h with ⟨e, _⟩ | h
  · exact absurd e hn
  · exact h
theorem WrP.trans {g m base : Nat} {v v1 : Value} {X' : Wt} {w w1 w2 : World} (hM : Mod (Foot3 g m v) w w1) (hf : v1.ownBlock = v.ownBlock ∨ ∀ k, v1.ownBlock = some k → w.heap.size ≤ k) (h : WrP g m v1 base X' w1 w2) : WrP g m v base X' w w2 := by
  obtain ⟨N', v', h1, h2, h3⟩ := h
  refine ⟨N', v', h1, hM.trans h2 fun i hi => ?_, ?_⟩
  · rcases hi with rfl | rfl | e
    · exact .inl (.inl rfl)
    · exact .inl (.inr (.inl rfl))
    · rcases hf with e2 | e2
      · exact .inl (.inr (.inr (e2 ▸ e)))
      · exact .inr (e2 i e)
  · rcases h3 with e | e
    · rw [e]; exact hf
    · exact .inr fun k hk => Nat.le_trans hM.size (e k hk)
end Go.Proofs.YtknpkifhkefikaaDoor
