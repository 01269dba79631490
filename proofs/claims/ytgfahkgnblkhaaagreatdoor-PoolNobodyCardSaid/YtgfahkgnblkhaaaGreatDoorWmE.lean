/-
  Two messages the same: wire.Same, and the statements' own.
-/
import Derived.Test.YtgfahkgnblkhaaaGreatDoorWmD
namespace Go.Proofs.YtgfahkgnblkhaaaGreatDoor
open Go.RowKit
set_option linter.unusedVariables false
set_option maxRecDepth 100000

theorem eq_hd (a b : Hd) (w : World) : (Op.equalIn 10000 25 (.agg (hdC a)) (.agg (hdC b))).run Tryz.prog w = .ok (sameH a b) w := by
  rw [show (10000 : Nat) = 9999 + 1 from rfl, run_equalIn_struct (P := Tryz.prog) (w := w) 9999 _ _ _ (by kernel_rfl) (by kernel_rfl)]
  have p0 : ∀ x : Hd, (part 3 (hdC x) 0).run Tryz.prog w = .ok (.int .i64 x.i) w := fun x => by kernel_rfl
  have p1 : ∀ x : Hd, (part 4 (hdC x) 1).run Tryz.prog w = .ok (.bool x.r) w := fun x => by kernel_rfl
  have p2 : ∀ x : Hd, (part 3 (hdC x) 2).run Tryz.prog w = .ok (.int .i64 x.o) w := fun x => by kernel_rfl
  have p3 : ∀ x : Hd, (part 4 (hdC x) 3).run Tryz.prog w = .ok (.bool x.aa) w := fun x => by kernel_rfl
  have p4 : ∀ x : Hd, (part 4 (hdC x) 4).run Tryz.prog w = .ok (.bool x.tc) w := fun x => by kernel_rfl
  have p5 : ∀ x : Hd, (part 4 (hdC x) 5).run Tryz.prog w = .ok (.bool x.rd) w := fun x => by kernel_rfl
  have p6 : ∀ x : Hd, (part 4 (hdC x) 6).run Tryz.prog w = .ok (.bool x.ra) w := fun x => by kernel_rfl
  have p7 : ∀ x : Hd, (part 3 (hdC x) 7).run Tryz.prog w = .ok (.int .i64 x.c) w := fun x => by kernel_rfl
  have q (x y : Int) : (Op.equalIn 9999 3 (.int .i64 x) (.int .i64 y)).run Tryz.prog w = .ok (x == y) w := by
    rw [show (9999 : Nat) = 9998 + 1 from rfl, run_equalIn_int w 9998 3 .i64 .i64 x y Tryz.underlying3]
  have qb (x y : Bool) : (Op.equalIn 9999 4 (.bool x) (.bool y)).run Tryz.prog w = .ok (x == y) w := by
    rw [show (9999 : Nat) = 9998 + 1 from rfl, run_equalIn_bool' w 9998 4 x y Tryz.underlying4]
  unfold Program.fieldsOf sameH
  rw [Tryz.underlying25]
  cases h0 : (a.i == b.i)
  · simp [Op.eqFields, p0, q, h0]
  cases h1 : (a.r == b.r)
  · simp [Op.eqFields, p0, p1, q, qb, h0, h1]
  cases h2 : (a.o == b.o)
  · simp [Op.eqFields, p0, p1, p2, q, qb, h0, h1, h2]
  cases h3 : (a.aa == b.aa)
  · simp [Op.eqFields, p0, p1, p2, p3, q, qb, h0, h1, h2, h3]
  cases h4 : (a.tc == b.tc)
  · simp [Op.eqFields, p0, p1, p2, p3, p4, q, qb, h0, h1, h2, h3, h4]
  cases h5 : (a.rd == b.rd)
  · simp [Op.eqFields, p0, p1, p2, p3, p4, p5, q, qb, h0, h1, h2, h3, h4, h5]
  cases h6 : (a.ra == b.ra)
  · simp [Op.eqFields, p0, p1, p2, p3, p4, p5, p6, q, qb, h0, h1, h2, h3, h4, h5, h6]
  cases h7 : (a.c == b.c)
  · simp [Op.eqFields, p0, p1, p2, p3, p4, p5, p6, p7, q, qb, h0, h1, h2, h3, h4, h5, h6, h7]
  simp [Op.eqFields, p0, p1, p2, p3, p4, p5, p6, p7, q, qb, h0, h1, h2, h3, h4, h5, h6, h7]

/-- A header loaded whole; two headers held against each other. -/
noncomputable def loadHd (v : Value) (w : World) : Result Next := ((Instr.loadAt 25 v).run Tryz.prog w).andThen fun a w' => .ok (.value a) w'
theorem exec_loadHd (ev : Operand → Value) (d : Option Tmp) (x : Operand) (t : TypeId) (p : String) (f : Array Edge) (gd : Option (Nat × Bool)) (w : World) : (execOp ev { dst := d, op := .load 25 x, type := t, pos := p, after := f, guard := gd }).run Tryz.prog w = loadHd (ev x) w := by
  unfold execOp loadHd
  simp only [Sem.run_bind, Sem.run_pure]
theorem info_hd : (Tryz.prog.info? 25).map (·.size) = some 8 := by kernel_rfl
theorem loadHd_mid {w1 : World} {g o : Nat} {l : List Value} (h : w1.rangeAt g o l) (hC : (Tryz.prog.info? 25).map (·.size) = some l.length) : loadHd (.pointer (some ⟨g, o, none⟩)) w1 = .ok (.value (.agg l.toArray)) w1 := by
  unfold loadHd
  rw [run_loadAt_mid w1 g o 25 l _ h Tryz.underlying25 rfl hC]
  rfl
noncomputable def eqlHd (v u : Value) (w : World) : Result Next := ((do eqGuard .eql 25 (.tmp 0) (.tmp 0) v u; binOp .eql 25 v u : Sem Value).run Tryz.prog w).andThen fun a w' => .ok (.value a) w'
theorem exec_eqlHd (ev : Operand → Value) (d : Option Tmp) (i j : Tmp) (ty t : TypeId) (p : String) (f : Array Edge) (gd : Option (Nat × Bool)) (w : World) : (execOp ev { dst := d, op := .binOp .eql 25 (.tmp i) (.tmp j) ty, type := t, pos := p, after := f, guard := gd }).run Tryz.prog w = eqlHd (ev (.tmp i)) (ev (.tmp j)) w := by
  unfold execOp eqlHd
  simp only [Sem.run_bind, Sem.run_pure]
  rfl
theorem eqlHd_of (a b : Hd) (w : World) : eqlHd (.agg (hdC a)) (.agg (hdC b)) w = .ok (.value (.bool (sameH a b))) w := by
  unfold eqlHd
  have hg : (eqGuard .eql 25 (.tmp 0) (.tmp 0) (.agg (hdC a)) (.agg (hdC b))).run Tryz.prog w = .ok () w := run_eqGuard_agg w .eql 25 _ _ _ _ (by kernel_rfl)
  simp only [Sem.run_bind, hg, run_eql_struct, eq_hd a b w, Result.andThen_ok]
attribute [local go_sem ↓] exec_loadHd exec_eqlHd

/-- Where a message's lists lie. -/
structure MV where
  aq : Option Addr
  a1 : Option Addr
  a2 : Option Addr
  a3 : Option Addr
  cq : Nat
  c1 : Nat
  c2 : Nat
  c3 : Nat
def msL (m : Msg) (v : MV) : List Value := (hdC m.h).toList ++ [.slice v.aq m.q.length v.cq, .slice v.a1 m.an.length v.c1, .slice v.a2 m.au.length v.c2, .slice v.a3 m.ad.length v.c3]
structure Ms (w : World) (m : Msg) (v : MV) : Prop where
  q : Qs w v.aq m.q
  an : Rs w v.a1 m.an
  au : Rs w v.a2 m.au
  ad : Rs w v.a3 m.ad
  lq : m.q.length ≤ v.cq ∧ v.cq ≤ 9223372036854775807
  l1 : m.an.length ≤ v.c1 ∧ v.c1 ≤ 9223372036854775807
  l2 : m.au.length ≤ v.c2 ∧ v.c2 ≤ 9223372036854775807
  l3 : m.ad.length ≤ v.c3 ∧ v.c3 ≤ 9223372036854775807
theorem Ms.on {w w1 : World} {m : Msg} {v : MV} (h : Ms w m v) (hB : Below w.heap.size w w1) : Ms w1 m v := ⟨h.q.on hB, h.an.on hB, h.au.on hB, h.ad.on hB, h.lq, h.l1, h.l2, h.l3⟩
theorem info_ms : (Tryz.prog.info? 29).map (·.size) = some 12 := by kernel_rfl
theorem ms_one (m : Msg) (v : MV) : (msL m v).toArray.all (·.oneCell') = true := by simp [msL, hdC, Value.oneCell']

theorem sameM_1 {a b : Msg} (h : sameH a.h b.h = false) : sameM a b = false := by simp [sameM, h]
theorem sameM_2 {a b : Msg} (h : sameL sameQ a.q b.q = false) : sameM a b = false := by simp [sameM, h]
theorem sameM_3 {a b : Msg} (h : sameL sameR a.an b.an = false) : sameM a b = false := by simp [sameM, h]
theorem sameM_4 {a b : Msg} (h : sameL sameR a.au b.au = false) : sameM a b = false := by simp [sameM, h]
theorem sameM_5 {a b : Msg} (h1 : sameH a.h b.h = true) (h2 : sameL sameQ a.q b.q = true) (h3 : sameL sameR a.an b.an = true) (h4 : sameL sameR a.au b.au = true) : sameM a b = sameL sameR a.ad b.ad := by simp [sameM, h1, h2, h3, h4]


theorem ms_cell {w : World} {g : Nat} {m : Msg} {v : MV} (h : w.heap[g]? = some (.cells (msL m v).toArray 29 (0, 0))) : w.cell? ⟨g, 8, none⟩ = some (.slice v.aq m.q.length v.cq) ∧ w.cell? ⟨g, 9, none⟩ = some (.slice v.a1 m.an.length v.c1) ∧ w.cell? ⟨g, 10, none⟩ = some (.slice v.a2 m.au.length v.c2) ∧ w.cell? ⟨g, 11, none⟩ = some (.slice v.a3 m.ad.length v.c3) :=
  ⟨(cell_of_row _ g 8 _ _ _ h).trans rfl, (cell_of_row _ g 9 _ _ _ h).trans rfl, (cell_of_row _ g 10 _ _ _ h).trans rfl, (cell_of_row _ g 11 _ _ _ h).trans rfl⟩
theorem ms_head {w : World} {g : Nat} {m : Msg} {v : MV} (h : w.heap[g]? = some (.cells (msL m v).toArray 29 (0, 0))) : loadHd (.pointer (some ⟨g, 0, none⟩)) w = .ok (.value (.agg (hdC m.h))) w := by
  have hr : w.rangeAt g 0 (hdC m.h).toList := fun j x hj => by
    rw [cell_of_row _ g (0 + j) _ _ _ h, Nat.zero_add]
    obtain ⟨hjl, _⟩ := List.getElem?_eq_some_iff.1 hj
    rw [List.getElem?_toArray, msL, List.getElem?_append_left hjl]
    exact hj
  have := loadHd_mid hr info_hd
  rwa [Array.toArray_toList] at this



end Go.Proofs.YtgfahkgnblkhaaaGreatDoor
