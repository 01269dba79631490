/-
  The landed reader: a message; the closure that takes what gave up.
  The landed reader: questions into a message.
-/
import Derived.Test.YtknpkifhkefikaaDoorDc3
import Derived.Test.YtknpkifhkefikaaDoorWl
import Derived.Test.YtknpkifhkefikaaDoorWdF
namespace Go.Proofs.YtknpkifhkefikaaDoor
open Go.RowKit Go.Maps
set_option linter.unusedVariables false
set_option maxRecDepth 100000

abbrev zeroM : Array Value := #[.int .i64 0, .bool false, .int .i64 0, .bool false, .bool false, .bool false, .bool false, .int .i64 0, .slice none 0 0, .slice none 0 0, .slice none 0 0, .slice none 0 0]
theorem wp_named {P : Program} {c : Code} {Q : Exit → Act → World → Prop} {a : Act} {w : World} (h : ∀ Q', Q' = Q → c.wp P Q' a w) : c.wp P Q a w := h Q rfl
theorem errno_is (k : Nat) (w : World) : (Instr.typeAssert (.iface 30 (.int .i64 k)) 20 30 true).run Tryd.prog w = .ok (.tuple #[.int .i64 k, .bool true]) w := by kernel_rfl
set_option maxHeartbeats 2000000 in
set_option maxRecDepth 100000 in
theorem catch_panic (gm ge k : Nat) (C : Array Value) (w : World) (hm : w.heap[gm]? = some (.cells C 27 (0, 0))) (hC : C.size = 12) (he : w.heap[ge]? = some (.cells #[.int .i64 0] 30 (0, 0))) :
    CallsD Tryd.prog 88 #[.pointer (some ⟨gm, 0, none⟩), .pointer (some ⟨ge, 0, none⟩)] (.panicking [{ v := .iface 30 (.int .i64 k), recovered := false }]) w fun e u' w' => e = .returned (.tuple #[]) ∧ u' = .panicking [{ v := .iface 30 (.int .i64 k), recovered := true }] ∧ w' = (w.setRow gm zeroM).setCell ⟨ge, 0, none⟩ (.int .i64 k) := by
  refine callsD_of_wpS Tryd.func88 rfl fun c₀ cs hu => ?_
  apply wpS_seq
  apply wpS_region
  simp [wpOpsS, go_sem, recoverD, hu, Tryd.ntmps88, Exit.thenS]
  apply wpS_seq
  apply wpS_seq
  apply wpS_region
  simp [wpOpsS, go_sem, Exit.thenS]
  refine wpS_cond (t := false) (by simp [Act.eval, Array.replicate]) ?_
  simp only [Bool.false_eq_true, if_false]
  refine wpS_of_wp (wp_skip ?_)
  refine wpS_of_wp ?_
  refine wp_named ?_
  intro Q hQ
  have HQ := Lib.hid hQ
  have i1 : Hid ((Tryd.prog.info? 27).map (·.size) = some zeroM.size) := Lib.hid info_ms
  have one1 : Hid (zeroM.all (·.oneCell') = true) := Lib.hid (by simp [Value.oneCell'])
  have z1 : Hid (C.size = zeroM.size) := Lib.hid (by rw [hC]; rfl)
  have hne : ge ≠ gm := fun e => by rw [e, hm] at he; injection he with he; injection he with _ he; cases he
  have r2 : (w.setRow gm zeroM).heap[ge]? = some (.cells #[.int .i64 0] 30 (0, 0)) := (setRow_other _ _ _ _ hne).trans he
  have f2 := frozen_of_row _ _ 0 _ _ r2
  have d2 : (w.setRow gm zeroM).cell? ⟨ge, 0, none⟩ = some (.int .i64 0) := (cell_of_row _ ge 0 _ _ _ r2).trans rfl
  have ta := errno_is k w
  change Code.wp _ _ Q ⟨#[.pointer (some ⟨gm, 0, none⟩), .pointer (some ⟨ge, 0, none⟩), .iface 30 (.int .i64 k), undef, undef, .iface 30 (.int .i64 k), .iface 30 (.int .i64 k), .bool false, undef, undef, undef, undef, undef, undef, undef, undef, undef, undef], []⟩ w
  clear hQ r2
  go_wp2_with (first
    | (refine wpList_store_row rfl 27 (.tmp 0) (.tmp 16) rfl gm zeroM rfl rfl 27 _ hm i1.out (by first | exact z1.out | exact z1.out.symm) one1.out ?_)
    | fail)
  rw [HQ.out]
  simp [bodyPostS, results, Tryd.results88]
set_option maxHeartbeats 1000000 in
set_option maxRecDepth 100000 in
/-- A message that is given up: no message, and the error. -/
theorem msg_fail {R : Ending → World → Prop} {tmps : Array Value} {gm ge k : Nat} {C : Array Value} {w : World} (hm : w.heap[gm]? = some (.cells C 27 (0, 0))) (hC : C.size = 12) (he : w.heap[ge]? = some (.cells #[.int .i64 0] 30 (0, 0)))
    (h6 : tmps.getD 6 undef = .pointer (some ⟨gm, 0, none⟩)) (h7 : tmps.getD 7 undef = .pointer (some ⟨ge, 0, none⟩)) (hR : R (.returned (.tuple #[.agg zeroM, .int .i64 k])) ((w.setRow gm zeroM).setCell ⟨ge, 0, none⟩ (.int .i64 k))) :
    bodyPostD Tryd.prog Tryd.f49 R (.panic [{ v := .iface 30 (.int .i64 k), recovered := false }]) { tmps := tmps, defers := [{ target := Target.fn (Fn.func 88) #[.pointer (some ⟨gm, 0, none⟩), .pointer (some ⟨ge, 0, none⟩)], args := #[] }] } w := by
  have hne : ge ≠ gm := fun e => by rw [e, hm] at he; injection he with he; injection he with _ he; cases he
  have r6 : ((w.setRow gm zeroM).setCell ⟨ge, 0, none⟩ (.int .i64 k)).heap[gm]? = some (.cells zeroM 27 (0, 0)) := row_other _ (setRow_heap _ _ _ zeroM _ _ hm) (fun e => hne e.symm)
  have r7 := row_set (w := w.setRow gm zeroM) (g := ge) (i := 0) (.int .i64 k) ((setRow_other _ _ _ _ hne).trans he)
  have q6 : (loadVar 27 ⟨gm, 0, none⟩).run Tryd.prog ((w.setRow gm zeroM).setCell ⟨ge, 0, none⟩ (.int .i64 k)) = .ok (.agg zeroM) ((w.setRow gm zeroM).setCell ⟨ge, 0, none⟩ (.int .i64 k)) := run_loadVar_row _ _ 27 27 zeroM (0, 0) _ r6 Tryd.underlying27 rfl info_ms
  have q7 : ((w.setRow gm zeroM).setCell ⟨ge, 0, none⟩ (.int .i64 k)).cell? ⟨ge, 0, none⟩ = some (.int .i64 k) := (cell_of_row _ ge 0 _ _ _ r7).trans rfl
  have h6' : tmps[6]?.getD undef = .pointer (some ⟨gm, 0, none⟩) := by simpa using h6
  have h7' : tmps[7]?.getD undef = .pointer (some ⟨ge, 0, none⟩) := by simpa using h7
  refine leaves_cons (f := 88) (args := #[.pointer (some ⟨gm, 0, none⟩), .pointer (some ⟨ge, 0, none⟩)]) (by simp) (by simp [go_sem]) ?_
  refine (catch_panic gm ge k C w hm hC he).mono ?_
  rintro e u' w'' ⟨rfl, rfl, rfl⟩
  generalize (w.setRow gm zeroM).setCell ⟨ge, 0, none⟩ (.int .i64 k) = W at *
  have q8 : (loadVar 30 ⟨ge, 0, none⟩).run Tryd.prog W = .ok (.int .i64 k) W := by simp [go_sem, q7]
  have hr : (results Tryd.f49 tmps).run Tryd.prog W = .ok (.tuple #[.agg zeroM, .int .i64 k]) W := by
    simp [results, Tryd.results49, asAddr, h6', h7', q6, q8]
  simp [Leaves, settle, hr]
  exact hR
abbrev mC (hd : Hd) (vq va vb vc : Value) : Array Value := #[.int .i64 hd.i, .bool hd.r, .int .i64 hd.o, .bool hd.aa, .bool hd.tc, .bool hd.rd, .bool hd.ra, .int .i64 hd.c, vq, va, vb, vc]
/-- Within a message: the reader, the boxes. -/
structure MgS (w : World) (rb : Nat) (A : Option Addr) (c : Nat) (b : Bs) (n0 n1 n2 n3 : Nat) (hd : Hd) (z : Nat) (vq va vb vc : Value) (wr : World) : Prop where
  rd : RdM wr rb A c b z 20
  mod : Mod (fun k => k = rb) w wr
  rc : wr.heap[w.heap.size + 1]? = some (.cells #[.int .i64 n0, .int .i64 n1, .int .i64 n2, .int .i64 n3] 63 (0, 0))
  rm : wr.heap[w.heap.size + 1 + 1]? = some (.cells (mC hd vq va vb vc) 27 (0, 0))
  re : wr.heap[w.heap.size + 1 + 1 + 1]? = some (.cells #[.int .i64 0] 30 (0, 0))
  lt : rb < w.heap.size
end Go.Proofs.YtknpkifhkefikaaDoor
namespace Go.Proofs.YtknpkifhkefikaaDoor
open Go.RowKit Go.Maps
set_option linter.unusedVariables false
set_option maxRecDepth 100000

def flatQ (L : List Qu) : List Value := (L.map quL).flatten
theorem flatQ_app (L M : List Qu) : flatQ (L ++ M) = flatQ L ++ flatQ M := by simp [flatQ]
theorem flatQ_snoc (L : List Qu) (x : Qu) : flatQ (L ++ [x]) = flatQ L ++ quL x := by simp [flatQ]
theorem qu_oneD (q : Qu) : ∀ u ∈ quL q, u.oneCell' = true := fun u hu => by
  simp [quL] at hu
  rcases hu with rfl | rfl | rfl <;> rfl
noncomputable def appQu (v u : Value) (ty : TypeId) (w : World) : Result Next := ((Builtin.append_ #[24, 24] ty #[v, u]).run Tryd.prog w).andThen fun a w' => .ok (.value a) w'
theorem exec_appQu (ev : Operand → Value) (d : Option Tmp) (x y : Operand) (t : TypeId) (p : String) (f : Array Edge) (w : World) : (execOp ev { dst := d, op := .call { callee := .builtin .append, args := #[x, y], argTypes := #[24, 24] }, type := t, pos := p, after := f, guard := none }).run Tryd.prog w = appQu (ev x) (ev y) t w := by
  unfold execOp appQu
  simp only [resolve, invoke, builtin, Sem.run_bind, Sem.run_pure, Result.andThen_ok, List.map_toArray, List.map_cons, List.map_nil]
noncomputable def aqV (v u : Value) (w : World) : Value := match (Builtin.append_ #[24, 24] 24 #[v, u]).run Tryd.prog w with
  | .ok a _ => a
  | .halt _ _ => undef
noncomputable def aqW (v u : Value) (w : World) : World := match (Builtin.append_ #[24, 24] 24 #[v, u]).run Tryd.prog w with
  | .ok _ w' => w'
  | .halt _ w' => w'
theorem run_appQ {W : World} {B : Nat} {v : Value} {L : List Qu} (hN : W.ownsRow B 44 3 v L.length (flatQ L)) (x : Qu) (hlen : (L.length + 1) * 32 ≤ 140737488355328) (hb : B ≤ W.heap.size) :
    ∃ v' w', appQu v (.slice (some ⟨W.heap.size, 0, none⟩) 1 1) 24 (W.alloc (.cells #[.string (bs x.n), .int .i64 x.t, .int .i64 x.c] 44)) = .ok (.value v') w' ∧
    v' = aqV v (.slice (some ⟨W.heap.size, 0, none⟩) 1 1) (W.alloc (.cells #[.string (bs x.n), .int .i64 x.t, .int .i64 x.c] 44)) ∧ w' = aqW v (.slice (some ⟨W.heap.size, 0, none⟩) 1 1) (W.alloc (.cells #[.string (bs x.n), .int .i64 x.t, .int .i64 x.c] 44)) ∧
    w'.ownsRow B 44 3 v' (L.length + 1) (flatQ (L ++ [x])) ∧ (W.alloc (.cells #[.string (bs x.n), .int .i64 x.t, .int .i64 x.c] 44)).grownBy w' v.ownBlock := by
  obtain ⟨i0, hi, hz0, hz1, hz2⟩ := info_parts info_q3
  have b0 : Below W.heap.size W (W.alloc (.cells #[.string (bs x.n), .int .i64 x.t, .int .i64 x.c] 44)) := Below.alloc (Below.refl _ _) (Nat.le_refl _) _
  have o1 := ownsRow_below hN b0 (Nat.le_refl _)
  obtain ⟨v', w', hr, h3, h4, -, h6⟩ := run_append_own_at (P := Tryd.prog) (W.alloc (.cells #[.string (bs x.n), .int .i64 x.t, .int .i64 x.c] 44)) B 24 24 44 i0 (.agg #[.string ⟨#[]⟩, .int .i64 0, .int .i64 0]) 3 32 Tryd.underlying24 hi hz0 hz1 hz2 rfl (by decide) v L.length (flatQ L) o1 ⟨W.heap.size, 0, none⟩ 1 1 (quL x) rfl (World.news_of_block (cs := #[.string (bs x.n), .int .i64 x.t, .int .i64 x.c]) (t := 44) (fr := (0, 0)) (row_new _ rfl)) (qu_oneD x) (by unfold maxLen; omega) (by omega) (by simp; omega)
  refine ⟨v', w', by unfold appQu; rw [hr]; rfl, by unfold aqV; rw [hr], by unfold aqW; rw [hr], by rw [flatQ_snoc]; exact h3, h4⟩
/-- Such a row, as a slice of questions. -/
theorem own_qsT {w : World} {B n : Nat} {v : Value} {L : List Qu} (ho : w.ownsRow B 44 3 v n (flatQ L)) : ∃ A c, v = .slice A L.length c ∧ n = L.length ∧ QsT w A L ∧ L.length ≤ c ∧ c ≤ 9223372036854775807 := by
  have hlq : ∀ L : List Qu, (flatQ L).length = L.length * 3 := fun L => by
    induction L with
    | nil => rfl
    | cons x L ih => rw [show flatQ (x :: L) = quL x ++ flatQ L from rfl, List.length_append, ih]; simp [quL]; omega
  have hl : n = L.length := by have := ho.1; rw [hlq] at this; omega
  subst hl
  rcases ho.2 with ⟨hv, h0⟩ | ⟨g, cap, cur, hv, hb, hh, hc, hm2, hsz, ht⟩
  · exact ⟨none, 0, by rw [hv, h0], rfl, fun hn => by omega, by omega, by omega⟩
  · refine ⟨_, cap, hv, rfl, fun hn => ⟨g, 0, cur, rfl, hh, fun j hj => ?_⟩, by omega, by unfold maxLen at hm2; omega⟩
    intro i u hi
    obtain ⟨hil, _⟩ := List.getElem?_eq_some_iff.1 hi
    have hi3 : i < 3 := hil
    have h3 : (flatQ L)[j * 3 + i]? = (quL L[j])[i]? := by
      have e0 : L = L.take j ++ (L[j] :: L.drop (j + 1)) := by rw [← List.drop_eq_getElem_cons hj, List.take_append_drop]
      have e : flatQ L = flatQ (L.take j) ++ (quL L[j] ++ flatQ (L.drop (j + 1))) := (congrArg flatQ e0).trans (flatQ_app _ _)
      rw [e, List.getElem?_append_right (by rw [hlq, List.length_take]; omega), hlq, List.length_take, Nat.min_eq_left (by omega), List.getElem?_append_left (by simp [quL]; omega)]
      congr 1
      omega
    rw [cell_of_row _ g (0 + j * 3 + i) _ _ _ hh]
    rw [hi, ← ht, List.getElem?_take_of_lt (by have := Nat.mul_le_mul_right 3 (show j + 1 ≤ L.length by omega); omega)] at h3
    rw [Nat.zero_add]
    simpa using h3
theorem MgS.next {w : World} {rb : Nat} {A : Option Addr} {c : Nat} {b : Bs} {n0 n1 n2 n3 : Nat} {hd : Hd} {z z' : Nat} {vq va vb vc : Value} {wr w1 : World} (h : MgS w rb A c b n0 n1 n2 n3 hd z vq va vb vc wr) (hr : RdM w1 rb A c b z' 20) (hm : Mod (fun k => k = rb) wr w1) : MgS w rb A c b n0 n1 n2 n3 hd z' vq va vb vc w1 :=
  have l := h.lt
  ⟨hr, h.mod.trans hm (fun i hi => .inl hi), hm.row h.rc (by omega), hm.row h.rm (by omega), hm.row h.re (by omega), h.lt⟩
theorem MgS.on {w : World} {rb : Nat} {A : Option Addr} {c : Nat} {b : Bs} {n0 n1 n2 n3 : Nat} {hd : Hd} {z : Nat} {vq va vb vc : Value} {wr w1 : World} (h : MgS w rb A c b n0 n1 n2 n3 hd z vq va vb vc wr) (k : Below wr.heap.size wr w1) : MgS w rb A c b n0 n1 n2 n3 hd z vq va vb vc w1 := h.next (h.rd.below k) (Mod.below k)
/-- One of the message's cells is set. -/
theorem MgS.set {w : World} {rb : Nat} {A : Option Addr} {c : Nat} {b : Bs} {n0 n1 n2 n3 : Nat} {hd : Hd} {z : Nat} {vq va vb vc vq' va' vb' vc' : Value} {wr : World} (h : MgS w rb A c b n0 n1 n2 n3 hd z vq va vb vc wr) (hA : Off (fun k => k = w.heap.size + 1 + 1) A) (i : Nat) (u : Value) (hu : (mC hd vq va vb vc).setIfInBounds i u = mC hd vq' va' vb' vc') : MgS w rb A c b n0 n1 n2 n3 hd z vq' va' vb' vc' (wr.setCell ⟨w.heap.size + 1 + 1, i, none⟩ u) := by
  have l := h.lt
  have hm := mod_setCell wr (w.heap.size + 1 + 1) i u
  have r := row_set (i := i) u h.rm
  rw [hu] at r
  exact ⟨h.rd.modG hm (by omega) hA, h.mod.trans hm (fun i hi => .inr (by omega)), hm.row h.rc (by omega), r, hm.row h.re (by omega), h.lt⟩
theorem MgS.cells {w : World} {rb : Nat} {A : Option Addr} {c : Nat} {b : Bs} {n0 n1 n2 n3 : Nat} {hd : Hd} {z : Nat} {vq va vb vc : Value} {W : World} (h : MgS w rb A c b n0 n1 n2 n3 hd z vq va vb vc W) : W.cell? ⟨w.heap.size + 1, 1, none⟩ = some (.int .i64 n1) ∧ W.cell? ⟨w.heap.size + 1, 2, none⟩ = some (.int .i64 n2) ∧ W.cell? ⟨w.heap.size + 1, 3, none⟩ = some (.int .i64 n3) ∧ W.cell? ⟨w.heap.size + 1 + 1, 8, none⟩ = some vq ∧ W.cell? ⟨w.heap.size + 1 + 1, 9, none⟩ = some va ∧ W.cell? ⟨w.heap.size + 1 + 1, 10, none⟩ = some vb ∧ W.cell? ⟨w.heap.size + 1 + 1, 11, none⟩ = some vc ∧ (∀ j, W.frozen? ⟨w.heap.size + 1 + 1, j, none⟩ = false) :=
  ⟨(cell_of_row _ _ 1 _ _ _ h.rc).trans rfl, (cell_of_row _ _ 2 _ _ _ h.rc).trans rfl, (cell_of_row _ _ 3 _ _ _ h.rc).trans rfl, (cell_of_row _ _ 8 _ _ _ h.rm).trans rfl, (cell_of_row _ _ 9 _ _ _ h.rm).trans rfl, (cell_of_row _ _ 10 _ _ _ h.rm).trans rfl, (cell_of_row _ _ 11 _ _ _ h.rm).trans rfl, fun j => frozen_of_row _ _ j _ _ h.rm⟩
theorem own_formD {w : World} {B size n : Nat} {e : TypeId} {v : Value} {xs : List Value} (h : w.ownsRow B e size v n xs) : ∃ A c, v = .slice A n c := by
  rcases h.2 with ⟨rfl, h0⟩ | ⟨g, cap, cur, rfl, _⟩
  · exact ⟨none, 0, by rw [h0]⟩
  · exact ⟨_, _, rfl⟩
/-- A row of the call's own grows beside. -/
theorem BX8 {w : World} {rb : Nat} {A : Option Addr} {c : Nat} {b : Bs} {n0 n1 n2 n3 : Nat} {hd : Hd} {z : Nat} {vq va vb vc v : Value} {wr w1 : World} (h : MgS w rb A c b n0 n1 n2 n3 hd z vq va vb vc wr) (hg : wr.grownBy w1 v.ownBlock) (hv : ∀ j, v.ownBlock = some j → w.heap.size + 4 ≤ j) (hA : ∀ q, A = some q → q.block < w.heap.size) : MgS w rb A c b n0 n1 n2 n3 hd z vq va vb vc w1 := by
  have l := h.lt
  have hm : Mod (fun i => v.ownBlock = some i) wr w1 := Mod.grown hg (fun i hi => hi)
  have no : ∀ k, k < w.heap.size + 4 → ¬ v.ownBlock = some k := fun k hk e => by have := hv k e; omega
  exact ⟨h.rd.modG hm (no _ (by omega)) (fun q hq => no _ (by have := hA q hq; omega)), h.mod.trans hm (fun i hi => .inr (by have := hv i hi; omega)), hm.row h.rc (no _ (by omega)), hm.row h.rm (no _ (by omega)), hm.row h.re (no _ (by omega)), h.lt⟩
theorem QsT.keptM {w w1 : World} {g : Nat} {A : Option Addr} {L : List Qu} {C : Array Value} {T : TypeId} (hT : T ≠ 44) (h : QsT w A L) (hm : Mod (fun k => k = g) w w1) (hr : w.heap[g]? = some (.cells C T (0, 0))) : QsT w1 A L := h.keptT (T := T) hT hm.grownS (fun g e => by injection e with e; subst e; exact ⟨_, _, hr⟩)
theorem RsT.keptM {w w1 : World} {g : Nat} {A : Option Addr} {L : List Rr} {C : Array Value} {T : TypeId} (hT : T ≠ 5) (hT2 : T ≠ 72) (h : RsT w A L) (hm : Mod (fun k => k = g) w w1) (hr : w.heap[g]? = some (.cells C T (0, 0))) : RsT w1 A L := h.keptT (T := T) hT hT2 hm.grownS (fun g e => by injection e with e; subst e; exact ⟨_, _, hr⟩)
/-- A message whose lists lie in blocks of their own. -/
structure MsT (w : World) (m : Msg) (v : MV) : Prop where
  q : QsT w v.aq m.q
  an : RsT w v.a1 m.an
  au : RsT w v.a2 m.au
  ad : RsT w v.a3 m.ad
  lq : m.q.length ≤ v.cq ∧ v.cq ≤ 9223372036854775807
  l1 : m.an.length ≤ v.c1 ∧ v.c1 ≤ 9223372036854775807
  l2 : m.au.length ≤ v.c2 ∧ v.c2 ≤ 9223372036854775807
  l3 : m.ad.length ≤ v.c3 ∧ v.c3 ≤ 9223372036854775807
theorem MsT.ms {w : World} {m : Msg} {v : MV} (h : MsT w m v) : Ms w m v := ⟨h.q.qs, h.an.rs, h.au.rs, h.ad.rs, h.lq, h.l1, h.l2, h.l3⟩
theorem MsT.keptM {w w1 : World} {m : Msg} {v : MV} {g : Nat} {C : Array Value} {T : TypeId} (hT : T ≠ 44) (hT1 : T ≠ 5) (hT2 : T ≠ 72) (h : MsT w m v) (hm : Mod (fun k => k = g) w w1) (hr : w.heap[g]? = some (.cells C T (0, 0))) : MsT w1 m v :=
  ⟨h.q.keptM hT hm hr, h.an.keptM hT1 hT2 hm hr, h.au.keptM hT1 hT2 hm hr, h.ad.keptM hT1 hT2 hm hr, h.lq, h.l1, h.l2, h.l3⟩
/-- What a message's reading comes to. -/
def MsgP (w : World) (rb : Nat) (hd : Hd) : Rd Parts → Ending → World → Prop
  | .ok x _, e, w' => ∃ v, e = .returned (.tuple #[.agg (msL ⟨hd, x.1, x.2.1, x.2.2.1, x.2.2.2⟩ v).toArray, .int .i64 0]) ∧ MsT w' ⟨hd, x.1, x.2.1, x.2.2.1, x.2.2.2⟩ v ∧ Mod (fun k => k = rb) w w'
  | .no k, e, w' => e = .returned (.tuple #[.agg zeroM, .int .i64 k]) ∧ Mod (fun k => k = rb) w w'
/-- A message that is given up, wherever. -/
theorem MgS.fail {w : World} {rb : Nat} {A : Option Addr} {c : Nat} {b : Bs} {n0 n1 n2 n3 : Nat} {hd : Hd} {z : Nat} {vq va vb vc : Value} {wr w1 : World} {R : Rd Parts} {tmps : Array Value} {k : Nat} (h : MgS w rb A c b n0 n1 n2 n3 hd z vq va vb vc wr) (hm : Mod (fun k => k = rb) wr w1) (hR : R = .no k)
    (h6 : tmps.getD 6 undef = .pointer (some ⟨w.heap.size + 1 + 1, 0, none⟩)) (h7 : tmps.getD 7 undef = .pointer (some ⟨w.heap.size + 1 + 1 + 1, 0, none⟩)) :
    bodyPostD Tryd.prog Tryd.f49 (MsgP w rb hd R) (.panic [{ v := .iface 30 (.int .i64 k), recovered := false }]) { tmps := tmps, defers := [{ target := Target.fn (Fn.func 88) #[.pointer (some ⟨w.heap.size + 1 + 1, 0, none⟩), .pointer (some ⟨w.heap.size + 1 + 1 + 1, 0, none⟩)], args := #[] }] } w1 := by
  have l := h.lt
  subst hR
  refine msg_fail (hm.row h.rm (by omega)) rfl (hm.row h.re (by omega)) h6 h7 ⟨rfl, ?_⟩
  refine ((h.mod.trans hm (fun i hi => .inl hi)).trans (mod_setRow _ _ _) (fun i hi => .inr (by omega))).trans (mod_setCell _ _ _ _) (fun i hi => .inr (by omega))
/-- Behind k questions. -/
structure QuS (w : World) (rb : Nat) (A : Option Addr) (c : Nat) (b : Bs) (n0 n1 n2 n3 : Nat) (hd : Hd) (R : Rd Parts) (F : List Qu → Nat → Rd Parts) (k q : Nat) (L : List Qu) (v : Value) (wr : World) : Prop where
  mg : MgS w rb A c b n0 n1 n2 n3 hd q v (.slice none 0 0) (.slice none 0 0) (.slice none 0 0) wr
  own : wr.ownsRow (w.heap.size + 4) 44 3 v L.length (flatQ L)
  len : L.length = k
  eq : R = (manyR (quR b) (n0 - k) q L).then F
theorem QsT.rdQ {w w1 : World} {rb : Nat} {A : Option Addr} {L : List Qu} {C : Array Value} (h : QsT w A L) (hm : Mod (fun k => k = rb) w w1) (hr : w.heap[rb]? = some (.cells C 92 (0, 0))) : QsT w1 A L := h.keptT (T := 92) (by decide) hm.grownS (fun g e => by injection e with e; subst e; exact ⟨_, _, hr⟩)
theorem RsT.rdR {w w1 : World} {rb : Nat} {A : Option Addr} {L : List Rr} {C : Array Value} (h : RsT w A L) (hm : Mod (fun k => k = rb) w w1) (hr : w.heap[rb]? = some (.cells C 92 (0, 0))) : RsT w1 A L := h.keptT (T := 92) (by decide) (by decide) hm.grownS (fun g e => by injection e with e; subst e; exact ⟨_, _, hr⟩)
theorem QsT.msQ {w : World} {gm : Nat} {A : Option Addr} {L : List Qu} {C : Array Value} (h : QsT w A L) (hr : w.heap[gm]? = some (.cells C 27 (0, 0))) (i : Nat) (u : Value) : QsT (w.setCell ⟨gm, i, none⟩ u) A L := h.keptT (T := 27) (by decide) (mod_setCell w gm i u).grownS (fun g e => by injection e with e; subst e; exact ⟨_, _, hr⟩)
theorem RsT.msR {w : World} {gm : Nat} {A : Option Addr} {L : List Rr} {C : Array Value} (h : RsT w A L) (hr : w.heap[gm]? = some (.cells C 27 (0, 0))) (i : Nat) (u : Value) : RsT (w.setCell ⟨gm, i, none⟩ u) A L := h.keptT (T := 27) (by decide) (by decide) (mod_setCell w gm i u).grownS (fun g e => by injection e with e; subst e; exact ⟨_, _, hr⟩)
/-- The message is stored onto itself, and the error: none. -/
theorem msg_last {w : World} {rb : Nat} {A : Option Addr} {c : Nat} {b : Bs} {n0 n1 n2 n3 : Nat} {hd : Hd} {z : Nat} {W : World} {Aq A1 A2 A3 : Option Addr} {cq c1 c2 c3 : Nat} {L : List Qu} {M1 M2 M3 : List Rr}
    (h : MgS w rb A c b n0 n1 n2 n3 hd z (.slice Aq L.length cq) (.slice A1 M1.length c1) (.slice A2 M2.length c2) (.slice A3 M3.length c3) W) (h0 : QsT W Aq L) (h1 : RsT W A1 M1) (h2 : RsT W A2 M2) (h3 : RsT W A3 M3)
    (l0 : L.length ≤ cq ∧ cq ≤ 9223372036854775807) (l1 : M1.length ≤ c1 ∧ c1 ≤ 9223372036854775807) (l2 : M2.length ≤ c2 ∧ c2 ≤ 9223372036854775807) (l3 : M3.length ≤ c3 ∧ c3 ≤ 9223372036854775807) (n : Nat) {C : Array Value} (hC : C = mC hd (.slice Aq L.length cq) (.slice A1 M1.length c1) (.slice A2 M2.length c2) (.slice A3 M3.length c3)) :
    (((W.drewN n).setRow (w.heap.size + 1 + 1) C).setCell ⟨w.heap.size + 1 + 1 + 1, 0, none⟩ (.int .i64 0)).heap[w.heap.size + 1 + 1]? = some (.cells C 27 (0, 0)) ∧
    (((W.drewN n).setRow (w.heap.size + 1 + 1) C).setCell ⟨w.heap.size + 1 + 1 + 1, 0, none⟩ (.int .i64 0)).heap[w.heap.size + 1 + 1 + 1]? = some (.cells #[.int .i64 0] 30 (0, 0)) ∧
    MsT (((W.drewN n).setRow (w.heap.size + 1 + 1) C).setCell ⟨w.heap.size + 1 + 1 + 1, 0, none⟩ (.int .i64 0)) ⟨hd, L, M1, M2, M3⟩ ⟨Aq, A1, A2, A3, cq, c1, c2, c3⟩ ∧
    Mod (fun k => k = rb) w (((W.drewN n).setRow (w.heap.size + 1 + 1) C).setCell ⟨w.heap.size + 1 + 1 + 1, 0, none⟩ (.int .i64 0)) := by
  subst hC
  have b1 : Below W.heap.size W (W.drewN n) := below_drewN (Below.refl _ _) n
  have g1 := h.on b1
  have l := h.lt
  have m1 := mod_setRow (W.drewN n) (w.heap.size + 1 + 1) (mC hd (.slice Aq L.length cq) (.slice A1 M1.length c1) (.slice A2 M2.length c2) (.slice A3 M3.length c3))
  have r1 := setRow_heap _ _ _ (mC hd (.slice Aq L.length cq) (.slice A1 M1.length c1) (.slice A2 M2.length c2) (.slice A3 M3.length c3)) _ _ g1.rm
  have r2 := (setRow_other (W.drewN n) (w.heap.size + 1 + 1) _ (mC hd (.slice Aq L.length cq) (.slice A1 M1.length c1) (.slice A2 M2.length c2) (.slice A3 M3.length c3)) (show w.heap.size + 1 + 1 + 1 ≠ w.heap.size + 1 + 1 by omega)).trans g1.re
  have m2 := mod_setCell ((W.drewN n).setRow (w.heap.size + 1 + 1) (mC hd (.slice Aq L.length cq) (.slice A1 M1.length c1) (.slice A2 M2.length c2) (.slice A3 M3.length c3))) (w.heap.size + 1 + 1 + 1) 0 (.int .i64 0)
  have r3 := row_set (i := 0) (.int .i64 0) r2
  refine ⟨m2.row r1 (by omega), r3, ⟨?_, ?_, ?_, ?_, l0, l1, l2, l3⟩, (g1.mod.trans m1 (fun i hi => .inr (by omega))).trans m2 (fun i hi => .inr (by omega))⟩
  · exact (((h0.below b1).keptM (T := 27) (by decide) m1 g1.rm).keptM (T := 30) (by decide) m2 r2)
  · exact (((h1.below b1).keptM (T := 27) (by decide) (by decide) m1 g1.rm).keptM (T := 30) (by decide) (by decide) m2 r2)
  · exact (((h2.below b1).keptM (T := 27) (by decide) (by decide) m1 g1.rm).keptM (T := 30) (by decide) (by decide) m2 r2)
  · exact (((h3.below b1).keptM (T := 27) (by decide) (by decide) m1 g1.rm).keptM (T := 30) (by decide) (by decide) m2 r2)
/-- What has been yielded of 'm.Questions = append(m.Questions, r.question())', and the world. -/
structure QMid (w : World) (rb : Nat) (A : Option Addr) (c : Nat) (b : Bs) (n0 n1 n2 n3 : Nat) (hd : Hd) (z1 : Nat) (v : Value) (L : List Qu) (W : World) : Prop where
  mg : MgS w rb A c b n0 n1 n2 n3 hd z1 v (.slice none 0 0) (.slice none 0 0) (.slice none 0 0) W
  own : W.ownsRow (w.heap.size + 4) 44 3 v L.length (flatQ L)
  big : w.heap.size + 4 ≤ W.heap.size
abbrev xC (x : Qu) : Array Value := #[.string (bs x.n), .int .i64 x.t, .int .i64 x.c]
def QJ (w : World) (rb : Nat) (A : Option Addr) (c : Nat) (b : Bs) (n0 n1 n2 n3 : Nat) (hd : Hd) (q z1 : Nat) (v : Value) (L : List Qu) (x : Qu) (D : Nat → Option Value) (W : World) : Prop :=
  (D 3 = none ∧ D 4 = none ∧ D 5 = none ∧ QMid w rb A c b n0 n1 n2 n3 hd q v L W) ∨
  (D 3 = some (.agg (xC x)) ∧ D 4 = none ∧ D 5 = none ∧ QMid w rb A c b n0 n1 n2 n3 hd z1 v L W) ∨
  (∃ W1, D 3 = some (.agg (xC x)) ∧ D 4 = some (.slice (some ⟨W1.heap.size, 0, none⟩) 1 1) ∧ D 5 = none ∧ QMid w rb A c b n0 n1 n2 n3 hd z1 v L W1 ∧ W = W1.alloc (.cells (xC x) 44)) ∨
  (∃ A6 c6 u, D 3 = some (.agg (xC x)) ∧ D 4 = some u ∧ D 5 = some (.slice A6 (L.length + 1) c6) ∧ MgS w rb A c b n0 n1 n2 n3 hd z1 v (.slice none 0 0) (.slice none 0 0) (.slice none 0 0) W ∧ W.ownsRow (w.heap.size + 4) 44 3 (.slice A6 (L.length + 1) c6) (L.length + 1) (flatQ (L ++ [x])))
section
variable {w : World} {rb : Nat} {A : Option Addr} {c : Nat} {b : Bs} {n0 n1 n2 n3 : Nat} {hd : Hd} {q z1 : Nat} {v : Value} {L : List Qu} {x : Qu} {D : Nat → Option Value} {W : World}
theorem QJ.c8 (h : QJ w rb A c b n0 n1 n2 n3 hd q z1 v L x D W) : W.cell? ⟨w.heap.size + 1 + 1, 8, none⟩ = some v := by
  rcases h with ⟨-, -, -, h⟩ | ⟨-, -, -, h⟩ | ⟨W1, -, -, -, h, rfl⟩ | ⟨A6, c6, u, -, -, -, h, -⟩
  · exact h.mg.cells.2.2.2.1
  · exact h.mg.cells.2.2.2.1
  · exact (h.mg.on (Below.alloc (Below.refl _ _) (Nat.le_refl _) _)).cells.2.2.2.1
  · exact h.cells.2.2.2.1
theorem QJ.pure (h : QJ w rb A c b n0 n1 n2 n3 hd q z1 v L x D W) {i : Nat} (u : Value) (hi : 3 ≠ i ∧ 4 ≠ i ∧ 5 ≠ i) : QJ w rb A c b n0 n1 n2 n3 hd q z1 v L x (updD D i u) W := by
  unfold QJ
  rw [updD_ne hi.1, updD_ne hi.2.1, updD_ne hi.2.2]
  exact h
theorem QJ.first (h : QJ w rb A c b n0 n1 n2 n3 hd q z1 v L x D W) (h3 : D 3 = none) : D 4 = none ∧ D 5 = none ∧ QMid w rb A c b n0 n1 n2 n3 hd q v L W := by
  rcases h with ⟨-, h1, h2, h⟩ | ⟨h1, -, -, h⟩ | ⟨W1, h1, -, -, h, rfl⟩ | ⟨A6, c6, u, h1, -, -, h, -⟩
  · exact ⟨h1, h2, h⟩
  all_goals rw [h3] at h1; cases h1
theorem QJ.built (h : QJ w rb A c b n0 n1 n2 n3 hd q z1 v L x D W) {u : Value} (h3 : D 3 = some u) (h4 : D 4 = none) : u = .agg (xC x) ∧ D 5 = none ∧ QMid w rb A c b n0 n1 n2 n3 hd z1 v L W := by
  rcases h with ⟨h1, -, -, h⟩ | ⟨h1, -, h2, h⟩ | ⟨W1, -, h1, -, h, rfl⟩ | ⟨A6, c6, u, -, h1, -, h, -⟩
  · rw [h3] at h1; cases h1
  · rw [h3] at h1
    injection h1 with h1
    exact ⟨h1, h2, h⟩
  all_goals rw [h4] at h1; cases h1
theorem QJ.more (h : QJ w rb A c b n0 n1 n2 n3 hd q z1 v L x D W) {u : Value} (h4 : D 4 = some u) (h5 : D 5 = none) : ∃ W1, D 3 = some (.agg (xC x)) ∧ u = .slice (some ⟨W1.heap.size, 0, none⟩) 1 1 ∧ QMid w rb A c b n0 n1 n2 n3 hd z1 v L W1 ∧ W = W1.alloc (.cells (xC x) 44) := by
  rcases h with ⟨-, h1, -, h⟩ | ⟨-, h1, h2, h⟩ | ⟨W1, h0, h1, -, h, rfl⟩ | ⟨A6, c6, u, -, -, h1, h, -⟩
  · rw [h4] at h1; cases h1
  · rw [h4] at h1; cases h1
  · rw [h4] at h1
    injection h1 with h1
    exact ⟨W1, h0, h1, h, rfl⟩
  · rw [h5] at h1; cases h1
theorem QJ.done (h : QJ w rb A c b n0 n1 n2 n3 hd q z1 v L x D W) {u : Value} (h5 : D 5 = some u) : ∃ A6 c6, u = .slice A6 (L.length + 1) c6 ∧ MgS w rb A c b n0 n1 n2 n3 hd z1 v (.slice none 0 0) (.slice none 0 0) (.slice none 0 0) W ∧ W.ownsRow (w.heap.size + 4) 44 3 (.slice A6 (L.length + 1) c6) (L.length + 1) (flatQ (L ++ [x])) := by
  rcases h with ⟨-, -, h1, h⟩ | ⟨-, -, h1, h⟩ | ⟨W1, -, -, h1, h, rfl⟩ | ⟨A6, c6, u, -, -, h1, h, h2⟩
  · rw [h5] at h1; cases h1
  · rw [h5] at h1; cases h1
  · rw [h5] at h1; cases h1
  · rw [h5] at h1
    injection h1 with h1
    exact ⟨A6, c6, h1, h, h2⟩
end
theorem wp_appQ {o : Oper} {a : Act} {w : World} {K : Act → World → Prop} {Q : Exit → Act → World → Prop} (hgd : o.guard = none) (x y : Operand) (ho : o.op = .call { callee := .builtin .append, args := #[x, y], argTypes := #[24, 24] }) (u v : Value) (hs : a.eval x = u) (hx : a.eval y = v) {v' : Value} {w' : World}
    (hr : appQu u v o.type w = .ok (.value v') w') (h : K (a.put o.dst v') w') : Oper.wp Tryd.prog o a w K Q := by
  unfold appQu at hr
  unfold Oper.wp execOp
  simp only [ho, resolve, invoke, builtin, Sem.run_bind, Sem.run_pure, Result.andThen_ok, List.map_toArray, List.map_cons, List.map_nil, hs, hx, hr]
  exact h
def SQ (gm rb : Nat) (v : Value) (x : Qu) : Nat → Value → Prop
  | 0, u => u = .pointer (some ⟨gm, 8, none⟩)
  | 1, u => u = v
  | 2, u => u = .pointer (some ⟨rb, 0, none⟩)
  | 3, u => u = .agg (xC x)
  | 6, u => u = .pointer (some ⟨gm, 8, none⟩)
  | _, _ => True
attribute [local go_sem ↓] exec_appQu
set_option maxHeartbeats 2000000 in
set_option maxRecDepth 100000 in
theorem messageD_any (w : World) (rb : Nat) (A : Option Addr) (c : Nat) (b : Bs) (n0 n1 n2 n3 : Nat) (hd : Hd) (h : RdM w rb A c b 12 20) (hb : 0 < b.length) (hn : n0 ≤ 65535 ∧ n1 ≤ 65535 ∧ n2 ≤ 65535 ∧ n3 ≤ 65535) :
    Calls Tryd.prog 49 #[.pointer (some ⟨rb, 0, none⟩), .agg (hdC hd), ctV n0 n1 n2 n3] w (MsgP w rb hd (msR b n0 n1 n2 n3)) := by
  have hmf : ∀ (fn : Fn) (first cap : Array Value) (w : World), (Instr.makeFunc fn first cap).run Tryd.prog w = .ok (.func fn first cap) w := fun _ _ _ _ => rfl
  obtain ⟨W, hW⟩ : ∃ W, W = (((w.alloc (.cells #[.int .i64 hd.i, .bool hd.r, .int .i64 hd.o, .bool hd.aa, .bool hd.tc, .bool hd.rd, .bool hd.ra, .int .i64 hd.c] 23)).alloc (.cells #[.int .i64 n0, .int .i64 n1, .int .i64 n2, .int .i64 n3] 63)).alloc (.cells (mC hd (.slice none 0 0) (.slice none 0 0) (.slice none 0 0) (.slice none 0 0)) 27)).alloc (.cells #[.int .i64 0] 30) := ⟨_, rfl⟩
  have HM : Hid (MgS w rb A c b n0 n1 n2 n3 hd 12 (.slice none 0 0) (.slice none 0 0) (.slice none 0 0) (.slice none 0 0) W) := Lib.hid (by
    subst hW
    have r5 := row_new (w := w.alloc (.cells #[.int .i64 hd.i, .bool hd.r, .int .i64 hd.o, .bool hd.aa, .bool hd.tc, .bool hd.rd, .bool hd.ra, .int .i64 hd.c] 23)) (k := w.heap.size + 1) (.cells #[.int .i64 n0, .int .i64 n1, .int .i64 n2, .int .i64 n3] 63 (0, 0)) (by simp)
    have r6 := row_new (w := (w.alloc (.cells #[.int .i64 hd.i, .bool hd.r, .int .i64 hd.o, .bool hd.aa, .bool hd.tc, .bool hd.rd, .bool hd.ra, .int .i64 hd.c] 23)).alloc (.cells #[.int .i64 n0, .int .i64 n1, .int .i64 n2, .int .i64 n3] 63)) (k := w.heap.size + 1 + 1) (.cells (mC hd (.slice none 0 0) (.slice none 0 0) (.slice none 0 0) (.slice none 0 0)) 27 (0, 0)) (by simp)
    have bw : Below w.heap.size w ((((w.alloc (.cells #[.int .i64 hd.i, .bool hd.r, .int .i64 hd.o, .bool hd.aa, .bool hd.tc, .bool hd.rd, .bool hd.ra, .int .i64 hd.c] 23)).alloc (.cells #[.int .i64 n0, .int .i64 n1, .int .i64 n2, .int .i64 n3] 63)).alloc (.cells (mC hd (.slice none 0 0) (.slice none 0 0) (.slice none 0 0) (.slice none 0 0)) 27)).alloc (.cells #[.int .i64 0] 30)) := Below.alloc (Below.alloc (Below.alloc (Below.alloc (Below.refl _ _) (Nat.le_refl _) _) (by simp) _) (by simp; omega) _) (by simp; omega) _
    exact ⟨h.below bw, Mod.below bw, row_old _ (row_old _ r5), row_old _ r6, row_new _ (by simp), h.lt⟩)
  obtain ⟨R, hR⟩ : ∃ R, R = msR b n0 n1 n2 n3 := ⟨_, rfl⟩
  rw [← hR]
  have HW := Lib.hid hW
  have HA : Hid (∀ q, A = some q → q.block < w.heap.size) := Lib.hid (fun q hq => h.sl.inside q hq hb)
  clear hW h
  unfold hdC
  go_enter_defers Tryd.func49, Tryd.ntmps49
  go_upto_region 3 with fail
  rw [← HW.out]
  have c0 := (cell_of_row _ _ 0 _ _ _ HM.out.rc).trans rfl
  obtain ⟨F, hF⟩ : ∃ F : List Qu → Nat → Rd Parts, F = fun q z => (manyR (reR b) n1 z []).then fun r1 z1 => (manyR (reR b) n2 z1 []).then fun r2 z2 => (manyR (reR b) n3 z2 []).then fun r3 z3 => if z3 < b.length then .no 41 else .ok (q, r1, r2, r3) z3 := ⟨_, rfl⟩
  have HQ0 : Hid (QuS w rb A c b n0 n1 n2 n3 hd R F 0 12 [] (.slice none 0 0) W) := Lib.hid ⟨HM.out, World.ownsRow_nil _ _ _ _, rfl, by rw [hR, hF]; rfl⟩
  have HF := Lib.hid hF
  have HOF : Hid (Off (fun k => k = w.heap.size + 1 + 1) A) := Lib.hid (fun q hq e => by have := HA.out q hq; omega)
  have QN := Lib.hid (fun W q (h : RdM W rb A c b q 20) => questionD_any W rb A c b q h hb)
  have RN := Lib.hid (fun W q n (h : RdM W rb A c b q 20) (hn : n ≤ 65535) => recordsD_any W rb A c b q n h hb hn)
  obtain ⟨hn0, hn1, hn2, hn3⟩ := hn
  have HN123 := Lib.hid (And.intro hn1 (And.intro hn2 hn3))
  have GU := Lib.hid (fun W => (show Calls Tryd.prog 91 #[.int .i64 41] W (fun e w' => e = gaveUp 41 ∧ w' = W) from giveUp_any 41 W))
  clear hR hF hb hn1 hn2 hn3 HM
  go_wp2_with fail
  go_loopw [13] (fun v13 wr => ∃ (k q : Nat) (L : List Qu) (v : Value), v13 = .int .i64 k ∧ k ≤ n0 ∧ Hid (QuS w rb A c b n0 n1 n2 n3 hd R F k q L v wr)) (fun v13 _ => n0 - (intOf v13).toNat)
  case atStart => exact ⟨0, 12, [], _, rfl, by omega, HQ0⟩
  case round =>
    obtain ⟨k, q, L, v, rfl, hk, HS⟩ := hrel
    rename World => wo
    clear HQ0 c0 HW
    by_cases hlt : k < n0
    · have hlt' : (k : Int) < (n0 : Int) := by omega
      have he := HS.out.eq
      rw [show n0 - k = n0 - (k + 1) + 1 by omega] at he
      unfold manyR at he
      have N1 := Lib.hid (fun W (h : RdM W rb A c b q 20) => QN.out W q h)
      cases hn : quR b q with
      | no e0 =>
        rw [hn] at N1 he
        have HN : Hid (R = .no e0) := Lib.hid he
        have hMd := HS.out.mg.on (Below.drew (Below.refl _ _))
        have hRd := hMd.rd
        have c8 := HS.out.mg.cells.2.2.2.1
        have HMD := Lib.hid hMd
        clear he hn hMd
        go_upto_region 5 with fail
        refine wp_region_laneJ 7 (by kernel_rfl) (by kernel_rfl) (by kernel_rfl) rfl (d := fun i => 15 + i) (S := SQ (w.heap.size + 1 + 1) rb v ⟨[], 0, 0⟩) (J := fun D W => D 3 = none ∧ D 4 = none ∧ W = wo.drew) (fun i j hi hj e => by omega) (fun i hi => by simp; omega) ⟨rfl, rfl, rfl⟩ (fun i hi b D a' w' un hno hr => ?_) (fun V D w' hV hJ => absurd (hV 3 (by omega)).1 (by rw [hJ.1]; simp))
        obtain ⟨_, o, ho, hall⟩ := mem_ready.1 hr
        have t0 : (a'.tmps[0]?).getD undef = .pointer (some ⟨rb, 0, none⟩) := slot_of ((un.old 0 (fun i _ => by omega)).trans rfl)
        have t6 : (a'.tmps[6]?).getD undef = .pointer (some ⟨w.heap.size + 1 + 1, 0, none⟩) := slot_of ((un.old 6 (fun i _ => by omega)).trans rfl)
        have t7 : (a'.tmps[7]?).getD undef = .pointer (some ⟨w.heap.size + 1 + 1 + 1, 0, none⟩) := slot_of ((un.old 7 (fun i _ => by omega)).trans rfl)
        obtain ⟨hD3, hD4, rfl⟩ := un.inv
        match i, hi with
        | 0, _ =>
          obtain rfl := Option.some.inj ho
          refine ⟨_, rfl, rfl, ?_⟩
          clear ho hall hr un
          unfold Oper.wp
          go_simp
          exact ⟨_, rfl, rfl, by rw [updD_ne (by decide)]; exact hD3, by rw [updD_ne (by decide)]; exact hD4⟩
        | 1, _ =>
          obtain rfl := Option.some.inj ho
          have h0 := getD_both_true (hall ⟨0, .data⟩ (by simp) rfl)
          obtain ⟨v0, hD0, hv0, hr0⟩ := un.got 0 (by simp) h0
          obtain rfl := hr0
          have s0 := slot_of (j := 15) hv0
          refine ⟨_, rfl, rfl, ?_⟩
          clear ho hall hr hv0 un
          unfold Oper.wp
          go_simp
          exact ⟨_, rfl, rfl, by rw [updD_ne (by decide)]; exact hD3, by rw [updD_ne (by decide)]; exact hD4⟩
        | 2, _ =>
          obtain rfl := Option.some.inj ho
          refine ⟨_, rfl, rfl, ?_⟩
          clear ho hall hr un
          unfold Oper.wp
          go_simp
          exact ⟨_, rfl, rfl, by rw [updD_ne (by decide)]; exact hD3, by rw [updD_ne (by decide)]; exact hD4⟩
        | 3, _ =>
          obtain rfl := Option.some.inj ho
          have h2 := getD_both_true (hall ⟨2, .data⟩ (by simp) rfl)
          obtain ⟨v2, hD2, hv2, hr2⟩ := un.got 2 (by simp) h2
          obtain rfl := hr2
          have s2 := slot_of (j := 17) hv2
          have hdf := un.defers
          have NN := N1.out _ hRd
          refine ⟨_, rfl, rfl, ?_⟩
          clear ho hall hr hv2 un
          unfold Oper.wp
          go_simp
          refine NN.mono ?_
          rintro e w5 ⟨rfl, hm5⟩
          obtain ⟨tm, df⟩ := a'
          obtain rfl : df = _ := hdf
          exact HMD.out.fail hm5 HN.out (by simpa using t6) (by simpa using t7)
        | 4, _ =>
          obtain rfl := Option.some.inj ho
          have h3 := getD_both_true (hall ⟨3, .data⟩ (by simp) rfl)
          obtain ⟨v3, hE3, _, _⟩ := un.got 3 (by simp) h3
          rw [hD3] at hE3
          cases hE3
        | 5, _ =>
          obtain rfl := Option.some.inj ho
          have h4 := getD_both_true (hall ⟨4, .data⟩ (by simp) rfl)
          obtain ⟨v4, hE4, _, _⟩ := un.got 4 (by simp) h4
          rw [hD4] at hE4
          cases hE4
        | 6, _ =>
          obtain rfl := Option.some.inj ho
          refine ⟨_, rfl, rfl, ?_⟩
          clear ho hall hr un
          unfold Oper.wp
          go_simp
          exact ⟨_, rfl, rfl, by rw [updD_ne (by decide)]; exact hD3, by rw [updD_ne (by decide)]; exact hD4⟩
      | ok x z1 =>
        rw [hn] at N1 he
        rw [Rd.then_ok] at he
        have HE := Lib.hid he
        have HLE := Lib.hid HS.out.len
        have HMI : Hid (QMid w rb A c b n0 n1 n2 n3 hd q v L wo.drew) := Lib.hid (by
          have b1 : Below wo.heap.size wo wo.drew := Below.drew (Below.refl _ _)
          exact ⟨HS.out.mg.on b1, ownsRow_below HS.out.own b1 (Nat.le_refl _), (Array.getElem?_eq_some_iff.1 HS.out.mg.re).1⟩)
        clear he hn
        go_upto_region 5 with fail
        refine wp_region_laneJ 7 (by kernel_rfl) (by kernel_rfl) (by kernel_rfl) rfl (d := fun i => 15 + i) (S := SQ (w.heap.size + 1 + 1) rb v x) (J := QJ w rb A c b n0 n1 n2 n3 hd q z1 v L x) (fun i j hi hj e => by omega) (fun i hi => by simp; omega) (.inl ⟨rfl, rfl, rfl, HMI.out⟩) (fun i hi b' D a' w' un hno hr => ?_) (fun V D w' hV hJ => ?_)
        · obtain ⟨_, o, ho, hall⟩ := mem_ready.1 hr
          have t0 : (a'.tmps[0]?).getD undef = .pointer (some ⟨rb, 0, none⟩) := slot_of ((un.old 0 (fun i _ => by omega)).trans rfl)
          have t6 : (a'.tmps[6]?).getD undef = .pointer (some ⟨w.heap.size + 1 + 1, 0, none⟩) := slot_of ((un.old 6 (fun i _ => by omega)).trans rfl)
          have IJ := un.inv
          match i, hi with
          | 0, _ =>
            obtain rfl := Option.some.inj ho
            refine ⟨_, rfl, rfl, ?_⟩
            have PJ := fun u => IJ.pure (i := 0) u (by decide)
            clear ho hall hr un
            unfold Oper.wp
            go_simp
            first | exact ⟨_, rfl, rfl⟩ | exact ⟨_, rfl, rfl, PJ _⟩
          | 1, _ =>
            obtain rfl := Option.some.inj ho
            have h0 := getD_both_true (hall ⟨0, .data⟩ (by simp) rfl)
            obtain ⟨v0, hD0, hv0, hr0⟩ := un.got 0 (by simp) h0
            obtain rfl := hr0
            have s0 := slot_of (j := 15) hv0
            have c8 := IJ.c8
            refine ⟨_, rfl, rfl, ?_⟩
            have PJ := fun u => IJ.pure (i := 1) u (by decide)
            clear ho hall hr hv0 un
            unfold Oper.wp
            go_simp
            first | exact ⟨_, rfl, rfl⟩ | exact ⟨_, rfl, rfl, PJ _⟩
          | 2, _ =>
            obtain rfl := Option.some.inj ho
            refine ⟨_, rfl, rfl, ?_⟩
            have PJ := fun u => IJ.pure (i := 2) u (by decide)
            clear ho hall hr un
            unfold Oper.wp
            go_simp
            first | exact ⟨_, rfl, rfl⟩ | exact ⟨_, rfl, rfl, PJ _⟩
          | 3, _ =>
            obtain rfl := Option.some.inj ho
            have h2 := getD_both_true (hall ⟨2, .data⟩ (by simp) rfl)
            obtain ⟨v2, hD2, hv2, hr2⟩ := un.got 2 (by simp) h2
            obtain rfl := hr2
            have s2 := slot_of (j := 17) hv2
            obtain ⟨k4, k5, hq⟩ := IJ.first hno
            have NN := N1.out w' hq.mg.rd
            refine ⟨_, rfl, rfl, ?_⟩
            clear ho hall hr hv2 un
            unfold Oper.wp
            go_simp
            refine NN.mono ?_
            rintro e w5 ⟨v5, rfl, hv5, hr5, hm5⟩
            obtain rfl : v5 = .agg (xC x) := hv5
            exact ⟨_, rfl, rfl, .inr (.inl ⟨updD_eq, by rw [updD_ne (by decide)]; exact k4, by rw [updD_ne (by decide)]; exact k5, hq.mg.next hr5 hm5, own_mod hq.own hm5 (own_offV hq.own (fun i hi => by have := hq.mg.lt; omega)), Nat.le_trans hq.big hm5.size⟩)⟩
          | 4, _ =>
            obtain rfl := Option.some.inj ho
            have h3 := getD_both_true (hall ⟨3, .data⟩ (by simp) rfl)
            obtain ⟨v3, hD3, hv3, hr3⟩ := un.got 3 (by simp) h3
            obtain ⟨rfl, k5, hq⟩ := IJ.built hD3 hno
            have s3 := slot_of (j := 18) hv3
            refine ⟨_, rfl, rfl, ?_⟩
            clear ho hall hr hv3 un
            unfold Oper.wp
            go_simp
            exact ⟨_, rfl, trivial, .inr (.inr (.inl ⟨w', by rw [updD_ne (by decide)]; exact hD3, updD_eq, by rw [updD_ne (by decide)]; exact k5, hq, rfl⟩))⟩
          | 5, _ =>
            obtain rfl := Option.some.inj ho
            have h1 := getD_both_true (hall ⟨1, .data⟩ (by simp) rfl)
            obtain ⟨v1, hD1, hv1, hr1⟩ := un.got 1 (by simp) h1
            obtain rfl := hr1
            have s1 := slot_of (j := 16) hv1
            have h4 := getD_both_true (hall ⟨4, .data⟩ (by simp) rfl)
            obtain ⟨v4, hD4, hv4, -⟩ := un.got 4 (by simp) h4
            obtain ⟨W1, k3, rfl, hq, rfl⟩ := IJ.more hD4 hno
            have s4 := slot_of (j := 19) hv4
            obtain ⟨v6, w6, hap, -, -, hao, hag⟩ := run_appQ hq.own x (by have := HLE.out; omega) hq.big
            obtain ⟨A6, c6, rfl⟩ := own_formD hao
            have hM6 := BX8 (hq.mg.on (Below.alloc (Below.refl _ _) (Nat.le_refl _) _)) hag (fun j hj => (hq.own.lt j hj).1) HA.out
            refine ⟨_, rfl, rfl, ?_⟩
            clear ho hall hr hv1 hv4 un hag
            exact wp_appQ rfl (.tmp 16) (.tmp 19) rfl _ _ (by simpa [Act.eval] using s1) (by simpa [Act.eval] using s4) hap ⟨_, rfl, trivial, .inr (.inr (.inr ⟨A6, c6, _, by rw [updD_ne (by decide)]; exact k3, by rw [updD_ne (by decide)]; exact hD4, updD_eq, hM6, hao⟩))⟩
          | 6, _ =>
            obtain rfl := Option.some.inj ho
            refine ⟨_, rfl, rfl, ?_⟩
            have PJ := fun u => IJ.pure (i := 6) u (by decide)
            clear ho hall hr un
            unfold Oper.wp
            go_simp
            first | exact ⟨_, rfl, rfl⟩ | exact ⟨_, rfl, rfl, PJ _⟩
        · have h5 := (hV 5 (by omega)).1
          have h6 : V 6 = .pointer (some ⟨w.heap.size + 1 + 1, 8, none⟩) := (hV 6 (by omega)).2
          obtain ⟨A6, c6, h5v, hm6, ho6⟩ := hJ.done h5
          have c8 := hm6.cells.2.2.2.1
          have f8 := hm6.cells.2.2.2.2.2.2.2 8
          have hmS := mod_setCell w' (w.heap.size + 1 + 1) 8 (.slice A6 (L.length + 1) c6)
          have HNEW : Hid (QuS w rb A c b n0 n1 n2 n3 hd R F (k + 1) z1 (L ++ [x]) (.slice A6 (L.length + 1) c6) (w'.setCell ⟨w.heap.size + 1 + 1, 8, none⟩ (.slice A6 (L.length + 1) c6))) := Lib.hid ⟨hm6.set HOF.out 8 _ rfl, by rw [List.length_append]; exact own_mod ho6 hmS (own_offV ho6 (fun i hi => by omega)), by rw [List.length_append, HLE.out]; rfl, HE.out⟩
          obtain ⟨ln, hln⟩ : ∃ n, n = L.length + 1 := ⟨_, rfl⟩
          rw [← hln] at h5v HNEW
          simp only [putAll, Act.put, Nat.reduceAdd, List.setIfInBounds_toArray, List.set_cons_succ, List.set_cons_zero, List.drop_succ_cons, List.drop_zero]
          rw [h5v, h6]
          generalize V 0 = y0, V 1 = y1, V 2 = y2, V 3 = y3, V 4 = y4, V 5 = y5, V 6 = y6 at *
          clear hV hJ h5 h6 h5v hm6 ho6 hmS HMI HS HLE hln HE
          go_wp2_with fail
          go_roundw
          case rel => exact ⟨k + 1, z1, L ++ [x], _, by go_num, by omega, HNEW⟩
          case measure => simp [intOf]; omega
    · have hlt' : ¬ (k : Int) < (n0 : Int) := by omega
      have he := HS.out.eq
      rw [show n0 - k = 0 by omega] at he
      unfold manyR at he
      rw [Rd.then_ok, HF.out] at he
      obtain ⟨Aq, cq, rfl, -, hTq, hLq⟩ := own_qsT HS.out.own
      have HE : Hid (R = (manyR (reR b) n1 q []).then fun r1 z1 => (manyR (reR b) n2 z1 []).then fun r2 z2 => (manyR (reR b) n3 z2 []).then fun r3 z3 => if z3 < b.length then .no 41 else .ok (L, r1, r2, r3) z3) := Lib.hid he
      have HT0 := Lib.hid hTq
      have HL0 := Lib.hid hLq
      have HG0 := Lib.hid HS.out.mg
      clear he hTq hLq QN
      have N1 := RN.out wo q n1 HG0.out.rd HN123.out.1
      have cz1 := HG0.out.cells.1
      cases hn1 : manyR (reR b) n1 q [] with
      | no e1 =>
        rw [hn1] at N1 HE
        have N1 := Lib.hid N1
        have HN : Hid (R = .no e1) := Lib.hid HE.out
        clear hn1
        go_wp2_with fail
        refine N1.out.mono ?_
        rintro e w1 ⟨rfl, hm1⟩
        exact HG0.out.fail hm1 HN.out rfl rfl
      | ok M1 z1 =>
        rw [hn1, Rd.then_ok] at HE
        rw [hn1] at N1
        have N1 := Lib.hid N1
        clear hn1
        go_wp2_with fail
        refine N1.out.mono ?_
        rintro e w1 ⟨v1, rfl, ⟨A1, c1, rfl, hT1, hL1⟩, hr1, hm1⟩
        have hg1 := HG0.out.next hr1 hm1
        have hrow1 := hg1.rm
        have hc1 := hg1.cells.2.2.2.2.1
        have hf1 := hg1.cells.2.2.2.2.2.2.2 9
        have hT0' := (HT0.out.rdQ hm1 HG0.out.rd.row).msQ hrow1 9 (.slice A1 M1.length c1)
        have HT1 := Lib.hid (hT1.msR hrow1 9 (.slice A1 M1.length c1))
        have HT0 := Lib.hid hT0'
        have HL1 := Lib.hid hL1
        have HG1 := Lib.hid (hg1.set HOF.out 9 (.slice A1 M1.length c1) (vq' := .slice Aq L.length cq) (va' := .slice A1 M1.length c1) (vb' := .slice none 0 0) (vc' := .slice none 0 0) rfl)
        have hg1m := hg1
        clear hT1 hL1 hr1 hm1 hg1 hrow1 cz1 N1 hg1m hT0'
        go_upto_region 8 with fail
        generalize hW1 : World.setCell w1 ⟨w.heap.size + 1 + 1, 9, none⟩ (.slice A1 M1.length c1) = W1 at *
        clear hW1 hc1 hf1
        have N2 := RN.out W1 z1 n2 HG1.out.rd HN123.out.2.1
        have cz2 := HG1.out.cells.2.1
        cases hn2 : manyR (reR b) n2 z1 [] with
        | no e2 =>
          rw [hn2] at N2 HE
          have N2 := Lib.hid N2
          have HN : Hid (R = .no e2) := Lib.hid HE.out
          clear hn2
          go_wp2_with fail
          refine N2.out.mono ?_
          rintro e w2 ⟨rfl, hm2⟩
          exact HG1.out.fail hm2 HN.out rfl rfl
        | ok M2 z2 =>
          rw [hn2, Rd.then_ok] at HE
          rw [hn2] at N2
          have N2 := Lib.hid N2
          clear hn2
          go_wp2_with fail
          refine N2.out.mono ?_
          rintro e w2 ⟨v2, rfl, ⟨A2, c2, rfl, hT2, hL2⟩, hr2, hm2⟩
          have hg2 := HG1.out.next hr2 hm2
          have hrow2 := hg2.rm
          have hc2 := hg2.cells.2.2.2.2.2.1
          have hf2 := hg2.cells.2.2.2.2.2.2.2 10
          have hT0' := (HT0.out.rdQ hm2 HG1.out.rd.row).msQ hrow2 10 (.slice A2 M2.length c2)
          have hT1' := (HT1.out.rdR hm2 HG1.out.rd.row).msR hrow2 10 (.slice A2 M2.length c2)
          have HT2 := Lib.hid (hT2.msR hrow2 10 (.slice A2 M2.length c2))
          have HT0 := Lib.hid hT0'
          have HT1 := Lib.hid hT1'
          have HL2 := Lib.hid hL2
          have HG2 := Lib.hid (hg2.set HOF.out 10 (.slice A2 M2.length c2) (vq' := .slice Aq L.length cq) (va' := .slice A1 M1.length c1) (vb' := .slice A2 M2.length c2) (vc' := .slice none 0 0) rfl)
          have hg2m := hg2
          clear hT2 hL2 hr2 hm2 hg2 hrow2 cz2 N2 hg2m hT0' hT1'
          go_upto_region 9 with fail
          generalize hW2 : World.setCell w2 ⟨w.heap.size + 1 + 1, 10, none⟩ (.slice A2 M2.length c2) = W2 at *
          clear hW2 hc2 hf2
          have N3 := RN.out W2 z2 n3 HG2.out.rd HN123.out.2.2
          have cz3 := HG2.out.cells.2.2.1
          cases hn3 : manyR (reR b) n3 z2 [] with
          | no e3 =>
            rw [hn3] at N3 HE
            have N3 := Lib.hid N3
            have HN : Hid (R = .no e3) := Lib.hid HE.out
            clear hn3
            go_wp2_with fail
            refine N3.out.mono ?_
            rintro e w3 ⟨rfl, hm3⟩
            exact HG2.out.fail hm3 HN.out rfl rfl
          | ok M3 z3 =>
            rw [hn3, Rd.then_ok] at HE
            rw [hn3] at N3
            have N3 := Lib.hid N3
            clear hn3
            go_wp2_with fail
            refine N3.out.mono ?_
            rintro e w3 ⟨v3, rfl, ⟨A3, c3, rfl, hT3, hL3⟩, hr3, hm3⟩
            have hg3 := HG2.out.next hr3 hm3
            have hrow3 := hg3.rm
            have hc3 := hg3.cells.2.2.2.2.2.2.1
            have hf3 := hg3.cells.2.2.2.2.2.2.2 11
            have hT0' := (HT0.out.rdQ hm3 HG2.out.rd.row).msQ hrow3 11 (.slice A3 M3.length c3)
            have hT1' := (HT1.out.rdR hm3 HG2.out.rd.row).msR hrow3 11 (.slice A3 M3.length c3)
            have hT2' := (HT2.out.rdR hm3 HG2.out.rd.row).msR hrow3 11 (.slice A3 M3.length c3)
            have HT3 := Lib.hid (hT3.msR hrow3 11 (.slice A3 M3.length c3))
            have HT0 := Lib.hid hT0'
            have HT1 := Lib.hid hT1'
            have HT2 := Lib.hid hT2'
            have HL3 := Lib.hid hL3
            have HG3 := Lib.hid (hg3.set HOF.out 11 (.slice A3 M3.length c3) (vq' := .slice Aq L.length cq) (va' := .slice A1 M1.length c1) (vb' := .slice A2 M2.length c2) (vc' := .slice A3 M3.length c3) rfl)
            have hg3m := hg3
            clear hT3 hL3 hr3 hm3 hg3 hrow3 cz3 N3 hg3m hT0' hT1' hT2'
            go_upto_region 10 with fail
            generalize hW3 : World.setCell w3 ⟨w.heap.size + 1 + 1, 11, none⟩ (.slice A3 M3.length c3) = W3 at *
            clear hW3 hc3 hf3
            obtain ⟨d0, d1, d2, d3⟩ := HG3.out.rd.cells
            have hle := HG3.out.rd.le
            have mx := HG3.out.rd.mx
            obtain ⟨bl, hbl⟩ : ∃ n, n = b.length := ⟨_, rfl⟩
            rw [← hbl] at d0 hle mx HE
            have HG3d := Lib.hid (fun n => HG3.out.on (below_drewN (Below.refl W3.heap.size W3) n))
            by_cases htr : z3 < bl
            · rw [if_pos htr] at HE
              have htr' : (z3 : Int) < (bl : Int) := by omega
              clear hbl
              go_wp2_with fail
              go_quiet (fail)
              go_wp2_with fail
              refine (GU.out _).mono ?_
              rintro e w5 ⟨rfl, rfl⟩
              exact (HG3d.out _).fail (Mod.refl _ _) HE.out rfl rfl
            · rw [if_neg htr] at HE
              have htr' : ¬ (z3 : Int) < (bl : Int) := by omega
              clear hbl
              go_wp2_with fail
              go_quiet (fail)
              obtain ⟨C, hC⟩ : ∃ C : Array Value, C = #[.int .i64 hd.i, .bool hd.r, .int .i64 hd.o, .bool hd.aa, .bool hd.tc, .bool hd.rd, .bool hd.ra, .int .i64 hd.c, .slice Aq L.length cq, .slice A1 M1.length c1, .slice A2 M2.length c2, .slice A3 M3.length c3] := ⟨_, rfl⟩
              have i1 : Hid ((Tryd.prog.info? 27).map (·.size) = some C.size) := Lib.hid (by rw [hC]; exact info_ms)
              have one1 : Hid (C.all (·.oneCell') = true) := Lib.hid (by rw [hC]; simp [Value.oneCell'])
              have row4 : ∀ n, (W3.drewN n).heap[w.heap.size + 1 + 1]? = some (.cells C 27 (0, 0)) := fun n => by rw [hC]; exact (HG3d.out n).rm
              have row5 : ∀ n, ((W3.drewN n).setRow (w.heap.size + 1 + 1) C).heap[w.heap.size + 1 + 1 + 1]? = some (.cells #[.int .i64 0] 30 (0, 0)) := fun n => (setRow_other _ _ _ _ (by omega)).trans (HG3d.out n).re
              have e0 : ∀ n, ((W3.drewN n).setRow (w.heap.size + 1 + 1) C).cell? ⟨w.heap.size + 1 + 1 + 1, 0, none⟩ = some (.int .i64 0) := fun n => (cell_of_row _ _ 0 _ _ _ (row5 n)).trans rfl
              have e1 : ∀ n, ((W3.drewN n).setRow (w.heap.size + 1 + 1) C).frozen? ⟨w.heap.size + 1 + 1 + 1, 0, none⟩ = false := fun n => frozen_of_row _ _ 0 _ _ (row5 n)
              have LST := Lib.hid (fun n => msg_last HG3.out HT0.out HT1.out HT2.out HT3.out HL0.out HL1.out HL2.out HL3.out n hC)
              have ROW4 := Lib.hid row4
              have HC := Lib.hid hC
              clear hC row4 row5 d0 d1 d2 d3 htr'
              go_wp2_with (first
                | (refine wpList_load_row rfl 27 (.tmp 6) rfl (w.heap.size + 1 + 1) rfl 27 C (0, 0) _ (ROW4.out _) Tryd.underlying27 rfl i1.out ?_)
                | (refine wpList_store_row rfl 27 (.tmp 6) (.tmp 49) rfl (w.heap.size + 1 + 1) C rfl rfl 27 _ (ROW4.out _) i1.out rfl one1.out ?_)
                | fail)
              refine leaves_cons (f := 88) (args := #[.pointer (some ⟨w.heap.size + 1 + 1, 0, none⟩), .pointer (some ⟨w.heap.size + 1 + 1 + 1, 0, none⟩)]) (by simp) (by simp [go_sem]) ?_
              refine (catch_idle ⟨w.heap.size + 1 + 1, 0, none⟩ ⟨w.heap.size + 1 + 1 + 1, 0, none⟩ _).mono ?_
              rintro e u' w'' ⟨rfl, rfl, rfl⟩
              obtain ⟨l1, l2, l3, l4⟩ := LST.out nq
              generalize hW6 : (((W3.drewN nq).setRow (w.heap.size + 1 + 1) C).setCell ⟨w.heap.size + 1 + 1 + 1, 0, none⟩ (.int .i64 0)) = W6 at *
              have q6 : (loadVar 27 ⟨w.heap.size + 1 + 1, 0, none⟩).run Tryd.prog W6 = .ok (.agg C) W6 := run_loadVar_row _ _ 27 27 C (0, 0) _ l1 Tryd.underlying27 rfl i1.out
              have q7 : W6.cell? ⟨w.heap.size + 1 + 1 + 1, 0, none⟩ = some (.int .i64 0) := (cell_of_row _ _ 0 _ _ _ l2).trans rfl
              have q8 : (loadVar 30 ⟨w.heap.size + 1 + 1 + 1, 0, none⟩).run Tryd.prog W6 = .ok (.int .i64 0) W6 := by simp [go_sem, q7]
              have HPN : MsgP w rb hd R (.returned (.tuple #[.agg C, .int .i64 0])) W6 := by rw [HE.out]; exact ⟨_, by rw [HC.out]; rfl, l3, l4⟩
              refine ⟨_, ?_, HPN⟩
              simp [results, Tryd.results49, asAddr, q6, q8]
end Go.Proofs.YtknpkifhkefikaaDoor
