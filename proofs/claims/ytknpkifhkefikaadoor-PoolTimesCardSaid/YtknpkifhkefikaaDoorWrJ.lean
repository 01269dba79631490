/-
  wire.Can.
-/
import Derived.Test.YtknpkifhkefikaaDoorWrI
import Derived.Test.YtknpkifhkefikaaDoorWh
namespace Go.Proofs.YtknpkifhkefikaaDoor
open Go.RowKit Go.Maps
set_option linter.unusedVariables false
set_option maxRecDepth 100000

noncomputable def loadMg (v : Value) (w : World) : Result Next := ((Instr.loadAt 27 v).run Tryd.prog w).andThen fun a w' => .ok (.value a) w'
theorem exec_loadMg (ev : Operand → Value) (d : Option Tmp) (x : Operand) (t : TypeId) (p : String) (f : Array Edge) (gd : Option (Nat × Bool)) (w : World) : (execOp ev { dst := d, op := .load 27 x, type := t, pos := p, after := f, guard := gd }).run Tryd.prog w = loadMg (ev x) w := by
  unfold execOp loadMg
  simp only [Sem.run_bind, Sem.run_pure]
theorem loadMg_row {w1 : World} {g : Nat} {C : Array Value} (h : w1.heap[g]? = some (.cells C 27 (0, 0))) (hC : (Tryd.prog.info? 27).map (·.size) = some C.size) : loadMg (.pointer (some ⟨g, 0, none⟩)) w1 = .ok (.value (.agg C)) w1 := by
  unfold loadMg
  simp only [Instr.loadAt, Instr.sureAddr, Sem.run_bind, Sem.run_pure, Result.andThen_ok, run_loadVar_row w1 g 27 27 C (0, 0) _ h Tryd.underlying27 rfl hC]
attribute [local go_sem ↓] exec_loadMg exec_loadHd
/-- The message in its box; header's masks. -/
structure BM (W : World) (m : Msg) (v : MV) (wr : World) : Prop where
  r : wr.heap[W.heap.size]? = some (.cells (msL m v).toArray 27 (0, 0))
  k : Masks wr
  b : Below W.heap.size W wr
theorem BM.on {W wr w1 : World} {m : Msg} {v : MV} (h : BM W m v wr) (k : Below wr.heap.size wr w1) : BM W m v w1 := ⟨(k.block _ (Array.getElem?_eq_some_iff.1 h.r).1).trans h.r, h.k.on k, Below.trans h.b (k.mono h.b.size)⟩
theorem BM.drew {W wr : World} {m : Msg} {v : MV} (h : BM W m v wr) : BM W m v wr.drew := h.on (Below.drew (Below.refl _ _))
theorem BM.lt {W wr : World} {m : Msg} {v : MV} (h : BM W m v wr) : W.heap.size < wr.heap.size := (Array.getElem?_eq_some_iff.1 h.r).1
theorem BM.start (W : World) (m : Msg) (v : MV) (hk : Masks W) : BM W m v (W.alloc (.cells (msL m v).toArray 27)) := ⟨row_new _ rfl, hk.on (Below.alloc (Below.refl _ _) (Nat.le_refl _) _), Below.alloc (Below.refl _ _) (Nat.le_refl _) _⟩
def canM (m : Msg) : Bool := canHd m.h m.q.length m.an.length m.au.length m.ad.length && (m.q.all canQ && m.rs.all canR)
theorem canR_eq (r : Rr) : canR r = (canB r.n r.t r.c && (decide (0 ≤ r.ttl) && (decide (r.ttl ≤ 4294967295) && canD r.t r.d))) := by
  unfold canR canB
  simp only [Bool.and_assoc]
theorem all_at {α : Type} {f : α → Bool} {l : List α} {k : Nat} (h : k < l.length) : (l.drop k).all f = (f l[k] && (l.drop (k + 1)).all f) := by
  rw [List.drop_eq_getElem_cons h, List.all_cons]
theorem all_end {α : Type} {f : α → Bool} {l : List α} {k : Nat} (h : l.length ≤ k) : (l.drop k).all f = true := by
  rw [List.drop_eq_nil_of_le h]; rfl
structure Sec where
  l : List Rr
  A : Option Addr
  c : Nat
def Sec.v (s : Sec) : Value := .slice s.A s.l.length s.c
def secs (m : Msg) (v : MV) : List Sec := [⟨m.an, v.a1, v.c1⟩, ⟨m.au, v.a2, v.c2⟩, ⟨m.ad, v.a3, v.c3⟩]
theorem secs_ix (m : Msg) (v : MV) (j : Nat) (hj : j < 3) (W : World) : (Instr.index 69 (.agg #[.slice v.a1 m.an.length v.c1, .slice v.a2 m.au.length v.c2, .slice v.a3 m.ad.length v.c3]) (.int .i64 (j : Int))).run Tryd.prog W = .ok (((secs m v)[j]'(by simpa [secs] using hj)).v) W := by
  have : j = 0 ∨ j = 1 ∨ j = 2 := by omega
  rcases this with rfl | rfl | rfl
  all_goals rfl
theorem secs_rs {w : World} {m : Msg} {v : MV} (h : Ms w m v) (j : Nat) (hj : j < 3) : Rs w ((secs m v)[j]'(by simpa [secs] using hj)).A ((secs m v)[j]'(by simpa [secs] using hj)).l ∧ ((secs m v)[j]'(by simpa [secs] using hj)).l.length ≤ ((secs m v)[j]'(by simpa [secs] using hj)).c ∧ ((secs m v)[j]'(by simpa [secs] using hj)).c ≤ 9223372036854775807 := by
  have : j = 0 ∨ j = 1 ∨ j = 2 := by omega
  rcases this with rfl | rfl | rfl
  · exact ⟨h.an, h.l1⟩
  · exact ⟨h.au, h.l2⟩
  · exact ⟨h.ad, h.l3⟩
theorem secs_all (m : Msg) (v : MV) (f : Rr → Bool) : m.rs.all f = (secs m v).all (fun s => s.l.all f) := by
  simp [Msg.rs, secs, List.all_append]
theorem info_qu3 : (Tryd.prog.info? 44).map (·.size) = some 3 := info_qu
def quZ : Array Value := #[.string ⟨#[]⟩, .int .i64 0, .int .i64 0]
/-- A struct loaded out of a slice and stored in a box of its own. -/
theorem box_row (wr : World) (Z : Array Value) (l : List Value) (T : TypeId) : ((wr.alloc (.cells Z T)).setRow wr.heap.size l.toArray).heap[wr.heap.size]? = some (.cells l.toArray T (0, 0)) ∧ Below wr.heap.size wr ((wr.alloc (.cells Z T)).setRow wr.heap.size l.toArray) :=
  ⟨setRow_heap _ _ _ l.toArray _ _ (row_new (w := wr) (k := wr.heap.size) (.cells Z T (0, 0)) rfl), Below.setRow (Below.alloc (Below.refl _ _) (Nat.le_refl _) _) (Nat.le_refl _) _⟩
end Go.Proofs.YtknpkifhkefikaaDoor
