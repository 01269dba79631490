/-
  header.can by a contract; words on headers and the table of masks.
  Rows of cells: what stands in a block, cell by cell; a store of some cells.
  header.Encode by a contract: appendNumber, then the whole.
  header.Encode by its contract: the error where a number does not fit; else twelve bytes.
-/
import Derived.Test.YtknpkifhkefikaaDoorRows
import Derived.Test.YtknpkifhkefikaaDoorHdB
import Derived.Handy
import Derived.WalkSpells
import Derived.WalkLawsBesides
import Derived.Deep.QuietTactic
import Derived.BigQuiet
import Derived.Lib.Hide
import Derived.WalkKit
import Derived.Laws.Rows
import Derived.Deep.Draws
import Derived.Deep.AppendLies
namespace Go.Proofs.YtknpkifhkefikaaDoor
open Go.RowKit

theorem ret_int {k : IntKind} {a b : Int} (h : a = b) : Ending.returned (.int k a) = .returned (.int k b) := by rw [h]
theorem ret_bool {a b : Bool} (h : a = b) : Ending.returned (.bool a) = .returned (.bool b) := by rw [h]

/-- All seven numbers of a header fit. -/
def canH (i o c n0 n1 n2 n3 : Int) : Bool := decide ((0 ≤ n0 ∧ n0 ≤ 65535) ∧ (0 ≤ n1 ∧ n1 ≤ 65535) ∧ (0 ≤ n2 ∧ n2 ≤ 65535) ∧ (0 ≤ n3 ∧ n3 ≤ 65535) ∧ (0 ≤ i ∧ i ≤ 65535) ∧ (0 ≤ o ∧ o ≤ 15) ∧ (0 ≤ c ∧ c ≤ 15))
theorem canH_true {i o c n0 n1 n2 n3 : Int} (h : (0 ≤ n0 ∧ n0 ≤ 65535) ∧ (0 ≤ n1 ∧ n1 ≤ 65535) ∧ (0 ≤ n2 ∧ n2 ≤ 65535) ∧ (0 ≤ n3 ∧ n3 ≤ 65535) ∧ (0 ≤ i ∧ i ≤ 65535) ∧ (0 ≤ o ∧ o ≤ 15) ∧ (0 ≤ c ∧ c ≤ 15)) : canH i o c n0 n1 n2 n3 = true := decide_eq_true h
theorem canH_false {i o c n0 n1 n2 n3 : Int} (h : ¬ ((0 ≤ n0 ∧ n0 ≤ 65535) ∧ (0 ≤ n1 ∧ n1 ≤ 65535) ∧ (0 ≤ n2 ∧ n2 ≤ 65535) ∧ (0 ≤ n3 ∧ n3 ≤ 65535) ∧ (0 ≤ i ∧ i ≤ 65535) ∧ (0 ≤ o ∧ o ≤ 15) ∧ (0 ≤ c ∧ c ≤ 15))) : canH i o c n0 n1 n2 n3 = false := decide_eq_false h
theorem canH_iff {i o c n0 n1 n2 n3 : Int} {p : Prop} [Decidable p] (h : p ↔ ((0 ≤ n0 ∧ n0 ≤ 65535) ∧ (0 ≤ n1 ∧ n1 ≤ 65535) ∧ (0 ≤ n2 ∧ n2 ≤ 65535) ∧ (0 ≤ n3 ∧ n3 ≤ 65535) ∧ (0 ≤ i ∧ i ≤ 65535) ∧ (0 ≤ o ∧ o ≤ 15) ∧ (0 ≤ c ∧ c ≤ 15))) : decide p = canH i o c n0 n1 n2 n3 := decide_eq_decide.2 h
theorem canH_out {i o c n0 n1 n2 n3 : Int} (h : canH i o c n0 n1 n2 n3 = true) : (0 ≤ n0 ∧ n0 ≤ 65535) ∧ (0 ≤ n1 ∧ n1 ≤ 65535) ∧ (0 ≤ n2 ∧ n2 ≤ 65535) ∧ (0 ≤ n3 ∧ n3 ≤ 65535) ∧ (0 ≤ i ∧ i ≤ 65535) ∧ (0 ≤ o ∧ o ≤ 15) ∧ (0 ≤ c ∧ c ≤ 15) := of_decide_eq_true h

abbrev hdV (i : Int) (r : Bool) (o : Int) (aa tc rd ra : Bool) (c : Int) : Value := .agg #[.int .i64 i, .bool r, .int .i64 o, .bool aa, .bool tc, .bool rd, .bool ra, .int .i64 c]
abbrev ctV (n0 n1 n2 n3 : Int) : Value := .agg #[.int .i64 n0, .int .i64 n1, .int .i64 n2, .int .i64 n3]

set_option maxHeartbeats 800000 in
theorem can_any (i o c n0 n1 n2 n3 : Int) (r aa tc rd ra : Bool) (w : World) :
    Calls Tryd.prog 70 #[hdV i r o aa tc rd ra c, ctV n0 n1 n2 n3] w fun e w' => e = .returned (.bool (canH i o c n0 n1 n2 n3)) ∧ Below w.heap.size w w' := by
  have i0 : ∀ w : World, (Instr.index 63 (ctV n0 n1 n2 n3) (.int .i64 0)).run Tryd.prog w = .ok (.int .i64 n0) w := fun _ => by kernel_rfl
  have i1 : ∀ w : World, (Instr.index 63 (ctV n0 n1 n2 n3) (.int .i64 1)).run Tryd.prog w = .ok (.int .i64 n1) w := fun _ => by kernel_rfl
  have i2 : ∀ w : World, (Instr.index 63 (ctV n0 n1 n2 n3) (.int .i64 2)).run Tryd.prog w = .ok (.int .i64 n2) w := fun _ => by kernel_rfl
  have i3 : ∀ w : World, (Instr.index 63 (ctV n0 n1 n2 n3) (.int .i64 3)).run Tryd.prog w = .ok (.int .i64 n3) w := fun _ => by kernel_rfl
  go_enter Tryd.func70, Tryd.ntmps70
  go_wp2
  go_loop [8] (fun v => ∃ k : Nat, k ≤ 4 ∧ v = .int .i64 k ∧ (0 < k → 0 ≤ n0 ∧ n0 ≤ 65535) ∧ (1 < k → 0 ≤ n1 ∧ n1 ≤ 65535) ∧ (2 < k → 0 ≤ n2 ∧ n2 ≤ 65535) ∧ (3 < k → 0 ≤ n3 ∧ n3 ≤ 65535)) (fun v => 4 - (intOf v).toNat)
  case atStart => exact ⟨0, by omega, rfl, by omega, by omega, by omega, by omega⟩
  case round =>
    obtain ⟨k, hk, rfl, a0, a1, a2, a3⟩ := hrel
    have hk5 : k = 0 ∨ k = 1 ∨ k = 2 ∨ k = 3 ∨ k = 4 := by omega
    rcases hk5 with rfl | rfl | rfl | rfl | rfl
    all_goals
      go_wp2
      all_goals first
        | (go_ret; exact ⟨ret_bool (canH_false (by omega)).symm, by go_grown⟩)
        | (refine ⟨?_, by simp [intOf]⟩; first | exact ⟨1, by omega, rfl, by omega, by omega, by omega, by omega⟩ | exact ⟨2, by omega, rfl, by omega, by omega, by omega, by omega⟩ | exact ⟨3, by omega, rfl, by omega, by omega, by omega, by omega⟩ | exact ⟨4, by omega, rfl, by omega, by omega, by omega, by omega⟩)
        | (go_ret; exact ⟨ret_bool (canH_iff (by omega)), by go_grown⟩)

/-- The five masks stand in the table. -/
structure Masks (w : World) : Prop where
  m0 : w.cell? ⟨0, 0, none⟩ = some (.int .i64 32768)
  m1 : w.cell? ⟨0, 1, none⟩ = some (.int .i64 1024)
  m2 : w.cell? ⟨0, 2, none⟩ = some (.int .i64 512)
  m3 : w.cell? ⟨0, 3, none⟩ = some (.int .i64 256)
  m4 : w.cell? ⟨0, 4, none⟩ = some (.int .i64 128)
  lt : 0 < w.heap.size

theorem cellB {w W : World} {bk o : Nat} {v : Value} (hb : bk < w.heap.size) (h : w.cell? ⟨bk, o, none⟩ = some v) (hB : Below w.heap.size w W) : W.cell? ⟨bk, o, none⟩ = some v := (hB.cell (p := ⟨bk, o, none⟩) hb).trans h

end Go.Proofs.YtknpkifhkefikaaDoor
namespace Go.Proofs.YtknpkifhkefikaaDoor
open Go.RowKit

theorem hrow_set {w : World} {g i : Nat} {cs cs' : Array Value} {t : TypeId} (v : Value) (hg : w.heap[g]? = some (.cells cs t (0, 0))) (hc : cs.setIfInBounds i v = cs') : (w.setCell ⟨g, i, none⟩ v).heap[g]? = some (.cells cs' t (0, 0)) := by
  rw [← hc]; exact heap_setCell_same _ _ _ _ _ _ hg
theorem hrow_other {w : World} {g k i : Nat} {o : Option Obj} (v : Value) (hk : w.heap[k]? = o) (h : k ≠ g) : (w.setCell ⟨g, i, none⟩ v).heap[k]? = o := (heap_setCell_other _ _ _ _ (by simpa using h)).trans hk

/-- Two results are stored over what stood in their blocks: eight cells, then four. -/
theorem stored {W : World} {B : Nat} {t t' : TypeId} {v0 v1 v2 v3 v4 v5 v6 v7 a0 a1 a2 a3 a4 a5 a6 a7 u0 u1 u2 u3 c0 c1 c2 c3 : Value} (r2 : W.heap[B]? = some (.cells #[a0, a1, a2, a3, a4, a5, a6, a7] t (0, 0))) (r3 : W.heap[B + 1]? = some (.cells #[c0, c1, c2, c3] t' (0, 0))) :
    (((((((((((((W).setCell ⟨B, 0, none⟩ v0).setCell ⟨B, 1, none⟩ v1).setCell ⟨B, 2, none⟩ v2).setCell ⟨B, 3, none⟩ v3).setCell ⟨B, 4, none⟩ v4).setCell ⟨B, 5, none⟩ v5).setCell ⟨B, 6, none⟩ v6).setCell ⟨B, 7, none⟩ v7).setCell ⟨B + 1, 0, none⟩ u0).setCell ⟨B + 1, 1, none⟩ u1).setCell ⟨B + 1, 2, none⟩ u2).setCell ⟨B + 1, 3, none⟩ u3).heap[B]? = some (.cells #[v0, v1, v2, v3, v4, v5, v6, v7] t (0, 0)) ∧
    (((((((((((((W).setCell ⟨B, 0, none⟩ v0).setCell ⟨B, 1, none⟩ v1).setCell ⟨B, 2, none⟩ v2).setCell ⟨B, 3, none⟩ v3).setCell ⟨B, 4, none⟩ v4).setCell ⟨B, 5, none⟩ v5).setCell ⟨B, 6, none⟩ v6).setCell ⟨B, 7, none⟩ v7).setCell ⟨B + 1, 0, none⟩ u0).setCell ⟨B + 1, 1, none⟩ u1).setCell ⟨B + 1, 2, none⟩ u2).setCell ⟨B + 1, 3, none⟩ u3).heap[B + 1]? = some (.cells #[u0, u1, u2, u3] t' (0, 0)) := by
  have n1 : B ≠ B + 1 := by omega
  have n2 : B + 1 ≠ B := by omega
  have x0 := hrow_set (i := 0) (cs' := #[v0, a1, a2, a3, a4, a5, a6, a7]) v0 r2 (by simp)
  have x1 := hrow_set (i := 1) (cs' := #[v0, v1, a2, a3, a4, a5, a6, a7]) v1 x0 (by simp)
  have x2 := hrow_set (i := 2) (cs' := #[v0, v1, v2, a3, a4, a5, a6, a7]) v2 x1 (by simp)
  have x3 := hrow_set (i := 3) (cs' := #[v0, v1, v2, v3, a4, a5, a6, a7]) v3 x2 (by simp)
  have x4 := hrow_set (i := 4) (cs' := #[v0, v1, v2, v3, v4, a5, a6, a7]) v4 x3 (by simp)
  have x5 := hrow_set (i := 5) (cs' := #[v0, v1, v2, v3, v4, v5, a6, a7]) v5 x4 (by simp)
  have x6 := hrow_set (i := 6) (cs' := #[v0, v1, v2, v3, v4, v5, v6, a7]) v6 x5 (by simp)
  have x7 := hrow_set (i := 7) (cs' := #[v0, v1, v2, v3, v4, v5, v6, v7]) v7 x6 (by simp)
  have y0 := hrow_other (g := B) (i := 0) v0 r3 n2
  have y1 := hrow_other (g := B) (i := 1) v1 y0 n2
  have y2 := hrow_other (g := B) (i := 2) v2 y1 n2
  have y3 := hrow_other (g := B) (i := 3) v3 y2 n2
  have y4 := hrow_other (g := B) (i := 4) v4 y3 n2
  have y5 := hrow_other (g := B) (i := 5) v5 y4 n2
  have y6 := hrow_other (g := B) (i := 6) v6 y5 n2
  have y7 := hrow_other (g := B) (i := 7) v7 y6 n2
  have z0 := hrow_set (i := 0) (cs' := #[u0, c1, c2, c3]) u0 y7 (by simp)
  have z1 := hrow_set (i := 1) (cs' := #[u0, u1, c2, c3]) u1 z0 (by simp)
  have z2 := hrow_set (i := 2) (cs' := #[u0, u1, u2, c3]) u2 z1 (by simp)
  have z3 := hrow_set (i := 3) (cs' := #[u0, u1, u2, u3]) u3 z2 (by simp)
  have q0 := hrow_other (g := B + 1) (i := 0) u0 x7 n1
  have q1 := hrow_other (g := B + 1) (i := 1) u1 q0 n1
  have q2 := hrow_other (g := B + 1) (i := 2) u2 q1 n1
  have q3 := hrow_other (g := B + 1) (i := 3) u3 q2 n1
  exact ⟨q3, z3⟩

theorem hrow_drew {w : World} {k : Nat} {o : Option Obj} (h : w.heap[k]? = o) : w.drew.heap[k]? = o := h
theorem cells8 {W : World} {g : Nat} {t : TypeId} {c0 c1 c2 c3 c4 c5 c6 c7 : Value} (h : W.heap[g]? = some (.cells #[c0, c1, c2, c3, c4, c5, c6, c7] t (0, 0))) :
    W.cell? ⟨g, 0, none⟩ = some c0 ∧ W.cell? ⟨g, 1, none⟩ = some c1 ∧ W.cell? ⟨g, 2, none⟩ = some c2 ∧ W.cell? ⟨g, 3, none⟩ = some c3 ∧ W.cell? ⟨g, 4, none⟩ = some c4 ∧ W.cell? ⟨g, 5, none⟩ = some c5 ∧ W.cell? ⟨g, 6, none⟩ = some c6 ∧ W.cell? ⟨g, 7, none⟩ = some c7 ∧ W.frozen? ⟨g, 0, none⟩ = false ∧ W.frozen? ⟨g, 1, none⟩ = false ∧ W.frozen? ⟨g, 2, none⟩ = false ∧ W.frozen? ⟨g, 3, none⟩ = false ∧ W.frozen? ⟨g, 4, none⟩ = false ∧ W.frozen? ⟨g, 5, none⟩ = false ∧ W.frozen? ⟨g, 6, none⟩ = false ∧ W.frozen? ⟨g, 7, none⟩ = false :=
  ⟨(cell_of_row _ _ _ _ _ _ h).trans rfl, (cell_of_row _ _ _ _ _ _ h).trans rfl, (cell_of_row _ _ _ _ _ _ h).trans rfl, (cell_of_row _ _ _ _ _ _ h).trans rfl, (cell_of_row _ _ _ _ _ _ h).trans rfl, (cell_of_row _ _ _ _ _ _ h).trans rfl, (cell_of_row _ _ _ _ _ _ h).trans rfl, (cell_of_row _ _ _ _ _ _ h).trans rfl, frozen_of_row _ _ _ _ _ h, frozen_of_row _ _ _ _ _ h, frozen_of_row _ _ _ _ _ h, frozen_of_row _ _ _ _ _ h, frozen_of_row _ _ _ _ _ h, frozen_of_row _ _ _ _ _ h, frozen_of_row _ _ _ _ _ h, frozen_of_row _ _ _ _ _ h⟩
theorem cells4 {W : World} {g : Nat} {t : TypeId} {c0 c1 c2 c3 : Value} (h : W.heap[g]? = some (.cells #[c0, c1, c2, c3] t (0, 0))) :
    W.cell? ⟨g, 0, none⟩ = some c0 ∧ W.cell? ⟨g, 1, none⟩ = some c1 ∧ W.cell? ⟨g, 2, none⟩ = some c2 ∧ W.cell? ⟨g, 3, none⟩ = some c3 ∧ W.frozen? ⟨g, 0, none⟩ = false ∧ W.frozen? ⟨g, 1, none⟩ = false ∧ W.frozen? ⟨g, 2, none⟩ = false ∧ W.frozen? ⟨g, 3, none⟩ = false :=
  ⟨(cell_of_row _ _ _ _ _ _ h).trans rfl, (cell_of_row _ _ _ _ _ _ h).trans rfl, (cell_of_row _ _ _ _ _ _ h).trans rfl, (cell_of_row _ _ _ _ _ _ h).trans rfl, frozen_of_row _ _ _ _ _ h, frozen_of_row _ _ _ _ _ h, frozen_of_row _ _ _ _ _ h, frozen_of_row _ _ _ _ _ h⟩
theorem cells5 {W : World} {g : Nat} {t : TypeId} {c0 c1 c2 c3 c4 : Value} (h : W.heap[g]? = some (.cells #[c0, c1, c2, c3, c4] t (0, 0))) :
    W.cell? ⟨g, 0, none⟩ = some c0 ∧ W.cell? ⟨g, 1, none⟩ = some c1 ∧ W.cell? ⟨g, 2, none⟩ = some c2 ∧ W.cell? ⟨g, 3, none⟩ = some c3 ∧ W.cell? ⟨g, 4, none⟩ = some c4 ∧ W.frozen? ⟨g, 0, none⟩ = false ∧ W.frozen? ⟨g, 1, none⟩ = false ∧ W.frozen? ⟨g, 2, none⟩ = false ∧ W.frozen? ⟨g, 3, none⟩ = false ∧ W.frozen? ⟨g, 4, none⟩ = false :=
  ⟨(cell_of_row _ _ _ _ _ _ h).trans rfl, (cell_of_row _ _ _ _ _ _ h).trans rfl, (cell_of_row _ _ _ _ _ _ h).trans rfl, (cell_of_row _ _ _ _ _ _ h).trans rfl, (cell_of_row _ _ _ _ _ _ h).trans rfl, frozen_of_row _ _ _ _ _ h, frozen_of_row _ _ _ _ _ h, frozen_of_row _ _ _ _ _ h, frozen_of_row _ _ _ _ _ h, frozen_of_row _ _ _ _ _ h⟩


theorem rowset8 {W : World} {g : Nat} {t : TypeId} {v0 v1 v2 v3 v4 v5 v6 v7 a0 a1 a2 a3 a4 a5 a6 a7 : Value} (r : W.heap[g]? = some (.cells #[a0, a1, a2, a3, a4, a5, a6, a7] t (0, 0))) :
    (((((((((W).setCell ⟨g, 0, none⟩ v0).setCell ⟨g, 1, none⟩ v1).setCell ⟨g, 2, none⟩ v2).setCell ⟨g, 3, none⟩ v3).setCell ⟨g, 4, none⟩ v4).setCell ⟨g, 5, none⟩ v5).setCell ⟨g, 6, none⟩ v6).setCell ⟨g, 7, none⟩ v7).heap[g]? = some (.cells #[v0, v1, v2, v3, v4, v5, v6, v7] t (0, 0)) := by
  have x0 := hrow_set (i := 0) (cs' := #[v0, a1, a2, a3, a4, a5, a6, a7]) v0 r (by simp)
  have x1 := hrow_set (i := 1) (cs' := #[v0, v1, a2, a3, a4, a5, a6, a7]) v1 x0 (by simp)
  have x2 := hrow_set (i := 2) (cs' := #[v0, v1, v2, a3, a4, a5, a6, a7]) v2 x1 (by simp)
  have x3 := hrow_set (i := 3) (cs' := #[v0, v1, v2, v3, a4, a5, a6, a7]) v3 x2 (by simp)
  have x4 := hrow_set (i := 4) (cs' := #[v0, v1, v2, v3, v4, a5, a6, a7]) v4 x3 (by simp)
  have x5 := hrow_set (i := 5) (cs' := #[v0, v1, v2, v3, v4, v5, a6, a7]) v5 x4 (by simp)
  have x6 := hrow_set (i := 6) (cs' := #[v0, v1, v2, v3, v4, v5, v6, a7]) v6 x5 (by simp)
  have x7 := hrow_set (i := 7) (cs' := #[v0, v1, v2, v3, v4, v5, v6, v7]) v7 x6 (by simp)
  exact x7
theorem hrow_drewN {w : World} {k n : Nat} {o : Option Obj} (h : w.heap[k]? = o) : (w.drewN n).heap[k]? = o := h
theorem hrow_new {w : World} {k : Nat} (o : Obj) (h : k = w.heap.size) : (w.alloc o).heap[k]? = some o := by subst h; exact heap_alloc_new w o
theorem hrow_old {w : World} {k : Nat} {x : Obj} (o : Obj) (h : w.heap[k]? = some x) : (w.alloc o).heap[k]? = some x := by
  exact (heap_alloc_old w o (Array.getElem?_eq_some_iff.1 h).1).trans h
theorem rows1 (w : World) (A : Obj) (n : Nat) : ((w.alloc A).drewN n).heap[w.heap.size]? = some A := hrow_new A rfl
theorem rows2 (w : World) (A B : Obj) (n : Nat) : (((w.alloc A).alloc B).drewN n).heap[w.heap.size]? = some A ∧ (((w.alloc A).alloc B).drewN n).heap[w.heap.size + 1]? = some B :=
  ⟨hrow_old B (hrow_new A rfl), hrow_new B (by simp)⟩
theorem rows3 (w : World) (A B C : Obj) (n : Nat) : ((((w.alloc A).alloc B).alloc C).drewN n).heap[w.heap.size]? = some A ∧ ((((w.alloc A).alloc B).alloc C).drewN n).heap[w.heap.size + 1]? = some B ∧ ((((w.alloc A).alloc B).alloc C).drewN n).heap[w.heap.size + 1 + 1]? = some C :=
  ⟨hrow_old C (hrow_old B (hrow_new A rfl)), hrow_old C (hrow_new B (by simp)), hrow_new C (by simp)⟩
theorem rows4 (w : World) (A B C D : Obj) (n : Nat) : (((((w.alloc A).alloc B).alloc C).drewN n).alloc D).heap[w.heap.size]? = some A ∧ (((((w.alloc A).alloc B).alloc C).drewN n).alloc D).heap[w.heap.size + 1]? = some B ∧ (((((w.alloc A).alloc B).alloc C).drewN n).alloc D).heap[w.heap.size + 1 + 1]? = some C ∧
    (((((w.alloc A).alloc B).alloc C).drewN n).alloc D).heap[w.heap.size + 1 + 1 + 1]? = some D :=
  ⟨hrow_old D (rows3 w A B C n).1, hrow_old D (rows3 w A B C n).2.1, hrow_old D (rows3 w A B C n).2.2, hrow_new D (by simp)⟩
theorem fresh8N (wr : World) (T : TypeId) (n : Nat) :
    ((wr.drewN n).alloc (Obj.cells #[.int .i64 0, .bool false, .int .i64 0, .bool false, .bool false, .bool false, .bool false, .int .i64 0] T (0, 0))).cell? ⟨wr.heap.size, 0, none⟩ = some (.int .i64 0) ∧ ((wr.drewN n).alloc (Obj.cells #[.int .i64 0, .bool false, .int .i64 0, .bool false, .bool false, .bool false, .bool false, .int .i64 0] T (0, 0))).cell? ⟨wr.heap.size, 1, none⟩ = some (.bool false) ∧ ((wr.drewN n).alloc (Obj.cells #[.int .i64 0, .bool false, .int .i64 0, .bool false, .bool false, .bool false, .bool false, .int .i64 0] T (0, 0))).cell? ⟨wr.heap.size, 2, none⟩ = some (.int .i64 0) ∧ ((wr.drewN n).alloc (Obj.cells #[.int .i64 0, .bool false, .int .i64 0, .bool false, .bool false, .bool false, .bool false, .int .i64 0] T (0, 0))).cell? ⟨wr.heap.size, 3, none⟩ = some (.bool false) ∧ ((wr.drewN n).alloc (Obj.cells #[.int .i64 0, .bool false, .int .i64 0, .bool false, .bool false, .bool false, .bool false, .int .i64 0] T (0, 0))).cell? ⟨wr.heap.size, 4, none⟩ = some (.bool false) ∧ ((wr.drewN n).alloc (Obj.cells #[.int .i64 0, .bool false, .int .i64 0, .bool false, .bool false, .bool false, .bool false, .int .i64 0] T (0, 0))).cell? ⟨wr.heap.size, 5, none⟩ = some (.bool false) ∧ ((wr.drewN n).alloc (Obj.cells #[.int .i64 0, .bool false, .int .i64 0, .bool false, .bool false, .bool false, .bool false, .int .i64 0] T (0, 0))).cell? ⟨wr.heap.size, 6, none⟩ = some (.bool false) ∧ ((wr.drewN n).alloc (Obj.cells #[.int .i64 0, .bool false, .int .i64 0, .bool false, .bool false, .bool false, .bool false, .int .i64 0] T (0, 0))).cell? ⟨wr.heap.size, 7, none⟩ = some (.int .i64 0) ∧ ((wr.drewN n).alloc (Obj.cells #[.int .i64 0, .bool false, .int .i64 0, .bool false, .bool false, .bool false, .bool false, .int .i64 0] T (0, 0))).frozen? ⟨wr.heap.size, 0, none⟩ = false ∧ ((wr.drewN n).alloc (Obj.cells #[.int .i64 0, .bool false, .int .i64 0, .bool false, .bool false, .bool false, .bool false, .int .i64 0] T (0, 0))).frozen? ⟨wr.heap.size, 1, none⟩ = false ∧ ((wr.drewN n).alloc (Obj.cells #[.int .i64 0, .bool false, .int .i64 0, .bool false, .bool false, .bool false, .bool false, .int .i64 0] T (0, 0))).frozen? ⟨wr.heap.size, 2, none⟩ = false ∧ ((wr.drewN n).alloc (Obj.cells #[.int .i64 0, .bool false, .int .i64 0, .bool false, .bool false, .bool false, .bool false, .int .i64 0] T (0, 0))).frozen? ⟨wr.heap.size, 3, none⟩ = false ∧ ((wr.drewN n).alloc (Obj.cells #[.int .i64 0, .bool false, .int .i64 0, .bool false, .bool false, .bool false, .bool false, .int .i64 0] T (0, 0))).frozen? ⟨wr.heap.size, 4, none⟩ = false ∧ ((wr.drewN n).alloc (Obj.cells #[.int .i64 0, .bool false, .int .i64 0, .bool false, .bool false, .bool false, .bool false, .int .i64 0] T (0, 0))).frozen? ⟨wr.heap.size, 5, none⟩ = false ∧ ((wr.drewN n).alloc (Obj.cells #[.int .i64 0, .bool false, .int .i64 0, .bool false, .bool false, .bool false, .bool false, .int .i64 0] T (0, 0))).frozen? ⟨wr.heap.size, 6, none⟩ = false ∧ ((wr.drewN n).alloc (Obj.cells #[.int .i64 0, .bool false, .int .i64 0, .bool false, .bool false, .bool false, .bool false, .int .i64 0] T (0, 0))).frozen? ⟨wr.heap.size, 7, none⟩ = false :=
  cells8 (W := (wr.drewN n).alloc (Obj.cells #[.int .i64 0, .bool false, .int .i64 0, .bool false, .bool false, .bool false, .bool false, .int .i64 0] T (0, 0))) (hrow_new _ rfl)
theorem fresh8 (wr : World) (T : TypeId) :
    (wr.drew.alloc (Obj.cells #[.int .i64 0, .bool false, .int .i64 0, .bool false, .bool false, .bool false, .bool false, .int .i64 0] T (0, 0))).cell? ⟨wr.heap.size, 0, none⟩ = some (.int .i64 0) ∧ (wr.drew.alloc (Obj.cells #[.int .i64 0, .bool false, .int .i64 0, .bool false, .bool false, .bool false, .bool false, .int .i64 0] T (0, 0))).cell? ⟨wr.heap.size, 1, none⟩ = some (.bool false) ∧ (wr.drew.alloc (Obj.cells #[.int .i64 0, .bool false, .int .i64 0, .bool false, .bool false, .bool false, .bool false, .int .i64 0] T (0, 0))).cell? ⟨wr.heap.size, 2, none⟩ = some (.int .i64 0) ∧ (wr.drew.alloc (Obj.cells #[.int .i64 0, .bool false, .int .i64 0, .bool false, .bool false, .bool false, .bool false, .int .i64 0] T (0, 0))).cell? ⟨wr.heap.size, 3, none⟩ = some (.bool false) ∧ (wr.drew.alloc (Obj.cells #[.int .i64 0, .bool false, .int .i64 0, .bool false, .bool false, .bool false, .bool false, .int .i64 0] T (0, 0))).cell? ⟨wr.heap.size, 4, none⟩ = some (.bool false) ∧ (wr.drew.alloc (Obj.cells #[.int .i64 0, .bool false, .int .i64 0, .bool false, .bool false, .bool false, .bool false, .int .i64 0] T (0, 0))).cell? ⟨wr.heap.size, 5, none⟩ = some (.bool false) ∧ (wr.drew.alloc (Obj.cells #[.int .i64 0, .bool false, .int .i64 0, .bool false, .bool false, .bool false, .bool false, .int .i64 0] T (0, 0))).cell? ⟨wr.heap.size, 6, none⟩ = some (.bool false) ∧ (wr.drew.alloc (Obj.cells #[.int .i64 0, .bool false, .int .i64 0, .bool false, .bool false, .bool false, .bool false, .int .i64 0] T (0, 0))).cell? ⟨wr.heap.size, 7, none⟩ = some (.int .i64 0) ∧ (wr.drew.alloc (Obj.cells #[.int .i64 0, .bool false, .int .i64 0, .bool false, .bool false, .bool false, .bool false, .int .i64 0] T (0, 0))).frozen? ⟨wr.heap.size, 0, none⟩ = false ∧ (wr.drew.alloc (Obj.cells #[.int .i64 0, .bool false, .int .i64 0, .bool false, .bool false, .bool false, .bool false, .int .i64 0] T (0, 0))).frozen? ⟨wr.heap.size, 1, none⟩ = false ∧ (wr.drew.alloc (Obj.cells #[.int .i64 0, .bool false, .int .i64 0, .bool false, .bool false, .bool false, .bool false, .int .i64 0] T (0, 0))).frozen? ⟨wr.heap.size, 2, none⟩ = false ∧ (wr.drew.alloc (Obj.cells #[.int .i64 0, .bool false, .int .i64 0, .bool false, .bool false, .bool false, .bool false, .int .i64 0] T (0, 0))).frozen? ⟨wr.heap.size, 3, none⟩ = false ∧ (wr.drew.alloc (Obj.cells #[.int .i64 0, .bool false, .int .i64 0, .bool false, .bool false, .bool false, .bool false, .int .i64 0] T (0, 0))).frozen? ⟨wr.heap.size, 4, none⟩ = false ∧ (wr.drew.alloc (Obj.cells #[.int .i64 0, .bool false, .int .i64 0, .bool false, .bool false, .bool false, .bool false, .int .i64 0] T (0, 0))).frozen? ⟨wr.heap.size, 5, none⟩ = false ∧ (wr.drew.alloc (Obj.cells #[.int .i64 0, .bool false, .int .i64 0, .bool false, .bool false, .bool false, .bool false, .int .i64 0] T (0, 0))).frozen? ⟨wr.heap.size, 6, none⟩ = false ∧ (wr.drew.alloc (Obj.cells #[.int .i64 0, .bool false, .int .i64 0, .bool false, .bool false, .bool false, .bool false, .int .i64 0] T (0, 0))).frozen? ⟨wr.heap.size, 7, none⟩ = false :=
  cells8 (W := wr.drew.alloc (Obj.cells #[.int .i64 0, .bool false, .int .i64 0, .bool false, .bool false, .bool false, .bool false, .int .i64 0] T (0, 0))) (hrow_new _ rfl)
end Go.Proofs.YtknpkifhkefikaaDoor
namespace Go.Proofs.YtknpkifhkefikaaDoor
open Go.RowKit

theorem hinfo_u8 : (Tryd.prog.info? 5).map (fun i => (i.zero, i.size, i.bytes)) = some (some (.int .u8 0), 1, 1) := by kernel_rfl

theorem below_grown {base : Nat} {w w1 : World} {o : Obj} {v : Value} {e : TypeId} {size n : Nat} {xs : List Value} (hown : w.ownsRow base e size v n xs) (hb : base ≤ w.heap.size) (hg : (w.alloc o).grownBy w1 v.ownBlock) : Below base w w1 :=
  ((Below.refl base w).alloc hb o).grown hg (by simp; omega) (fun k hk => (hown.lt k hk).1)

set_option maxHeartbeats 1000000 in
/-- A slice of bytes that the call owns, of the numbers xs; behind appendNumber it has two more. -/
theorem append_any (base : Nat) (v : Value) (n : Nat) (xs : List Value) (m : Int) (w : World) (hown : w.ownsRow base 5 1 v n xs) (hn : n ≤ 1000) (hb : base ≤ w.heap.size) (hm : 0 ≤ m ∧ m ≤ 65535) :
    Calls Tryd.prog 71 #[v, .int .i64 m] w fun e w' => ∃ v', e = .returned v' ∧ w'.ownsRow base 5 1 v' (n + 2) (xs ++ [.int .u8 (m / 256), .int .u8 (m % 256)]) ∧ Below base w w' ∧ w.heap.size ≤ w'.heap.size := by
  obtain ⟨i0, hi, hz0, hz1, hz2⟩ := info_parts hinfo_u8
  have hq : m / 256 % 256 = m / 256 := by omega
  have HX : Hid (w.ownsRow base 5 1 v n xs) := Lib.hid hown
  clear hown
  go_enter Tryd.func71, Tryd.ntmps71
  go_wp2_with (at_builtin; refine wpList_append_own _ rfl _ _ 29 rfl base 5 i0 (.int .u8 0) 1 1 Tryd.underlying29 hi hz0 hz1 hz2 rfl (by decide) _ n xs rfl (HX.out.alloc _) ⟨w.heap.size, 0, none⟩ 2 2 [.int .u8 (m / 256), .int .u8 (m % 256)] rfl rfl ?c1 ?c2 ?c3 ?c4 ?c5 ?_)
  case c1 => exact World.news_of_block (cs := #[.int .u8 (m / 256), .int .u8 (m % 256)]) (t := 5) (fr := (0, 0)) (heap_alloc_new w _)
  case c2 => simp [Value.oneCell']
  case c3 => unfold maxLen; omega
  case c4 => omega
  case c5 => simp; omega
  intro v' w1 hown' hgrow _
  go_wp2
  go_ret
  exact ⟨v', rfl, hown', below_grown HX.out hb hgrow, by have := hgrow.size; simp at this; omega⟩

end Go.Proofs.YtknpkifhkefikaaDoor
namespace Go.Proofs.YtknpkifhkefikaaDoor
open Go.RowKit

/-- The flags' word behind k of the five bits. -/
def flk (o c : Int) (r aa tc rd ra : Bool) : Nat → Int
  | 0 => o * 2048 + c
  | 1 => o * 2048 + c + bi r * 32768
  | 2 => o * 2048 + c + bi r * 32768 + bi aa * 1024
  | 3 => o * 2048 + c + bi r * 32768 + bi aa * 1024 + bi tc * 512
  | 4 => o * 2048 + c + bi r * 32768 + bi aa * 1024 + bi tc * 512 + bi rd * 256
  | _ => o * 2048 + c + bi r * 32768 + bi aa * 1024 + bi tc * 512 + bi rd * 256 + bi ra * 128
abbrev flags (o c : Int) (r aa tc rd ra : Bool) : Int := flk o c r aa tc rd ra 5

theorem or_at (i : Nat) (m x : Int) (hm : ((2 ^ i : Nat) : Int) = m) (hi : 2 ^ i < 9223372036854775808) (h0 : 0 ≤ x) (h1 : x < 9223372036854775808) (h : x / m % 2 = 0) : bits .or .i64 x m = x + m := by
  subst hm
  rw [or_bit i hi x h0 h1 (by simpa using h)]; simp

theorem fl0 {o c : Int} (aa tc rd ra : Bool) (ho : 0 ≤ o ∧ o ≤ 15) (hc : 0 ≤ c ∧ c ≤ 15) : bits .or .i64 (flk o c true aa tc rd ra 0) 32768 = flk o c true aa tc rd ra 1 := by
  simp only [flk, bi_true]
  rw [or_at 15 32768 _ (by decide) (by decide) (by omega) (by omega) (by omega)]; omega
theorem fl1 {o c : Int} (r tc rd ra : Bool) (ho : 0 ≤ o ∧ o ≤ 15) (hc : 0 ≤ c ∧ c ≤ 15) : bits .or .i64 (flk o c r true tc rd ra 1) 1024 = flk o c r true tc rd ra 2 := by
  have := bi_bd r
  simp only [flk, bi_true]
  rw [or_at 10 1024 _ (by decide) (by decide) (by omega) (by omega) (by omega)]; omega
theorem fl2 {o c : Int} (r aa rd ra : Bool) (ho : 0 ≤ o ∧ o ≤ 15) (hc : 0 ≤ c ∧ c ≤ 15) : bits .or .i64 (flk o c r aa true rd ra 2) 512 = flk o c r aa true rd ra 3 := by
  have := bi_bd r; have := bi_bd aa
  simp only [flk, bi_true]
  rw [or_at 9 512 _ (by decide) (by decide) (by omega) (by omega) (by omega)]; omega
theorem fl3 {o c : Int} (r aa tc ra : Bool) (ho : 0 ≤ o ∧ o ≤ 15) (hc : 0 ≤ c ∧ c ≤ 15) : bits .or .i64 (flk o c r aa tc true ra 3) 256 = flk o c r aa tc true ra 4 := by
  have := bi_bd r; have := bi_bd aa; have := bi_bd tc
  simp only [flk, bi_true]
  rw [or_at 8 256 _ (by decide) (by decide) (by omega) (by omega) (by omega)]; omega
theorem fl4 {o c : Int} (r aa tc rd : Bool) (ho : 0 ≤ o ∧ o ≤ 15) (hc : 0 ≤ c ∧ c ≤ 15) : bits .or .i64 (flk o c r aa tc rd true 4) 128 = flk o c r aa tc rd true 5 := by
  have := bi_bd r; have := bi_bd aa; have := bi_bd tc; have := bi_bd rd
  simp only [flk, bi_true]
  rw [or_at 7 128 _ (by decide) (by decide) (by omega) (by omega) (by omega)]; omega
theorem flags_bd {o c : Int} (r aa tc rd ra : Bool) (ho : 0 ≤ o ∧ o ≤ 15) (hc : 0 ≤ c ∧ c ≤ 15) : 0 ≤ flags o c r aa tc rd ra ∧ flags o c r aa tc rd ra ≤ 65535 := by
  have := bi_bd r; have := bi_bd aa; have := bi_bd tc; have := bi_bd rd; have := bi_bd ra
  simp only [flags, flk]; omega
theorem fn0 (o c : Int) (aa tc rd ra : Bool) : flk o c false aa tc rd ra 0 = flk o c false aa tc rd ra 1 := by simp [flk, bi]
theorem fn1 (o c : Int) (r tc rd ra : Bool) : flk o c r false tc rd ra 1 = flk o c r false tc rd ra 2 := by simp [flk, bi]
theorem fn2 (o c : Int) (r aa rd ra : Bool) : flk o c r aa false rd ra 2 = flk o c r aa false rd ra 3 := by simp [flk, bi]
theorem fn3 (o c : Int) (r aa tc ra : Bool) : flk o c r aa tc false ra 3 = flk o c r aa tc false ra 4 := by simp [flk, bi]
theorem fn4 (o c : Int) (r aa tc rd : Bool) : flk o c r aa tc rd false 4 = flk o c r aa tc rd false 5 := by simp [flk, bi]

set_option maxHeartbeats 1000000 in
set_option maxRecDepth 100000 in
theorem Encode_no (i o c n0 n1 n2 n3 : Int) (r aa tc rd ra : Bool) (w : World) (h : canH i o c n0 n1 n2 n3 = false) :
    Calls Tryd.prog 28 #[hdV i r o aa tc rd ra c, ctV n0 n1 n2 n3] w fun e w' => e = .returned (.tuple #[.slice none 0 0, .int .i64 1]) ∧ Below w.heap.size w w' := by
  go_enter Tryd.func28, Tryd.ntmps28
  go_wp2_with fail
  refine (can_any _ _ _ _ _ _ _ _ _ _ _ _ _).mono ?_
  rintro e w' ⟨rfl, hB⟩
  go_wp2_with fail
  go_ret2
  refine ⟨rfl, Below.trans ?_ (hB.mono (by simp; omega))⟩
  (repeat first | (with_reducible exact Below.refl _ _) | (with_reducible assumption) | (with_reducible refine below_drewN ?_ _) | (with_reducible refine Below.drew ?_) | (with_reducible refine Below.alloc ?_ (by go_size) _) | (with_reducible refine Below.setCell ?_ (by go_size) _))

theorem bl0 (x0 x1 x2 x3 x4 : Bool) (w : World) : (Instr.index 133 (.agg #[.bool x0, .bool x1, .bool x2, .bool x3, .bool x4]) (.int .i64 0)).run Tryd.prog w = .ok (.bool x0) w := by kernel_rfl
theorem bl1 (x0 x1 x2 x3 x4 : Bool) (w : World) : (Instr.index 133 (.agg #[.bool x0, .bool x1, .bool x2, .bool x3, .bool x4]) (.int .i64 1)).run Tryd.prog w = .ok (.bool x1) w := by kernel_rfl
theorem bl2 (x0 x1 x2 x3 x4 : Bool) (w : World) : (Instr.index 133 (.agg #[.bool x0, .bool x1, .bool x2, .bool x3, .bool x4]) (.int .i64 2)).run Tryd.prog w = .ok (.bool x2) w := by kernel_rfl
theorem bl3 (x0 x1 x2 x3 x4 : Bool) (w : World) : (Instr.index 133 (.agg #[.bool x0, .bool x1, .bool x2, .bool x3, .bool x4]) (.int .i64 3)).run Tryd.prog w = .ok (.bool x3) w := by kernel_rfl
theorem bl4 (x0 x1 x2 x3 x4 : Bool) (w : World) : (Instr.index 133 (.agg #[.bool x0, .bool x1, .bool x2, .bool x3, .bool x4]) (.int .i64 4)).run Tryd.prog w = .ok (.bool x4) w := by kernel_rfl
theorem ct0 (n0 n1 n2 n3 : Int) (w : World) : (Instr.index 63 (ctV n0 n1 n2 n3) (.int .i64 0)).run Tryd.prog w = .ok (.int .i64 n0) w := by kernel_rfl
theorem ct1 (n0 n1 n2 n3 : Int) (w : World) : (Instr.index 63 (ctV n0 n1 n2 n3) (.int .i64 1)).run Tryd.prog w = .ok (.int .i64 n1) w := by kernel_rfl
theorem ct2 (n0 n1 n2 n3 : Int) (w : World) : (Instr.index 63 (ctV n0 n1 n2 n3) (.int .i64 2)).run Tryd.prog w = .ok (.int .i64 n2) w := by kernel_rfl
theorem ct3 (n0 n1 n2 n3 : Int) (w : World) : (Instr.index 63 (ctV n0 n1 n2 n3) (.int .i64 3)).run Tryd.prog w = .ok (.int .i64 n3) w := by kernel_rfl
theorem make12 (w : World) : (Instr.makeSlice 29 (.int .i64 0) (.int .i64 12)).run Tryd.prog w = .ok (.slice (some ⟨w.heap.size, 0, none⟩) 0 12) (w.alloc (.cells #[.int .u8 0, .int .u8 0, .int .u8 0, .int .u8 0, .int .u8 0, .int .u8 0, .int .u8 0, .int .u8 0, .int .u8 0, .int .u8 0, .int .u8 0, .int .u8 0] 5 (0, 0))) := by kernel_rfl

/-- The twelve bytes. -/
def encB (i fl n0 n1 n2 n3 : Int) : List Value := [.int .u8 (i / 256), .int .u8 (i % 256), .int .u8 (fl / 256), .int .u8 (fl % 256), .int .u8 (n0 / 256), .int .u8 (n0 % 256), .int .u8 (n1 / 256), .int .u8 (n1 % 256), .int .u8 (n2 / 256), .int .u8 (n2 % 256), .int .u8 (n3 / 256), .int .u8 (n3 % 256)]

/-- The bytes behind k of the four counts. -/
def encK (i fl n0 n1 n2 n3 : Int) : Nat → List Value
  | 0 => [.int .u8 (i / 256), .int .u8 (i % 256), .int .u8 (fl / 256), .int .u8 (fl % 256)]
  | 1 => [.int .u8 (i / 256), .int .u8 (i % 256), .int .u8 (fl / 256), .int .u8 (fl % 256), .int .u8 (n0 / 256), .int .u8 (n0 % 256)]
  | 2 => [.int .u8 (i / 256), .int .u8 (i % 256), .int .u8 (fl / 256), .int .u8 (fl % 256), .int .u8 (n0 / 256), .int .u8 (n0 % 256), .int .u8 (n1 / 256), .int .u8 (n1 % 256)]
  | 3 => [.int .u8 (i / 256), .int .u8 (i % 256), .int .u8 (fl / 256), .int .u8 (fl % 256), .int .u8 (n0 / 256), .int .u8 (n0 % 256), .int .u8 (n1 / 256), .int .u8 (n1 % 256), .int .u8 (n2 / 256), .int .u8 (n2 % 256)]
  | _ => encB i fl n0 n1 n2 n3

theorem ownsRow_mono {w : World} {base base' : Nat} {e : TypeId} {size n : Nat} {v : Value} {xs : List Value} (h : w.ownsRow base e size v n xs) (hb : base' ≤ base) : w.ownsRow base' e size v n xs := by
  obtain ⟨h1, h2⟩ := h
  refine ⟨h1, ?_⟩
  rcases h2 with h2 | ⟨g, cap, cur, hv, hg, r⟩
  · exact .inl h2
  · exact .inr ⟨g, cap, cur, hv, by omega, r⟩

set_option maxHeartbeats 2000000 in
set_option maxRecDepth 100000 in
theorem Encode_yes (i o c n0 n1 n2 n3 : Int) (r aa tc rd ra : Bool) (w : World) (h : canH i o c n0 n1 n2 n3 = true) (hm : Masks w) :
    Calls Tryd.prog 28 #[hdV i r o aa tc rd ra c, ctV n0 n1 n2 n3] w fun e w' => ∃ v, e = .returned (.tuple #[v, .int .i64 0]) ∧ w'.ownsRow w.heap.size 5 1 v 12 (encB i (flags o c r aa tc rd ra) n0 n1 n2 n3) ∧ Below w.heap.size w w' := by
  obtain ⟨b0, b1, b2, b3, bI, bO, bC⟩ := canH_out h
  go_enter Tryd.func28, Tryd.ntmps28
  go_wp2_with fail
  refine (can_any _ _ _ _ _ _ _ _ _ _ _ _ _).mono ?_
  rintro e w1 ⟨rfl, hB1⟩
  have hB : Below w.heap.size w w1 := Below.trans (by (repeat first | (with_reducible exact Below.refl _ _) | (with_reducible assumption) | (with_reducible refine below_drewN ?_ _) | (with_reducible refine Below.drew ?_) | (with_reducible refine Below.alloc ?_ (by go_size) _) | (with_reducible refine Below.setCell ?_ (by go_size) _))) (hB1.mono (by simp; omega))
  have s0 : w.heap.size < w1.heap.size := by have := hB1.size; simp at this; omega
  have s1 : w.heap.size + 1 < w1.heap.size := by have := hB1.size; simp at this; omega
  have r2 := (hB1.block w.heap.size (by simp; omega)).trans (rows2 w _ _ 0).1
  have r3 := (hB1.block (w.heap.size + 1) (by simp)).trans (rows2 w _ _ 0).2
  have c2 := cells8 r2
  have c3 := cells4 r3
  clear r2 r3 hB1
  obtain ⟨m0, m1, m2, m3, m4, m5⟩ := hm
  have k0 := (hB.cell (p := ⟨0, 0, none⟩) m5).trans m0
  have k1 := (hB.cell (p := ⟨0, 1, none⟩) m5).trans m1
  have k2 := (hB.cell (p := ⟨0, 2, none⟩) m5).trans m2
  have k3 := (hB.cell (p := ⟨0, 3, none⟩) m5).trans m3
  have k4 := (hB.cell (p := ⟨0, 4, none⟩) m5).trans m4
  clear m0 m1 m2 m3 m4
  have e0 := or2048 o c bO bC
  go_wp2_with fail
  have i0 := fun w => bl0 r aa tc rd ra w
  have i1 := fun w => bl1 r aa tc rd ra w
  have i2 := fun w => bl2 r aa tc rd ra w
  have i3 := fun w => bl3 r aa tc rd ra w
  have i4 := fun w => bl4 r aa tc rd ra w
  have j0 := ct0 n0 n1 n2 n3
  have j1 := ct1 n0 n1 n2 n3
  have j2 := ct2 n0 n1 n2 n3
  have j3 := ct3 n0 n1 n2 n3
  have mk := make12
  go_loop [6, 33] (fun f v => ∃ k : Nat, k ≤ 5 ∧ v = .int .i64 k ∧ f = .int .i64 (flk o c r aa tc rd ra k)) (fun _ v => 5 - (intOf v).toNat)
  case atStart => exact ⟨0, by omega, rfl, rfl⟩
  case round =>
    obtain ⟨k, hk, rfl, rfl⟩ := hrel
    have hk5 : k = 0 ∨ k = 1 ∨ k = 2 ∨ k = 3 ∨ k = 4 ∨ k = 5 := by omega
    rcases hk5 with rfl | rfl | rfl | rfl | rfl | rfl
    · as_aux_lemma =>
        cases r
        · go_wp2_with fail
          refine ⟨⟨1, by omega, rfl, ?_⟩, by simp [intOf]⟩
          exact congrArg (Value.int .i64) (fn0 o c aa tc rd ra)
        · go_wp2_with fail
          refine ⟨⟨1, by omega, rfl, ?_⟩, by simp [intOf]⟩
          exact congrArg (Value.int .i64) (fl0 aa tc rd ra bO bC)
    · as_aux_lemma =>
        cases aa
        · go_wp2_with fail
          refine ⟨⟨2, by omega, rfl, ?_⟩, by simp [intOf]⟩
          exact congrArg (Value.int .i64) (fn1 o c r tc rd ra)
        · go_wp2_with fail
          refine ⟨⟨2, by omega, rfl, ?_⟩, by simp [intOf]⟩
          exact congrArg (Value.int .i64) (fl1 r tc rd ra bO bC)
    · as_aux_lemma =>
        cases tc
        · go_wp2_with fail
          refine ⟨⟨3, by omega, rfl, ?_⟩, by simp [intOf]⟩
          exact congrArg (Value.int .i64) (fn2 o c r aa rd ra)
        · go_wp2_with fail
          refine ⟨⟨3, by omega, rfl, ?_⟩, by simp [intOf]⟩
          exact congrArg (Value.int .i64) (fl2 r aa rd ra bO bC)
    · as_aux_lemma =>
        cases rd
        · go_wp2_with fail
          refine ⟨⟨4, by omega, rfl, ?_⟩, by simp [intOf]⟩
          exact congrArg (Value.int .i64) (fn3 o c r aa tc ra)
        · go_wp2_with fail
          refine ⟨⟨4, by omega, rfl, ?_⟩, by simp [intOf]⟩
          exact congrArg (Value.int .i64) (fl3 r aa tc ra bO bC)
    · as_aux_lemma =>
        cases ra
        · go_wp2_with fail
          refine ⟨⟨5, by omega, rfl, ?_⟩, by simp [intOf]⟩
          exact congrArg (Value.int .i64) (fn4 o c r aa tc rd)
        · go_wp2_with fail
          refine ⟨⟨5, by omega, rfl, ?_⟩, by simp [intOf]⟩
          exact congrArg (Value.int .i64) (fl4 r aa tc rd bO bC)
    · have bF := flags_bd r aa tc rd ra bO bC
      clear k0 k1 k2 k3 k4 i0 i1 i2 i3 i4
      go_wp2_with fail
      refine (append_any w1.heap.size _ 0 [] i _ (World.ownsRow_made w1 _ 12 (Nat.le_refl _) (by unfold maxLen; omega) (by simp)) (by omega) (by simp) bI).mono ?_
      rintro e w2 ⟨v2, rfl, hown2, hB2, hS2⟩
      have hB12 : Below w1.heap.size w1 w2 := ((Below.refl _ _).alloc (Nat.le_refl _) _).trans hB2
      have q0 := (hB12.cell (p := ⟨w.heap.size + 1, 0, none⟩) s1).trans c3.1
      have q1 := (hB12.cell (p := ⟨w.heap.size + 1, 1, none⟩) s1).trans c3.2.1
      have q2 := (hB12.cell (p := ⟨w.heap.size + 1, 2, none⟩) s1).trans c3.2.2.1
      have q3 := (hB12.cell (p := ⟨w.heap.size + 1, 3, none⟩) s1).trans c3.2.2.2.1
      have s2 : w1.heap.size ≤ w2.heap.size := hB12.size
      clear hB2 hS2 c2 c3 mk e0
      go_wp2_with fail
      refine (append_any w1.heap.size _ 2 _ _ _ hown2 (by omega) s2 bF).mono ?_
      rintro e w3 ⟨v3, rfl, hown3, hB3, hS3⟩
      have hB13 : Below w1.heap.size w1 w3 := hB12.trans hB3
      have p0 := (hB3.cell (p := ⟨w.heap.size + 1, 0, none⟩) s1).trans q0
      have p1 := (hB3.cell (p := ⟨w.heap.size + 1, 1, none⟩) s1).trans q1
      have p2 := (hB3.cell (p := ⟨w.heap.size + 1, 2, none⟩) s1).trans q2
      have p3 := (hB3.cell (p := ⟨w.heap.size + 1, 3, none⟩) s1).trans q3
      have hown4 : w3.ownsRow w1.heap.size 5 1 v3 (4 + 2 * 0) (encK i (flags o c r aa tc rd ra) n0 n1 n2 n3 0) := hown3
      clear q0 q1 q2 q3 hown2 hown3 hB12 hB3
      go_wp2_with fail
      go_loopw [9, 53] (fun x v wr => ∃ k : Nat, k ≤ 4 ∧ v = .int .i64 k ∧ wr.ownsRow w1.heap.size 5 1 x (4 + 2 * k) (encK i (flags o c r aa tc rd ra) n0 n1 n2 n3 k) ∧ Below w1.heap.size w1 wr) (fun _ v _ => 4 - (intOf v).toNat)
      case atStart => exact ⟨0, by omega, rfl, hown4, hB13⟩
      case round =>
        clear hown4 hB13 p0 p1 p2 p3
        obtain ⟨k, hk, rfl, hown, hBk⟩ := hrel
        have sk := hBk.size
        have hk5 : k = 0 ∨ k = 1 ∨ k = 2 ∨ k = 3 ∨ k = 4 := by omega
        rcases hk5 with rfl | rfl | rfl | rfl | rfl
        · go_wp2_with fail
          refine (append_any w1.heap.size _ 4 _ _ _ hown (by omega) sk b0).mono ?_
          rintro e w4 ⟨v4, rfl, hown4, hB4, hS4⟩
          go_wp2_with fail
          go_roundw
          case rel => first | exact ⟨1, by omega, rfl, hown4, hBk.trans hB4⟩ | ((repeat apply Exists.intro); exact ⟨⟨1, by omega, rfl, hown4, hBk.trans hB4⟩, rfl⟩)
          case measure => simp [intOf]
        · go_wp2_with fail
          refine (append_any w1.heap.size _ 6 _ _ _ hown (by omega) sk b1).mono ?_
          rintro e w4 ⟨v4, rfl, hown4, hB4, hS4⟩
          go_wp2_with fail
          go_roundw
          case rel => first | exact ⟨2, by omega, rfl, hown4, hBk.trans hB4⟩ | ((repeat apply Exists.intro); exact ⟨⟨2, by omega, rfl, hown4, hBk.trans hB4⟩, rfl⟩)
          case measure => simp [intOf]
        · go_wp2_with fail
          refine (append_any w1.heap.size _ 8 _ _ _ hown (by omega) sk b2).mono ?_
          rintro e w4 ⟨v4, rfl, hown4, hB4, hS4⟩
          go_wp2_with fail
          go_roundw
          case rel => first | exact ⟨3, by omega, rfl, hown4, hBk.trans hB4⟩ | ((repeat apply Exists.intro); exact ⟨⟨3, by omega, rfl, hown4, hBk.trans hB4⟩, rfl⟩)
          case measure => simp [intOf]
        · go_wp2_with fail
          refine (append_any w1.heap.size _ 10 _ _ _ hown (by omega) sk b3).mono ?_
          rintro e w4 ⟨v4, rfl, hown4, hB4, hS4⟩
          go_wp2_with fail
          go_roundw
          case rel => first | exact ⟨4, by omega, rfl, hown4, hBk.trans hB4⟩ | ((repeat apply Exists.intro); exact ⟨⟨4, by omega, rfl, hown4, hBk.trans hB4⟩, rfl⟩)
          case measure => simp [intOf]
        · go_wp2_with fail
          go_ret2
          exact ⟨_, rfl, ownsRow_mono hown (by omega), hB.trans (hBk.mono (by omega))⟩

end Go.Proofs.YtknpkifhkefikaaDoor
