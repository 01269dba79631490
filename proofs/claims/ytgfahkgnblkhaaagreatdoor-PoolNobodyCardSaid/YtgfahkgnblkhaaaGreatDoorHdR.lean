/-
  Rows of cells: what stands in a block, cell by cell; a store of some cells.
-/
import Derived.WalkKit
import Derived.WalkLawsBesides
import Derived.Laws.Rows
import Derived.Deep.Draws
namespace Go.Proofs.YtgfahkgnblkhaaaGreatDoor
open Go.RowKit

theorem hrow_set {w : World} {g i : Nat} {cs cs' : Array Value} {t : TypeId} (v : Value) (hg : w.heap[g]? = some (.cells cs t (0, 0))) (hc : cs.setIfInBounds i v = cs') : (w.setCell ⟨g, i, none⟩ v).heap[g]? = some (.cells cs' t (0, 0)) := by
  rw [← hc]; exact heap_setCell_same _ _ _ _ _ _ hg
theorem hrow_other {w : World} {g k i : Nat} {o : Option Obj} (v : Value) (hk : w.heap[k]? = o) (h : k ≠ g) : (w.setCell ⟨g, i, none⟩ v).heap[k]? = o := (heap_setCell_other _ _ _ _ (by simpa using h)).trans hk

/-- Two results are stored over what stood in their blocks: eight cells, then four. -/
theorem stored {W : World} {B : Nat} {t t' : TypeId} {v0 v1 v2 v3 v4 v5 v6 v7 a0 a1 a2 a3 a4 a5 a6 a7 u0 u1 u2 u3 c0 c1 c2 c3 : Value} (r2 : W.heap[B]? = some (.cells #[a0, a1, a2, a3, a4, a5, a6, a7] t (0, 0))) (r3 : W.heap[B + 1]? = some (.cells #[c0, c1, c2, c3] t' (0, 0))) :
    (((((((((((((W).setCell ⟨B, 0, none⟩ v0).setCell ⟨B, 1, none⟩ v1).setCell ⟨B, 2, none⟩ v2).setCell ⟨B, 3, none⟩ v3).setCell ⟨B, 4, none⟩ v4).setCell ⟨B, 5, none⟩ v5).setCell ⟨B, 6, none⟩ v6).setCell ⟨B, 7, none⟩ v7).setCell ⟨B + 1, 0, none⟩ u0).setCell ⟨B + 1, 1, none⟩ u1).setCell ⟨B + 1, 2, none⟩ u2).setCell ⟨B + 1, 3, none⟩ u3).heap[B]? = some (.cells #[v0, v1, v2, v3, v4, v5, v6, v7] t (0, 0)) ∧
    (((((((((((((W).setCell ⟨B, 0, none⟩ v0).setCell ⟨B, 1, none⟩ v1).setCell ⟨B, 2, none⟩ v2).setCell ⟨B, 3, none⟩ v3).setCell ⟨B, 4, none⟩ v4).setCell ⟨B, 5, none⟩ v5).setCell ⟨B, 6, none⟩ v6).setCell ⟨B, 7, none⟩ v7).setCell ⟨B + 1, 0, none⟩ u0).setCell ⟨B + 1, 1, none⟩ u1).setCell ⟨B + 1, 2, none⟩ u2).setCell ⟨B + 1, 3, none⟩ u3).heap[B + 1]? = some (.cells #[u0, u1, u2, u3] t' (0, 0)) := by
  have n1 : B ≠ B + 1 := by omega
  have n2 : B + 1 ≠ B := by omega
  have x0 := hrow_set (i := 0) (cs' := #[v0, a1, a2, a3, a4, a5, a6, a7]) v0 r2 (by simp)
  have x1 := hrow_set (i := 1) (cs' := #[v0, v1, a2, a3, a4, a5, a6, a7]) v1 x0 (by simp)
  have x2 := hrow_set (i := 2) (cs' := #[v0, v1, v2, a3, a4, a5, a6, a7]) v2 x1 (by simp)
  have x3 := hrow_set (i := 3) (cs' := #[v0, v1, v2, v3, a4, a5, a6, a7]) v3 x2 (by simp)
  have x4 := hrow_set (i := 4) (cs' := #[v0, v1, v2, v3, v4, a5, a6, a7]) v4 x3 (by simp)
  have x5 := hrow_set (i := 5) (cs' := #[v0, v1, v2, v3, v4, v5, a6, a7]) v5 x4 (by simp)
  have x6 := hrow_set (i := 6) (cs' := #[v0, v1, v2, v3, v4, v5, v6, a7]) v6 x5 (by simp)
  have x7 := hrow_set (i := 7) (cs' := #[v0, v1, v2, v3, v4, v5, v6, v7]) v7 x6 (by simp)
  have y0 := hrow_other (g := B) (i := 0) v0 r3 n2
  have y1 := hrow_other (g := B) (i := 1) v1 y0 n2
  have y2 := hrow_other (g := B) (i := 2) v2 y1 n2
  have y3 := hrow_other (g := B) (i := 3) v3 y2 n2
  have y4 := hrow_other (g := B) (i := 4) v4 y3 n2
  have y5 := hrow_other (g := B) (i := 5) v5 y4 n2
  have y6 := hrow_other (g := B) (i := 6) v6 y5 n2
  have y7 := hrow_other (g := B) (i := 7) v7 y6 n2
  have z0 := hrow_set (i := 0) (cs' := #[u0, c1, c2, c3]) u0 y7 (by simp)
  have z1 := hrow_set (i := 1) (cs' := #[u0, u1, c2, c3]) u1 z0 (by simp)
  have z2 := hrow_set (i := 2) (cs' := #[u0, u1, u2, c3]) u2 z1 (by simp)
  have z3 := hrow_set (i := 3) (cs' := #[u0, u1, u2, u3]) u3 z2 (by simp)
  have q0 := hrow_other (g := B + 1) (i := 0) u0 x7 n1
  have q1 := hrow_other (g := B + 1) (i := 1) u1 q0 n1
  have q2 := hrow_other (g := B + 1) (i := 2) u2 q1 n1
  have q3 := hrow_other (g := B + 1) (i := 3) u3 q2 n1
  exact ⟨q3, z3⟩

theorem hrow_drew {w : World} {k : Nat} {o : Option Obj} (h : w.heap[k]? = o) : w.drew.heap[k]? = o := h
theorem cells8 {W : World} {g : Nat} {t : TypeId} {c0 c1 c2 c3 c4 c5 c6 c7 : Value} (h : W.heap[g]? = some (.cells #[c0, c1, c2, c3, c4, c5, c6, c7] t (0, 0))) :
    W.cell? ⟨g, 0, none⟩ = some c0 ∧ W.cell? ⟨g, 1, none⟩ = some c1 ∧ W.cell? ⟨g, 2, none⟩ = some c2 ∧ W.cell? ⟨g, 3, none⟩ = some c3 ∧ W.cell? ⟨g, 4, none⟩ = some c4 ∧ W.cell? ⟨g, 5, none⟩ = some c5 ∧ W.cell? ⟨g, 6, none⟩ = some c6 ∧ W.cell? ⟨g, 7, none⟩ = some c7 ∧ W.frozen? ⟨g, 0, none⟩ = false ∧ W.frozen? ⟨g, 1, none⟩ = false ∧ W.frozen? ⟨g, 2, none⟩ = false ∧ W.frozen? ⟨g, 3, none⟩ = false ∧ W.frozen? ⟨g, 4, none⟩ = false ∧ W.frozen? ⟨g, 5, none⟩ = false ∧ W.frozen? ⟨g, 6, none⟩ = false ∧ W.frozen? ⟨g, 7, none⟩ = false :=
  ⟨(cell_of_row _ _ _ _ _ _ h).trans rfl, (cell_of_row _ _ _ _ _ _ h).trans rfl, (cell_of_row _ _ _ _ _ _ h).trans rfl, (cell_of_row _ _ _ _ _ _ h).trans rfl, (cell_of_row _ _ _ _ _ _ h).trans rfl, (cell_of_row _ _ _ _ _ _ h).trans rfl, (cell_of_row _ _ _ _ _ _ h).trans rfl, (cell_of_row _ _ _ _ _ _ h).trans rfl, frozen_of_row _ _ _ _ _ h, frozen_of_row _ _ _ _ _ h, frozen_of_row _ _ _ _ _ h, frozen_of_row _ _ _ _ _ h, frozen_of_row _ _ _ _ _ h, frozen_of_row _ _ _ _ _ h, frozen_of_row _ _ _ _ _ h, frozen_of_row _ _ _ _ _ h⟩
theorem cells4 {W : World} {g : Nat} {t : TypeId} {c0 c1 c2 c3 : Value} (h : W.heap[g]? = some (.cells #[c0, c1, c2, c3] t (0, 0))) :
    W.cell? ⟨g, 0, none⟩ = some c0 ∧ W.cell? ⟨g, 1, none⟩ = some c1 ∧ W.cell? ⟨g, 2, none⟩ = some c2 ∧ W.cell? ⟨g, 3, none⟩ = some c3 ∧ W.frozen? ⟨g, 0, none⟩ = false ∧ W.frozen? ⟨g, 1, none⟩ = false ∧ W.frozen? ⟨g, 2, none⟩ = false ∧ W.frozen? ⟨g, 3, none⟩ = false :=
  ⟨(cell_of_row _ _ _ _ _ _ h).trans rfl, (cell_of_row _ _ _ _ _ _ h).trans rfl, (cell_of_row _ _ _ _ _ _ h).trans rfl, (cell_of_row _ _ _ _ _ _ h).trans rfl, frozen_of_row _ _ _ _ _ h, frozen_of_row _ _ _ _ _ h, frozen_of_row _ _ _ _ _ h, frozen_of_row _ _ _ _ _ h⟩
theorem cells5 {W : World} {g : Nat} {t : TypeId} {c0 c1 c2 c3 c4 : Value} (h : W.heap[g]? = some (.cells #[c0, c1, c2, c3, c4] t (0, 0))) :
    W.cell? ⟨g, 0, none⟩ = some c0 ∧ W.cell? ⟨g, 1, none⟩ = some c1 ∧ W.cell? ⟨g, 2, none⟩ = some c2 ∧ W.cell? ⟨g, 3, none⟩ = some c3 ∧ W.cell? ⟨g, 4, none⟩ = some c4 ∧ W.frozen? ⟨g, 0, none⟩ = false ∧ W.frozen? ⟨g, 1, none⟩ = false ∧ W.frozen? ⟨g, 2, none⟩ = false ∧ W.frozen? ⟨g, 3, none⟩ = false ∧ W.frozen? ⟨g, 4, none⟩ = false :=
  ⟨(cell_of_row _ _ _ _ _ _ h).trans rfl, (cell_of_row _ _ _ _ _ _ h).trans rfl, (cell_of_row _ _ _ _ _ _ h).trans rfl, (cell_of_row _ _ _ _ _ _ h).trans rfl, (cell_of_row _ _ _ _ _ _ h).trans rfl, frozen_of_row _ _ _ _ _ h, frozen_of_row _ _ _ _ _ h, frozen_of_row _ _ _ _ _ h, frozen_of_row _ _ _ _ _ h, frozen_of_row _ _ _ _ _ h⟩


theorem rowset8 {W : World} {g : Nat} {t : TypeId} {v0 v1 v2 v3 v4 v5 v6 v7 a0 a1 a2 a3 a4 a5 a6 a7 : Value} (r : W.heap[g]? = some (.cells #[a0, a1, a2, a3, a4, a5, a6, a7] t (0, 0))) :
    (((((((((W).setCell ⟨g, 0, none⟩ v0).setCell ⟨g, 1, none⟩ v1).setCell ⟨g, 2, none⟩ v2).setCell ⟨g, 3, none⟩ v3).setCell ⟨g, 4, none⟩ v4).setCell ⟨g, 5, none⟩ v5).setCell ⟨g, 6, none⟩ v6).setCell ⟨g, 7, none⟩ v7).heap[g]? = some (.cells #[v0, v1, v2, v3, v4, v5, v6, v7] t (0, 0)) := by
  have x0 := hrow_set (i := 0) (cs' := #[v0, a1, a2, a3, a4, a5, a6, a7]) v0 r (by simp)
  have x1 := hrow_set (i := 1) (cs' := #[v0, v1, a2, a3, a4, a5, a6, a7]) v1 x0 (by simp)
  have x2 := hrow_set (i := 2) (cs' := #[v0, v1, v2, a3, a4, a5, a6, a7]) v2 x1 (by simp)
  have x3 := hrow_set (i := 3) (cs' := #[v0, v1, v2, v3, a4, a5, a6, a7]) v3 x2 (by simp)
  have x4 := hrow_set (i := 4) (cs' := #[v0, v1, v2, v3, v4, a5, a6, a7]) v4 x3 (by simp)
  have x5 := hrow_set (i := 5) (cs' := #[v0, v1, v2, v3, v4, v5, a6, a7]) v5 x4 (by simp)
  have x6 := hrow_set (i := 6) (cs' := #[v0, v1, v2, v3, v4, v5, v6, a7]) v6 x5 (by simp)
  have x7 := hrow_set (i := 7) (cs' := #[v0, v1, v2, v3, v4, v5, v6, v7]) v7 x6 (by simp)
  exact x7
theorem hrow_drewN {w : World} {k n : Nat} {o : Option Obj} (h : w.heap[k]? = o) : (w.drewN n).heap[k]? = o := h
theorem hrow_new {w : World} {k : Nat} (o : Obj) (h : k = w.heap.size) : (w.alloc o).heap[k]? = some o := by subst h; exact heap_alloc_new w o
theorem hrow_old {w : World} {k : Nat} {x : Obj} (o : Obj) (h : w.heap[k]? = some x) : (w.alloc o).heap[k]? = some x := by
  exact (heap_alloc_old w o (Array.getElem?_eq_some_iff.1 h).1).trans h
theorem rows1 (w : World) (A : Obj) (n : Nat) : ((w.alloc A).drewN n).heap[w.heap.size]? = some A := hrow_new A rfl
theorem rows2 (w : World) (A B : Obj) (n : Nat) : (((w.alloc A).alloc B).drewN n).heap[w.heap.size]? = some A ∧ (((w.alloc A).alloc B).drewN n).heap[w.heap.size + 1]? = some B :=
  ⟨hrow_old B (hrow_new A rfl), hrow_new B (by simp)⟩
theorem rows3 (w : World) (A B C : Obj) (n : Nat) : ((((w.alloc A).alloc B).alloc C).drewN n).heap[w.heap.size]? = some A ∧ ((((w.alloc A).alloc B).alloc C).drewN n).heap[w.heap.size + 1]? = some B ∧ ((((w.alloc A).alloc B).alloc C).drewN n).heap[w.heap.size + 1 + 1]? = some C :=
  ⟨hrow_old C (hrow_old B (hrow_new A rfl)), hrow_old C (hrow_new B (by simp)), hrow_new C (by simp)⟩
theorem rows4 (w : World) (A B C D : Obj) (n : Nat) : (((((w.alloc A).alloc B).alloc C).drewN n).alloc D).heap[w.heap.size]? = some A ∧ (((((w.alloc A).alloc B).alloc C).drewN n).alloc D).heap[w.heap.size + 1]? = some B ∧ (((((w.alloc A).alloc B).alloc C).drewN n).alloc D).heap[w.heap.size + 1 + 1]? = some C ∧
    (((((w.alloc A).alloc B).alloc C).drewN n).alloc D).heap[w.heap.size + 1 + 1 + 1]? = some D :=
  ⟨hrow_old D (rows3 w A B C n).1, hrow_old D (rows3 w A B C n).2.1, hrow_old D (rows3 w A B C n).2.2, hrow_new D (by simp)⟩
theorem fresh8N (wr : World) (T : TypeId) (n : Nat) :
    ((wr.drewN n).alloc (Obj.cells #[.int .i64 0, .bool false, .int .i64 0, .bool false, .bool false, .bool false, .bool false, .int .i64 0] T (0, 0))).cell? ⟨wr.heap.size, 0, none⟩ = some (.int .i64 0) ∧ ((wr.drewN n).alloc (Obj.cells #[.int .i64 0, .bool false, .int .i64 0, .bool false, .bool false, .bool false, .bool false, .int .i64 0] T (0, 0))).cell? ⟨wr.heap.size, 1, none⟩ = some (.bool false) ∧ ((wr.drewN n).alloc (Obj.cells #[.int .i64 0, .bool false, .int .i64 0, .bool false, .bool false, .bool false, .bool false, .int .i64 0] T (0, 0))).cell? ⟨wr.heap.size, 2, none⟩ = some (.int .i64 0) ∧ ((wr.drewN n).alloc (Obj.cells #[.int .i64 0, .bool false, .int .i64 0, .bool false, .bool false, .bool false, .bool false, .int .i64 0] T (0, 0))).cell? ⟨wr.heap.size, 3, none⟩ = some (.bool false) ∧ ((wr.drewN n).alloc (Obj.cells #[.int .i64 0, .bool false, .int .i64 0, .bool false, .bool false, .bool false, .bool false, .int .i64 0] T (0, 0))).cell? ⟨wr.heap.size, 4, none⟩ = some (.bool false) ∧ ((wr.drewN n).alloc (Obj.cells #[.int .i64 0, .bool false, .int .i64 0, .bool false, .bool false, .bool false, .bool false, .int .i64 0] T (0, 0))).cell? ⟨wr.heap.size, 5, none⟩ = some (.bool false) ∧ ((wr.drewN n).alloc (Obj.cells #[.int .i64 0, .bool false, .int .i64 0, .bool false, .bool false, .bool false, .bool false, .int .i64 0] T (0, 0))).cell? ⟨wr.heap.size, 6, none⟩ = some (.bool false) ∧ ((wr.drewN n).alloc (Obj.cells #[.int .i64 0, .bool false, .int .i64 0, .bool false, .bool false, .bool false, .bool false, .int .i64 0] T (0, 0))).cell? ⟨wr.heap.size, 7, none⟩ = some (.int .i64 0) ∧ ((wr.drewN n).alloc (Obj.cells #[.int .i64 0, .bool false, .int .i64 0, .bool false, .bool false, .bool false, .bool false, .int .i64 0] T (0, 0))).frozen? ⟨wr.heap.size, 0, none⟩ = false ∧ ((wr.drewN n).alloc (Obj.cells #[.int .i64 0, .bool false, .int .i64 0, .bool false, .bool false, .bool false, .bool false, .int .i64 0] T (0, 0))).frozen? ⟨wr.heap.size, 1, none⟩ = false ∧ ((wr.drewN n).alloc (Obj.cells #[.int .i64 0, .bool false, .int .i64 0, .bool false, .bool false, .bool false, .bool false, .int .i64 0] T (0, 0))).frozen? ⟨wr.heap.size, 2, none⟩ = false ∧ ((wr.drewN n).alloc (Obj.cells #[.int .i64 0, .bool false, .int .i64 0, .bool false, .bool false, .bool false, .bool false, .int .i64 0] T (0, 0))).frozen? ⟨wr.heap.size, 3, none⟩ = false ∧ ((wr.drewN n).alloc (Obj.cells #[.int .i64 0, .bool false, .int .i64 0, .bool false, .bool false, .bool false, .bool false, .int .i64 0] T (0, 0))).frozen? ⟨wr.heap.size, 4, none⟩ = false ∧ ((wr.drewN n).alloc (Obj.cells #[.int .i64 0, .bool false, .int .i64 0, .bool false, .bool false, .bool false, .bool false, .int .i64 0] T (0, 0))).frozen? ⟨wr.heap.size, 5, none⟩ = false ∧ ((wr.drewN n).alloc (Obj.cells #[.int .i64 0, .bool false, .int .i64 0, .bool false, .bool false, .bool false, .bool false, .int .i64 0] T (0, 0))).frozen? ⟨wr.heap.size, 6, none⟩ = false ∧ ((wr.drewN n).alloc (Obj.cells #[.int .i64 0, .bool false, .int .i64 0, .bool false, .bool false, .bool false, .bool false, .int .i64 0] T (0, 0))).frozen? ⟨wr.heap.size, 7, none⟩ = false :=
  cells8 (W := (wr.drewN n).alloc (Obj.cells #[.int .i64 0, .bool false, .int .i64 0, .bool false, .bool false, .bool false, .bool false, .int .i64 0] T (0, 0))) (hrow_new _ rfl)
theorem fresh8 (wr : World) (T : TypeId) :
    (wr.drew.alloc (Obj.cells #[.int .i64 0, .bool false, .int .i64 0, .bool false, .bool false, .bool false, .bool false, .int .i64 0] T (0, 0))).cell? ⟨wr.heap.size, 0, none⟩ = some (.int .i64 0) ∧ (wr.drew.alloc (Obj.cells #[.int .i64 0, .bool false, .int .i64 0, .bool false, .bool false, .bool false, .bool false, .int .i64 0] T (0, 0))).cell? ⟨wr.heap.size, 1, none⟩ = some (.bool false) ∧ (wr.drew.alloc (Obj.cells #[.int .i64 0, .bool false, .int .i64 0, .bool false, .bool false, .bool false, .bool false, .int .i64 0] T (0, 0))).cell? ⟨wr.heap.size, 2, none⟩ = some (.int .i64 0) ∧ (wr.drew.alloc (Obj.cells #[.int .i64 0, .bool false, .int .i64 0, .bool false, .bool false, .bool false, .bool false, .int .i64 0] T (0, 0))).cell? ⟨wr.heap.size, 3, none⟩ = some (.bool false) ∧ (wr.drew.alloc (Obj.cells #[.int .i64 0, .bool false, .int .i64 0, .bool false, .bool false, .bool false, .bool false, .int .i64 0] T (0, 0))).cell? ⟨wr.heap.size, 4, none⟩ = some (.bool false) ∧ (wr.drew.alloc (Obj.cells #[.int .i64 0, .bool false, .int .i64 0, .bool false, .bool false, .bool false, .bool false, .int .i64 0] T (0, 0))).cell? ⟨wr.heap.size, 5, none⟩ = some (.bool false) ∧ (wr.drew.alloc (Obj.cells #[.int .i64 0, .bool false, .int .i64 0, .bool false, .bool false, .bool false, .bool false, .int .i64 0] T (0, 0))).cell? ⟨wr.heap.size, 6, none⟩ = some (.bool false) ∧ (wr.drew.alloc (Obj.cells #[.int .i64 0, .bool false, .int .i64 0, .bool false, .bool false, .bool false, .bool false, .int .i64 0] T (0, 0))).cell? ⟨wr.heap.size, 7, none⟩ = some (.int .i64 0) ∧ (wr.drew.alloc (Obj.cells #[.int .i64 0, .bool false, .int .i64 0, .bool false, .bool false, .bool false, .bool false, .int .i64 0] T (0, 0))).frozen? ⟨wr.heap.size, 0, none⟩ = false ∧ (wr.drew.alloc (Obj.cells #[.int .i64 0, .bool false, .int .i64 0, .bool false, .bool false, .bool false, .bool false, .int .i64 0] T (0, 0))).frozen? ⟨wr.heap.size, 1, none⟩ = false ∧ (wr.drew.alloc (Obj.cells #[.int .i64 0, .bool false, .int .i64 0, .bool false, .bool false, .bool false, .bool false, .int .i64 0] T (0, 0))).frozen? ⟨wr.heap.size, 2, none⟩ = false ∧ (wr.drew.alloc (Obj.cells #[.int .i64 0, .bool false, .int .i64 0, .bool false, .bool false, .bool false, .bool false, .int .i64 0] T (0, 0))).frozen? ⟨wr.heap.size, 3, none⟩ = false ∧ (wr.drew.alloc (Obj.cells #[.int .i64 0, .bool false, .int .i64 0, .bool false, .bool false, .bool false, .bool false, .int .i64 0] T (0, 0))).frozen? ⟨wr.heap.size, 4, none⟩ = false ∧ (wr.drew.alloc (Obj.cells #[.int .i64 0, .bool false, .int .i64 0, .bool false, .bool false, .bool false, .bool false, .int .i64 0] T (0, 0))).frozen? ⟨wr.heap.size, 5, none⟩ = false ∧ (wr.drew.alloc (Obj.cells #[.int .i64 0, .bool false, .int .i64 0, .bool false, .bool false, .bool false, .bool false, .int .i64 0] T (0, 0))).frozen? ⟨wr.heap.size, 6, none⟩ = false ∧ (wr.drew.alloc (Obj.cells #[.int .i64 0, .bool false, .int .i64 0, .bool false, .bool false, .bool false, .bool false, .int .i64 0] T (0, 0))).frozen? ⟨wr.heap.size, 7, none⟩ = false :=
  cells8 (W := wr.drew.alloc (Obj.cells #[.int .i64 0, .bool false, .int .i64 0, .bool false, .bool false, .bool false, .bool false, .int .i64 0] T (0, 0))) (hrow_new _ rfl)
end Go.Proofs.YtgfahkgnblkhaaaGreatDoor
