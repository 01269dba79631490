/-
  Blocks of many cells, allocated, loaded and stored whole: laws for the walk.
-/
import Derived.WalkKit
import Derived.WalkLawsBesides
import Derived.WalkSpells
import Derived.Laws.Rows
import Derived.Laws.ResultCell
import Derived.Deep.Draws
import Derived.Lib.Hide
import Derived.Test.YtjhameebehkdjaaGreatProg
import Derived.Test.YtjhameebehkdjaaGreatNmL
namespace Go.Proofs.YtjhameebehkdjaaGreat
open Go.RowKit

section
variable {P : Program}
theorem wpList_alloc_at {ops : Array Oper} {rest : List Oper} {o : Oper} {a : Act} {w : World} {Q : Exit → Act → World → Prop} (hgd : o.guard = none) (ty : TypeId) (ho : o.op = .alloc ty)
    (i : TypeInfo) (Z : Array Value) (hi : P.info? ty = some i) (hz : i.zero = some (.agg Z))
    (h : wpList P ops Q rest (a.put o.dst (.pointer (some ⟨w.heap.size, 0, none⟩))) (w.alloc (.cells Z ty))) : wpList P ops Q (o :: rest) a w :=
  wpList_plain hgd fun K hK => by
    unfold Oper.wp execOp
    simp only [ho, Instr.alloc, zeroValue, typeInfo, Sem.run_bind, Sem.run_pure]
    simp [hi, hz, newVar, newRow, newObj, Value.cells]
    exact hK _ _ h
end

theorem Below.setRow {B : Nat} {a w : World} (h : Below B a w) {g : Nat} (hg : B ≤ g) (cs : Array Value) : Below B a (w.setRow g cs) :=
  ⟨h.os, h.tape, h.output, by rw [size_setRow]; exact h.size, fun k hk => (setRow_other w g k cs (by omega)).trans (h.block k hk)⟩

theorem below_drewN {B : Nat} {a w : World} (h : Below B a w) (n : Nat) : Below B a (w.drewN n) := ⟨h.os, h.tape, h.output, h.size, h.block⟩

theorem row_set {w : World} {g i : Nat} {cs : Array Value} {t : TypeId} (v : Value) (hg : w.heap[g]? = some (.cells cs t (0, 0))) : (w.setCell ⟨g, i, none⟩ v).heap[g]? = some (.cells (cs.setIfInBounds i v) t (0, 0)) := heap_setCell_same _ _ _ _ _ _ hg
theorem row_other {w : World} {g k i : Nat} {o : Option Obj} (v : Value) (hk : w.heap[k]? = o) (h : k ≠ g) : (w.setCell ⟨g, i, none⟩ v).heap[k]? = o := (heap_setCell_other _ _ _ _ (by simpa using h)).trans hk
theorem row_new {w : World} {k : Nat} (o : Obj) (h : k = w.heap.size) : (w.alloc o).heap[k]? = some o := by subst h; exact heap_alloc_new w o
theorem row_old {w : World} {k : Nat} {x : Obj} (o : Obj) (h : w.heap[k]? = some x) : (w.alloc o).heap[k]? = some x := by
  exact (heap_alloc_old w o (Array.getElem?_eq_some_iff.1 h).1).trans h
theorem row_drew {w : World} {k : Nat} {o : Option Obj} (h : w.heap[k]? = o) : w.drew.heap[k]? = o := h
theorem row_drewN {w : World} {k n : Nat} {o : Option Obj} (h : w.heap[k]? = o) : (w.drewN n).heap[k]? = o := h

end Go.Proofs.YtjhameebehkdjaaGreat
