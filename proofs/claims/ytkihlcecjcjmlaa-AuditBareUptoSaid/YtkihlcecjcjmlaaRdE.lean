/-
  bytes.Equal, bytes.Clone, slices.Equal of texts, over bytes and strings in memory.
-/
import Derived.Test.YtkihlcecjcjmlaaQb
import Derived.Test.YtkihlcecjcjmlaaNmRa
import Derived.Lib.SliceRun
import Derived.BigQuiet
import Derived.Deep.MidRow
namespace Go.Proofs.Ytkihlcecjcjmlaa
open Go.RowKit
set_option linter.unusedVariables false
set_option maxRecDepth 100000

theorem cell_on {w w1 : World} {g o : Nat} {v : Value} (h : w.cell? ⟨g, o, none⟩ = some v) (hB : Below w.heap.size w w1) : w1.cell? ⟨g, o, none⟩ = some v :=
  (World.cell?_of_block (hB.block g (World.block_lt_of_cell? w _ h))).trans h
theorem range_on {w w1 : World} {g o : Nat} {cs : List Value} (h : w.rangeAt g o cs) (hB : Below w.heap.size w w1) : w1.rangeAt g o cs := fun j v hv => cell_on (h j v hv) hB
theorem grown_of_below {w w' : World} (hB : Below w.heap.size w w') (r : Option Nat) : w.grownBy w' r := ⟨hB.os, hB.tape, hB.output, hB.size, fun k hk _ => hB.block k hk⟩
theorem ownsRow_below {w w' : World} {base size n B : Nat} {e : TypeId} {v : Value} {xs : List Value} (h : w.ownsRow base e size v n xs) (hB : Below B w w') (hs : w.heap.size ≤ B) : w'.ownsRow base e size v n xs := by
  refine h.kept (row := none) ⟨hB.os, hB.tape, hB.output, hB.size, fun k hk _ => hB.block k (by omega)⟩ (by cases hv : v.ownBlock <;> simp)
theorem run_enter {f : FuncId} {fn : Func} (hf : Try.prog.funcs[f]? = some fn) (hname : (fn.name == "runtime.NumGoroutine") = false) (hb : fn.body.isNone = false) (args : Array Value) (w : World) : (callFunc f args).run Try.prog w = .ok (.enter f args) w := by
  have h1 : fn.name ≠ "runtime.NumGoroutine" := by simpa using hname
  simp [callFunc, hf, h1]
  intro h
  rw [h] at hb
  cases hb
theorem Bys.inside {w : World} {A : Option Addr} {l : Bs} (h : Bys w A l) : ∀ p, A = some p → 0 < l.length → p.block < w.heap.size := by
  intro p hp hn
  obtain ⟨g, off, hA, hc⟩ := h hn
  rw [hA] at hp
  injection hp with hp
  subst hp
  exact World.block_lt_of_cell? w _ (hc 0 hn)
theorem bs_beq (a b : Bs) : (bs a == bs b) = (a == b) := by
  show (a.toArray == b.toArray) = (a == b)
  simp



end Go.Proofs.Ytkihlcecjcjmlaa
