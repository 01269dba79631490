/-
  The document's SOA (layer 3).
-/
import Derived.Test.YtgfahkgnblkhaaaGreatDoorRdX
import Derived.Test.YtgfahkgnblkhaaaGreatDoorQt
import Derived.Laws.ResultCell
namespace Go.Proofs.YtgfahkgnblkhaaaGreatDoor
open Go.RowKit
set_option linter.unusedVariables false
set_option maxRecDepth 100000

/-- What the data of an SOA say, as cells. -/
def soaC : Option Soa → Array Value
  | none => #[.string ⟨#[]⟩, .string ⟨#[]⟩, .int .i64 0, .int .i64 0, .int .i64 0, .int .i64 0, .int .i64 0]
  | some s => #[.string (bs s.m), .string (bs s.r), .int .i64 s.a, .int .i64 s.b, .int .i64 s.c, .int .i64 s.d, .int .i64 s.e]
def SoaPost (w : World) (l : Bs) (e : Ending) (w' : World) : Prop := e = .returned (.tuple #[.agg (soaC (soa l)), .bool (soa l).isSome]) ∧ Below w.heap.size w w'

theorem heap_lt3 {w : World} {g : Nat} {o : Obj} (h : w.heap[g]? = some o) : g < w.heap.size := (Array.getElem?_eq_some_iff.1 h).1
theorem soa_none1 {l : Bs} (h : nameLen l = none) : soa l = none := by unfold soa; rw [h]
theorem soa_none2 {l : Bs} {i : Nat} (h : nameLen l = some i) (h2 : nameLen (l.drop i) = none) : soa l = none := by unfold soa; rw [h]; simp only; rw [h2]
theorem soa_at {l : Bs} {i j : Nat} (h : nameLen l = some i) (h2 : nameLen (l.drop i) = some j) : soa l = if l.length = i + j + 20 then some ⟨l.take i, (l.drop i).take j, four (l.drop (i + j)), four (l.drop (i + j + 4)), four (l.drop (i + j + 8)), four (l.drop (i + j + 12)), four (l.drop (i + j + 16))⟩ else none := by unfold soa; rw [h]; simp only; rw [h2]

theorem soaC_size (o : Option Soa) : (soaC o).size = 7 := by cases o <;> rfl
theorem soaC_one (o : Option Soa) : (soaC o).all (·.oneCell') = true := by cases o <;> simp [soaC, Value.oneCell']

end Go.Proofs.YtgfahkgnblkhaaaGreatDoor
