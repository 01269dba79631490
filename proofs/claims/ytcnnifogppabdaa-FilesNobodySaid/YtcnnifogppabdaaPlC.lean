/-
  Slices of bytes that come in.
-/
import Derived.Test.YtcnnifogppabdaaPlA
import Derived.Test.YtcnnifogppabdaaRdE
import Derived.Deep.Slices
namespace Go.Proofs.Ytcnnifogppabdaa
open Go.ChangeShapes Go.WideShapes Go.ChangeAt Go.RowKit Go.Deep
set_option linter.unusedVariables false
set_option maxRecDepth 100000

def Byss (w : World) (A : Option Addr) (L : List Bs) : Prop := 0 < L.length → ∃ g off, A = some ⟨g, off, none⟩ ∧ ∀ j (h : j < L.length), ∃ a c, w.cell? ⟨g, off + j, none⟩ = some (.slice a (L[j]).length c) ∧ Bys w a L[j] ∧ (L[j]).length ≤ c ∧ c ≤ 9223372036854775807 ∧ (a = none → c = 0)
theorem Byss.on {w w1 : World} {A : Option Addr} {L : List Bs} (h : Byss w A L) (hB : Below w.heap.size w w1) : Byss w1 A L := fun hn => by
  obtain ⟨g, off, hA, hc⟩ := h hn
  refine ⟨g, off, hA, fun j hj => ?_⟩
  obtain ⟨a, c, h1, h2, h3⟩ := hc j hj
  have hlt := World.block_lt_of_cell? w _ h1
  exact ⟨a, c, (World.cell?_of_block (hB.block g hlt)).trans h1, h2.on hB, h3⟩


theorem slCells : Try.prog.cellsOf 30 = 1 := by kernel_rfl
section
variable {H : Type} {enc : TypeId × Value → H} {w : World} {held : Bool} {d : DataW H} {p : List MemPlace}
theorem open_byss {a : Option Addr} {len cap : Nat} (h : DataW.Trod enc Try.prog w 0 (fun _ => true) held 57 (.slice a len cap) d p) : ∃ L : List Bs, L.length = len ∧ Byss w a L ∧ len ≤ cap ∧ cap ≤ 9223372036854775807 := by
  obtain ⟨fuel, hf⟩ := h
  rcases open_slice1 Try.underlying57 slCells hf with ⟨hcs, _⟩ | ⟨x, l, c, m, n, V, D, Pl, hcs, _, hl, hm, hmm, _, hV⟩
  · simp [Value.cells] at hcs
    obtain ⟨rfl, rfl, rfl⟩ := hcs
    exact ⟨[], rfl, fun h => absurd h (by simp), by omega, by omega⟩
  · simp [Value.cells] at hcs
    obtain ⟨rfl, rfl, rfl⟩ := hcs
    simp only [if_true] at hmm
    subst hmm
    have hE : ∀ i, i < len → ∃ (y : Bs) (a : Option Addr) (c : Nat), w.cell? (x.add i) = some (.slice a y.length c) ∧ Bys w a y ∧ y.length ≤ c ∧ c ≤ 9223372036854775807 ∧ (a = none → c = 0) := by
      intro i hi
      obtain ⟨h1, h2⟩ := hV i (by omega)
      have hs : ∃ a l c, V i = .slice a l c ∧ (a = none → c = 0) := by
        rcases open_ints Try.underlying30 Try.underlying5 (by kernel_rfl) h2 with ⟨hcs, _⟩ | ⟨x', l', c', zs, hcs, _⟩
        · simp at hcs; exact ⟨none, 0, 0, hcs, fun _ => rfl⟩
        · simp at hcs; exact ⟨some x', l', c', hcs, fun h => by cases h⟩
      obtain ⟨a, l, c, hVi, hn⟩ := hs
      rw [hVi] at h1 h2
      obtain ⟨y, rfl, hB, hlc, hcm⟩ := open_bys (d := D i) (p := Pl i) ⟨n, by simpa [Value.cells] using h2⟩
      exact ⟨y, a, c, h1, hB, hlc, hcm, hn⟩
    obtain ⟨f, hf⟩ := choose_lt (n := len) (p := fun i y => ∃ (a : Option Addr) (c : Nat), w.cell? (x.add i) = some (.slice a (y : Bs).length c) ∧ Bys w a y ∧ y.length ≤ c ∧ c ≤ 9223372036854775807 ∧ (a = none → c = 0)) hE
    refine ⟨(List.range len).map f, by simp, fun h0 => ?_, hl, by unfold maxLen at hm; omega⟩
    have h0' : 0 < len := by simpa using h0
    obtain ⟨a0, c0, hc0, _⟩ := hf 0 h0'
    have hv : ∀ j, j < len → ∃ (a : Option Addr) (c : Nat), w.cell? (x.add j) = some (.slice a (f j).length c) ∧ Bys w a (f j) ∧ (f j).length ≤ c ∧ c ≤ 9223372036854775807 ∧ (a = none → c = 0) := hf
    obtain ⟨g, off, vi⟩ := x
    have hvi : vi = none := by simpa [Addr.add] using World.cell?_spot hc0
    subst hvi
    refine ⟨g, off, rfl, fun j hj => ?_⟩
    have hj' : j < len := by simpa using hj
    obtain ⟨a, c, h1, h2⟩ := hv j hj'
    rw [Addr.add_lit] at h1
    simp only [List.getElem_map, List.getElem_range]
    exact ⟨a, c, h1, h2⟩


end
end Go.Proofs.Ytcnnifogppabdaa
