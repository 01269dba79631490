/-
  What comes in, as the statements on data want it: an SOA by value; slices of bytes; how long bytes can be.
-/
import Derived.Test.YtbcgpdoljcokgaaNmP
import Derived.Test.YtbcgpdoljcokgaaRcH
import Derived.Test.YtbcgpdoljcokgaaRcJ
import Derived.Deep.Slices
import Derived.Deep.Fields
import Derived.SizedLaws
namespace Go.Proofs.Ytbcgpdoljcokgaa
open Go.ChangeShapes Go.WideShapes Go.ChangeAt Go.RowKit Go.Deep
set_option linter.unusedVariables false

theorem soaCells : Try.prog.cellsOf 30 = 7 := by kernel_rfl
theorem intCells : Try.prog.cellsOf 3 = 1 := by kernel_rfl
theorem strCells : Try.prog.cellsOf 9 = 1 := by kernel_rfl
theorem slCells : Try.prog.cellsOf 22 = 1 := by kernel_rfl
theorem of_seven {α : Type} (l : List α) (h : l.length = 7) : ∃ a b c d e f g, l = [a, b, c, d, e, f, g] := by
  match l, h with
  | [a, b, c, d, e, f, g], _ => exact ⟨a, b, c, d, e, f, g, rfl⟩

section
variable {H : Type} {enc : TypeId × Value → H} {w : World} {base b0 : Nat} {sp : Nat → Bool} {held : Bool} {v : Value} {d : DataW H} {p : List MemPlace} {r0 : Reach}
set_option maxHeartbeats 1000000 in
theorem open_soa (hv : Value.okWide Try.prog w r0 b0 30 v) (h : DataW.Trod enc Try.prog w base sp held 30 v d p) :
    ∃ (m r : Bs) (a b c d e : Int), v = .agg (soa7 m r a b c d e) := by
  obtain ⟨cs, rfl, hsz⟩ := okWide_struct Try.underlying30 hv
  obtain ⟨l⟩ := cs
  obtain ⟨a, b, c, d, e, f, g, rfl⟩ := of_seven l (hsz.trans soaCells)
  obtain ⟨fuel, hf⟩ := h
  obtain ⟨xs, n, _, _, _, hlen, hg⟩ := DataW.trod_struct Try.underlying30 hf
  obtain ⟨y0, y1, y2, y3, y4, y5, y6, rfl⟩ := of_seven xs hlen
  have g0 : DataW.trod enc Try.prog w base sp held n 9 [a] = some y0 := by simpa [Value.cells, strCells] using hg 0 _ rfl
  have g1 : DataW.trod enc Try.prog w base sp held n 9 [b] = some y1 := by simpa [Value.cells, strCells] using hg 1 _ rfl
  have g2 : DataW.trod enc Try.prog w base sp held n 3 [c] = some y2 := by simpa [Value.cells, intCells] using hg 2 _ rfl
  have g3 : DataW.trod enc Try.prog w base sp held n 3 [d] = some y3 := by simpa [Value.cells, intCells] using hg 3 _ rfl
  have g4 : DataW.trod enc Try.prog w base sp held n 3 [e] = some y4 := by simpa [Value.cells, intCells] using hg 4 _ rfl
  have g5 : DataW.trod enc Try.prog w base sp held n 3 [f] = some y5 := by simpa [Value.cells, intCells] using hg 5 _ rfl
  have g6 : DataW.trod enc Try.prog w base sp held n 3 [g] = some y6 := by simpa [Value.cells, intCells] using hg 6 _ rfl
  obtain ⟨x0, e0, _, _⟩ := DataW.trod_string Try.underlying9 g0
  obtain ⟨x1, e1, _, _⟩ := DataW.trod_string Try.underlying9 g1
  obtain ⟨x2, e2, _, _⟩ := DataW.trod_int Try.underlying3 g2
  obtain ⟨x3, e3, _, _⟩ := DataW.trod_int Try.underlying3 g3
  obtain ⟨x4, e4, _, _⟩ := DataW.trod_int Try.underlying3 g4
  obtain ⟨x5, e5, _, _⟩ := DataW.trod_int Try.underlying3 g5
  obtain ⟨x6, e6, _, _⟩ := DataW.trod_int Try.underlying3 g6
  simp only [List.cons.injEq, and_true] at e0 e1 e2 e3 e4 e5 e6
  subst e0 e1 e2 e3 e4 e5 e6
  refine ⟨x0.data.toList, x1.data.toList, x2, x3, x4, x5, x6, ?_⟩
  unfold soa7
  rw [← bs_list x0, ← bs_list x1]

theorem open_byss {a : Option Addr} {len cap : Nat} (h : DataW.Trod enc Try.prog w 0 (fun _ => true) held 42 (.slice a len cap) d p) : ∃ L : List Bs, L.length = len ∧ Byss w a L ∧ len ≤ cap ∧ cap ≤ 9223372036854775807 := by
  obtain ⟨fuel, hf⟩ := h
  rcases open_slice1 Try.underlying42 slCells hf with ⟨hcs, _⟩ | ⟨x, l, c, m, n, V, D, Pl, hcs, _, hl, hm, hmm, _, hV⟩
  · simp [Value.cells] at hcs
    obtain ⟨rfl, rfl, rfl⟩ := hcs
    exact ⟨[], rfl, fun h => absurd h (by simp), by omega, by omega⟩
  · simp [Value.cells] at hcs
    obtain ⟨rfl, rfl, rfl⟩ := hcs
    simp only [if_true] at hmm
    subst hmm
    have hE : ∀ i, i < len → ∃ (y : Bs) (a : Option Addr) (c : Nat), w.cell? (x.add i) = some (.slice a y.length c) ∧ Bys w a y ∧ y.length ≤ c ∧ c ≤ 9223372036854775807 ∧ (a = none → c = 0) := by
      intro i hi
      obtain ⟨h1, h2⟩ := hV i (by omega)
      have hs : ∃ a l c, V i = .slice a l c ∧ (a = none → c = 0) := by
        rcases open_ints Try.underlying22 Try.underlying5 (by kernel_rfl) h2 with ⟨hcs, _⟩ | ⟨x', l', c', zs, hcs, _⟩
        · simp at hcs; exact ⟨none, 0, 0, hcs, fun _ => rfl⟩
        · simp at hcs; exact ⟨some x', l', c', hcs, fun h => by cases h⟩
      obtain ⟨a, l, c, hVi, hn⟩ := hs
      rw [hVi] at h1 h2
      obtain ⟨y, rfl, hB, hlc, hcm⟩ := open_bys (d := D i) (p := Pl i) ⟨n, by simpa [Value.cells] using h2⟩
      exact ⟨y, a, c, h1, hB, hlc, hcm, hn⟩
    obtain ⟨f, hf⟩ := choose_lt (n := len) (p := fun i y => ∃ (a : Option Addr) (c : Nat), w.cell? (x.add i) = some (.slice a (y : Bs).length c) ∧ Bys w a y ∧ y.length ≤ c ∧ c ≤ 9223372036854775807 ∧ (a = none → c = 0)) hE
    refine ⟨(List.range len).map f, by simp, fun h0 => ?_, hl, by unfold maxLen at hm; omega⟩
    have h0' : 0 < len := by simpa using h0
    obtain ⟨a0, c0, hc0, _⟩ := hf 0 h0'
    have hv : ∀ j, j < len → ∃ (a : Option Addr) (c : Nat), w.cell? (x.add j) = some (.slice a (f j).length c) ∧ Bys w a (f j) ∧ (f j).length ≤ c ∧ c ≤ 9223372036854775807 ∧ (a = none → c = 0) := hf
    obtain ⟨g, off, vi⟩ := x
    have hvi : vi = none := by simpa [Addr.add] using World.cell?_spot hc0
    subst hvi
    refine ⟨g, off, rfl, fun j hj => ?_⟩
    have hj' : j < len := by simpa using hj
    obtain ⟨a, c, h1, h2⟩ := hv j hj'
    rw [Addr.add_lit] at h1
    simp only [List.getElem_map, List.getElem_range]
    exact ⟨a, c, h1, h2⟩

theorem bytes1 : Try.checked.prog.bytesOf 5 = 1 := by kernel_rfl
theorem open_len {a : Option Addr} {len cap : Nat} (h : DataW.Trod enc Try.prog w 0 (fun _ => true) held 22 (.slice a len cap) d p) : (d = .nil ∧ len = 0) ∨ ∃ xs sp : List Int, xs.length = len ∧ d = .slice (lits .u8 xs) (lits .u8 sp) := by
  obtain ⟨fuel, hf⟩ := h
  rcases open_ints Try.underlying22 Try.underlying5 (by kernel_rfl) hf with ⟨hcs, hx⟩ | ⟨x, l, c, zs, hcs, _, hl, hm, hz, hx, hcell, hwz⟩
  · simp [Value.cells] at hcs
    obtain ⟨rfl, rfl, rfl⟩ := hcs
    simp only [Prod.mk.injEq] at hx
    exact .inl ⟨hx.1, rfl⟩
  · simp [Value.cells] at hcs
    obtain ⟨rfl, rfl, rfl⟩ := hcs
    simp only [Prod.mk.injEq] at hx
    have hz' : zs.length = cap := by simpa using hz
    exact .inr ⟨zs.take len, _, by simp; omega, hx.1⟩
end
theorem Bys.inside {w : World} {A : Option Addr} {l : Bs} (h : Bys w A l) : ∀ p, A = some p → 0 < l.length → p.block < w.heap.size := by
  intro p hp hn
  obtain ⟨g, off, hA, hc⟩ := h hn
  rw [hA] at hp
  injection hp with hp
  subst hp
  exact World.block_lt_of_cell? w _ (hc 0 hn)
end Go.Proofs.Ytbcgpdoljcokgaa
