/-
  Steps that come in: how each reads, shapes alone.
-/
import Derived.Test.YtcnnifogppabdaaPlC
import Derived.Deep.Fields
import Derived.Deep.MidRow
namespace Go.Proofs.Ytcnnifogppabdaa
open Go.ChangeShapes Go.WideShapes Go.ChangeAt Go.RowKit Go.Deep
set_option linter.unusedVariables false
set_option maxRecDepth 100000

theorem stCells : Try.prog.cellsOf 33 = 6 := by kernel_rfl
theorem intCells : Try.prog.cellsOf 3 = 1 := by kernel_rfl
theorem strCells : Try.prog.cellsOf 9 = 1 := by kernel_rfl
theorem tlsCells : Try.prog.cellsOf 31 = 1 := by kernel_rfl
theorem of_six {α : Type} (l : List α) (h : l.length = 6) : ∃ a b c d e f, l = [a, b, c, d, e, f] := by
  match l, h with
  | [a, b, c, d, e, f], _ => exact ⟨a, b, c, d, e, f, rfl⟩
/-- A step's cells. -/
structure St where
  op : Int
  k : Int
  nm : ByteArray
  to : ByteArray
  ba : Option Addr
  bn : Nat
  bc : Nat
  ta : Option Addr
  tn : Nat
  tc : Nat
def stL (x : St) : List Value := [.int .i64 x.op, .int .i64 x.k, .string x.nm, .string x.to, .slice x.ba x.bn x.bc, .slice x.ta x.tn x.tc]
def Stps (w : World) (A : Option Addr) (len : Nat) : Prop := 0 < len → ∃ g off, A = some ⟨g, off, none⟩ ∧ ∀ j, j < len → ∃ x : St, w.rangeAt g (off + j * 6) (stL x)
theorem Stps.on {w w1 : World} {A : Option Addr} {n : Nat} (h : Stps w A n) (hB : Below w.heap.size w w1) : Stps w1 A n := fun hn => by
  obtain ⟨g, off, hA, hc⟩ := h hn
  refine ⟨g, off, hA, fun j hj => ?_⟩
  obtain ⟨x, hx⟩ := hc j hj
  exact ⟨x, fun i v hv => (World.cell?_of_block (hB.block g (World.block_lt_of_cell? w _ (hx i v hv)))).trans (hx i v hv)⟩
section
variable {H : Type} {enc : TypeId × Value → H} {w : World} {held : Bool} {d : DataW H} {p : List MemPlace}
theorem open_stps {a : Option Addr} {len cap : Nat} (h : DataW.Trod enc Try.prog w 0 (fun _ => true) held 22 (.slice a len cap) d p) : Stps w a len ∧ len ≤ cap ∧ cap ≤ 9223372036854775807 := by
  obtain ⟨fuel, hf⟩ := h
  rcases open_slice Try.underlying22 hf with ⟨hcs, _⟩ | ⟨ad, l, c, m, k, D, Pl, hcs, _, hl, hm, hmm, hx, hE⟩
  · simp [Value.cells] at hcs
    obtain ⟨rfl, rfl, rfl⟩ := hcs
    exact ⟨fun h => absurd h (by simp), by omega, by omega⟩
  · simp [Value.cells] at hcs
    obtain ⟨rfl, rfl, rfl⟩ := hcs
    simp only [if_true] at hmm
    subst hmm
    have hel : ∀ i, i < len → ∃ q : St, ∀ j v, (stL q)[j]? = some v → w.cell? ((ad.add (i * 6)).add j) = some v := by
      intro i hi
      obtain ⟨cs', h1, h2⟩ := hE i (by omega)
      obtain ⟨_, hlen, hcell⟩ := World.cells?_some h1
      rw [stCells] at hlen hcell
      obtain ⟨x0, x1, x2, x3, x4, x5, rfl⟩ := of_six cs' hlen
      obtain ⟨xs, n', _, hD, _, hl3, hg⟩ := DataW.trod_struct Try.underlying33 h2
      obtain ⟨y0, y1, y2, y3, y4, y5, rfl⟩ := of_six xs hl3
      have g0 : DataW.trod enc Try.prog w 0 (fun _ => true) held n' 3 [x0] = some y0 := by simpa [intCells] using hg 0 _ rfl
      have g1 : DataW.trod enc Try.prog w 0 (fun _ => true) held n' 3 [x1] = some y1 := by simpa [intCells] using hg 1 _ rfl
      have g2 : DataW.trod enc Try.prog w 0 (fun _ => true) held n' 9 [x2] = some y2 := by simpa [strCells, intCells] using hg 2 _ rfl
      have g3 : DataW.trod enc Try.prog w 0 (fun _ => true) held n' 9 [x3] = some y3 := by simpa [strCells, intCells] using hg 3 _ rfl
      have g4 : DataW.trod enc Try.prog w 0 (fun _ => true) held n' 30 [x4] = some y4 := by simpa [strCells, intCells, slCells] using hg 4 _ rfl
      have g5 : DataW.trod enc Try.prog w 0 (fun _ => true) held n' 31 [x5] = some y5 := by simpa [strCells, intCells, slCells, tlsCells] using hg 5 _ rfl
      obtain ⟨i0, e0, _, _⟩ := DataW.trod_int Try.underlying3 g0
      obtain ⟨i1, e1, _, _⟩ := DataW.trod_int Try.underlying3 g1
      obtain ⟨s2, e2, _, _⟩ := DataW.trod_string Try.underlying9 g2
      obtain ⟨s3, e3, _, _⟩ := DataW.trod_string Try.underlying9 g3
      have e4 : ∃ a n c, x4 = .slice a n c := by
        obtain ⟨d4, p4⟩ := y4
        rcases open_slice Try.underlying30 g4 with ⟨hcs, _⟩ | ⟨ad, l, c, m, k, D, Pl, hcs, _⟩
        · simp at hcs; exact ⟨none, 0, 0, hcs⟩
        · simp at hcs; exact ⟨_, _, _, hcs⟩
      have e5 : ∃ a n c, x5 = .slice a n c := by
        obtain ⟨d5, p5⟩ := y5
        rcases open_slice Try.underlying31 g5 with ⟨hcs, _⟩ | ⟨ad, l, c, m, k, D, Pl, hcs, _⟩
        · simp at hcs; exact ⟨none, 0, 0, hcs⟩
        · simp at hcs; exact ⟨_, _, _, hcs⟩
      obtain ⟨a4, n4, c4, rfl⟩ := e4
      obtain ⟨a5, n5, c5, rfl⟩ := e5
      simp only [List.cons.injEq, and_true] at e0 e1 e2 e3
      subst e0 e1 e2 e3
      refine ⟨⟨i0, i1, s2, s3, a4, n4, c4, a5, n5, c5⟩, fun j v hj => ?_⟩
      have hj6 : j < 6 := (List.getElem?_eq_some_iff.1 hj).1
      have := hcell j hj6
      rw [this, ← hj, stL]
    refine ⟨fun h0 => ?_, hl, by unfold maxLen at hm; omega⟩
    obtain ⟨q0, hr0⟩ := hel 0 h0
    have hc0 := hr0 0 _ rfl
    obtain ⟨g, off, vi⟩ := ad
    have hvi : vi = none := by simpa [Addr.add] using World.cell?_spot hc0
    subst hvi
    refine ⟨g, off, rfl, fun j hj => ?_⟩
    obtain ⟨q, hr⟩ := hel j hj
    refine ⟨q, fun i v hi => ?_⟩
    have := hr i v hi
    rw [Addr.add_lit, Addr.add_lit] at this
    exact this
end
end Go.Proofs.Ytcnnifogppabdaa
