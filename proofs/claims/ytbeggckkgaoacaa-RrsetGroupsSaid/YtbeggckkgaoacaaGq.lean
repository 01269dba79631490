/-
  Records that come in, opened.
-/
import Derived.Test.YtbeggckkgaoacaaOq
import Derived.Test.YtbeggckkgaoacaaWmB
namespace Go.Proofs.Ytbeggckkgaoacaa
open Go.ChangeShapes Go.WideShapes Go.ChangeAt Go.RowKit Go.Deep
set_option linter.unusedVariables false
set_option maxRecDepth 100000

theorem rrCells : Try.prog.cellsOf 39 = 5 := by kernel_rfl
theorem intCells : Try.prog.cellsOf 3 = 1 := by kernel_rfl
theorem strCells : Try.prog.cellsOf 9 = 1 := by kernel_rfl
theorem rrBytes : Try.prog.bytesOf 39 = 64 := by kernel_rfl
theorem of_five {α : Type} (l : List α) (h : l.length = 5) : ∃ a b c d e, l = [a, b, c, d, e] := by
  match l, h with
  | [a, b, c, d, e], _ => exact ⟨a, b, c, d, e, rfl⟩

section
variable {H : Type} {enc : TypeId × Value → H} {w : World} {held : Bool} {d : DataW H} {p : List MemPlace}
theorem open_rs {x : Value} {n : Nat} (h : DataW.trod enc Try.prog w 0 (fun _ => true) held n 22 [x] = some (d, p)) : ∃ (L : List Rr) (a : Option Addr) (c : Nat), x = .slice a L.length c ∧ Rs w a L ∧ (L.length ≤ c ∧ c ≤ 9223372036854775807) ∧ (Within 22 d → L.length * 64 ≤ reachBytes ∧ ∀ x ∈ L, x.d.length ≤ reachBytes) := by
  rcases open_slice Try.underlying22 h with ⟨hcs, _⟩ | ⟨ad, len, cap, m, k, D, Pl, hcs, _, hl, hm, hmm, hx, hE⟩
  · simp at hcs
    exact ⟨[], none, 0, hcs, fun h => absurd h (by simp), by simp, fun _ => ⟨by simp, fun x hx => by cases hx⟩⟩
  · simp at hcs
    simp only [if_true] at hmm
    subst hmm
    have hel : ∀ i, i < len → ∃ q : Rr, (∃ a c, Dat w a c q.d ∧ ∀ j v, (rrL q a c)[j]? = some v → w.cell? ((ad.add (i * 5)).add j) = some v) ∧ (Within 39 (D i) → q.d.length ≤ reachBytes) := by
      intro i hi
      obtain ⟨cs', h1, h2⟩ := hE i (by omega)
      obtain ⟨_, hlen, hcell⟩ := World.cells?_some h1
      rw [rrCells] at hlen hcell
      obtain ⟨x0, x1, x2, x3, x4, rfl⟩ := of_five cs' hlen
      obtain ⟨xs, n', _, hD, _, hl3, hg⟩ := DataW.trod_struct Try.underlying39 h2
      obtain ⟨y0, y1, y2, y3, y4, rfl⟩ := of_five xs hl3
      have g0 : DataW.trod enc Try.prog w 0 (fun _ => true) held n' 9 [x0] = some y0 := by simpa [strCells] using hg 0 _ rfl
      have g1 : DataW.trod enc Try.prog w 0 (fun _ => true) held n' 3 [x1] = some y1 := by simpa [intCells] using hg 1 _ rfl
      have g2 : DataW.trod enc Try.prog w 0 (fun _ => true) held n' 3 [x2] = some y2 := by simpa [intCells] using hg 2 _ rfl
      have g3 : DataW.trod enc Try.prog w 0 (fun _ => true) held n' 3 [x3] = some y3 := by simpa [intCells] using hg 3 _ rfl
      have g4 : DataW.trod enc Try.prog w 0 (fun _ => true) held n' 37 [x4] = some y4 := by simpa [slCells] using hg 4 _ rfl
      obtain ⟨s0, e0, _, _⟩ := DataW.trod_string Try.underlying9 g0
      obtain ⟨i1, e1, _, _⟩ := DataW.trod_int Try.underlying3 g1
      obtain ⟨i2, e2, _, _⟩ := DataW.trod_int Try.underlying3 g2
      obtain ⟨i3, e3, _, _⟩ := DataW.trod_int Try.underlying3 g3
      obtain ⟨d4, p4⟩ := y4
      obtain ⟨y, a, c, e4, hd0, hwd⟩ := open_data g4
      have hd : Dat w a c y := ⟨hd0.1, hd0.2.1, hd0.2.2.1, hd0.2.2.2⟩
      simp only [List.cons.injEq, and_true] at e0 e1 e2 e3
      subst e0 e1 e2 e3 e4
      refine ⟨⟨s0.data.toList, i1, i2, i3, y⟩, ⟨a, c, hd, fun j v hj => ?_⟩, fun hw => ?_⟩
      · have hj5 : j < 5 := (List.getElem?_eq_some_iff.1 hj).1
        have := hcell j hj5
        rw [this, ← hj, rrL, ← bs_list s0]
      · simp only [Prod.mk.injEq] at hD
        rw [hD.1] at hw
        exact hwd (hw.part (i := 4) Try.underlying39 rfl rfl)
    haveI : Inhabited Rr := ⟨⟨[], 0, 0, 0, []⟩⟩
    obtain ⟨f, hf⟩ := choose_lt (α := Rr) hel
    refine ⟨(List.range len).map f, some ad, m, by simpa using hcs, fun h0 => ?_, ⟨by simpa using hl, by unfold maxLen at hm; omega⟩, fun hw => ?_⟩
    · have h0' : 0 < len := by simpa using h0
      obtain ⟨g, off, vi⟩ := ad
      obtain ⟨⟨a0, c0, _, hr0⟩, _⟩ := hf 0 h0'
      have hc0 := hr0 0 _ rfl
      have hvi : vi = none := by simpa [Addr.add] using World.cell?_spot hc0
      subst hvi
      refine ⟨g, off, rfl, fun j hj => ?_⟩
      have hj' : j < len := by simpa using hj
      obtain ⟨⟨a, c, hd, hr⟩, _⟩ := hf j hj'
      simp only [List.getElem_map, List.getElem_range]
      refine ⟨a, c, hd, fun i v hi => ?_⟩
      have := hr i v hi
      rw [Addr.add_lit, Addr.add_lit] at this
      exact this
    · simp only [Prod.mk.injEq] at hx
      rw [hx.1] at hw
      have := hw.len Try.underlying22
      rw [rrBytes] at this
      refine ⟨by simp only [List.length_map, List.length_range] at this ⊢; omega, fun x hx => ?_⟩
      obtain ⟨i, hi, rfl⟩ := List.mem_map.1 hx
      rw [List.mem_range] at hi
      exact (hf i hi).2 (hw.elem Try.underlying22 (List.mem_map.2 ⟨i, List.mem_range.2 hi, rfl⟩))
theorem open_recs {r0 : Reach} {b0 : Nat} {v : Value} (hv : Value.okWide Try.prog w r0 b0 22 v) (h : DataW.Trod enc Try.prog w 0 (fun _ => true) held 22 v d p) :
    ∃ (L : List Rr) (A : Option Addr) (c : Nat), v = .slice A L.length c ∧ Rs w A L ∧ (L.length ≤ c ∧ c ≤ 9223372036854775807) ∧ (Within 22 d → L.length * 64 ≤ reachBytes ∧ ∀ x ∈ L, x.d.length ≤ reachBytes) := by
  obtain ⟨a, len, c, rfl⟩ := okWide_slice Try.underlying22 hv
  obtain ⟨n, hf⟩ := h
  exact open_rs (x := .slice a len c) (n := n) (by simpa [Value.cells] using hf)
end
end Go.Proofs.Ytbeggckkgaoacaa
