/-
  Events, and a message, that come in.
-/
import Derived.Test.YtkihlcecjcjmlaaAuB
import Derived.Test.YtkihlcecjcjmlaaNmP
import Derived.Deep.Slices
import Derived.Deep.Fields
import Derived.SizedLaws
namespace Go.Proofs.Ytkihlcecjcjmlaa
open Go.ChangeShapes Go.WideShapes Go.ChangeAt Go.RowKit Go.Deep
set_option linter.unusedVariables false
set_option maxRecDepth 100000

theorem evCells : Try.prog.cellsOf 31 = 15 := by kernel_rfl
theorem meCells : Try.prog.cellsOf 29 = 12 := by kernel_rfl
theorem hdCells : Try.prog.cellsOf 25 = 8 := by kernel_rfl
theorem quCells : Try.prog.cellsOf 35 = 3 := by kernel_rfl
theorem intCells : Try.prog.cellsOf 3 = 1 := by kernel_rfl
theorem boolCells : Try.prog.cellsOf 4 = 1 := by kernel_rfl
theorem strCells : Try.prog.cellsOf 9 = 1 := by kernel_rfl
theorem qsCells : Try.prog.cellsOf 26 = 1 := by kernel_rfl
theorem rsCells : Try.prog.cellsOf 27 = 1 := by kernel_rfl
theorem of_three {α : Type} (l : List α) (h : l.length = 3) : ∃ a b c, l = [a, b, c] := by
  match l, h with
  | [a, b, c], _ => exact ⟨a, b, c, rfl⟩
theorem of_four {α : Type} (l : List α) (h : l.length = 4) : ∃ a b c d, l = [a, b, c, d] := by
  match l, h with
  | [a, b, c, d], _ => exact ⟨a, b, c, d, rfl⟩
theorem of_five {α : Type} (l : List α) (h : l.length = 5) : ∃ a b c d e, l = [a, b, c, d, e] := by
  match l, h with
  | [a, b, c, d, e], _ => exact ⟨a, b, c, d, e, rfl⟩
theorem of_eight {α : Type} (l : List α) (h : l.length = 8) : ∃ a b c d e f g i, l = [a, b, c, d, e, f, g, i] := by
  match l, h with
  | [a, b, c, d, e, f, g, i], _ => exact ⟨a, b, c, d, e, f, g, i, rfl⟩
theorem of_twelve {α : Type} (l : List α) (h : l.length = 12) : ∃ a b c d e f g i j k m n, l = [a, b, c, d, e, f, g, i, j, k, m, n] := by
  match l, h with
  | [a, b, c, d, e, f, g, i, j, k, m, n], _ => exact ⟨a, b, c, d, e, f, g, i, j, k, m, n, rfl⟩
theorem of_fifteen {α : Type} (l : List α) (h : l.length = 15) : ∃ x y z a b c d e f g i j k m n, l = [x, y, z, a, b, c, d, e, f, g, i, j, k, m, n] := by
  match l, h with
  | [x, y, z, a, b, c, d, e, f, g, i, j, k, m, n], _ => exact ⟨x, y, z, a, b, c, d, e, f, g, i, j, k, m, n, rfl⟩
theorem i64_of {n : Int} (h : (Lit.int .i64 n).wf = true) : I64a n := by
  simp only [Lit.wf, Bool.and_eq_true, decide_eq_true_eq] at h
  exact h

section
variable {H : Type} {enc : TypeId × Value → H} {w : World} {held : Bool} {d : DataW H} {p : List MemPlace}
theorem shape_rs {x : Value} {n : Nat} (h : DataW.trod enc Try.prog w 0 (fun _ => true) held n 27 [x] = some (d, p)) : ∃ a l c, x = .slice a l c := by
  rcases open_slice Try.underlying27 h with ⟨hcs, _⟩ | ⟨ad, len, cap, m, k, D, Pl, hcs, _⟩
  · simp at hcs
    exact ⟨_, _, _, hcs⟩
  · simp at hcs
    exact ⟨_, _, _, hcs⟩
theorem open_qsO {x : Value} {n : Nat} (h : DataW.trod enc Try.prog w 0 (fun _ => true) held n 26 [x] = some (d, p)) : ∃ (L : List Qu) (a : Option Addr) (c : Nat), x = .slice a L.length c ∧ Qs w a L ∧ (L.length ≤ c ∧ c ≤ 9223372036854775807) ∧ ∀ q ∈ L, QuOk q := by
  rcases open_slice Try.underlying26 h with ⟨hcs, _⟩ | ⟨ad, len, cap, m, k, D, Pl, hcs, _, hl, hm, hmm, hx, hE⟩
  · simp at hcs
    exact ⟨[], none, 0, hcs, fun h => absurd h (by simp), by simp, fun q hq => by cases hq⟩
  · simp at hcs
    simp only [if_true] at hmm
    subst hmm
    have hel : ∀ i, i < len → ∃ q : Qu, (∀ j v, (quL q)[j]? = some v → w.cell? ((ad.add (i * 3)).add j) = some v) ∧ QuOk q := by
      intro i hi
      obtain ⟨cs', h1, h2⟩ := hE i (by omega)
      obtain ⟨_, hlen, hcell⟩ := World.cells?_some h1
      rw [quCells] at hlen hcell
      obtain ⟨x0, x1, x2, rfl⟩ := of_three cs' hlen
      obtain ⟨xs, n', _, _, _, hl3, hg⟩ := DataW.trod_struct Try.underlying35 h2
      obtain ⟨y0, y1, y2, rfl⟩ := of_three xs hl3
      have g0 : DataW.trod enc Try.prog w 0 (fun _ => true) held n' 9 [x0] = some y0 := by simpa [strCells] using hg 0 _ rfl
      have g1 : DataW.trod enc Try.prog w 0 (fun _ => true) held n' 3 [x1] = some y1 := by simpa [intCells] using hg 1 _ rfl
      have g2 : DataW.trod enc Try.prog w 0 (fun _ => true) held n' 3 [x2] = some y2 := by simpa [intCells] using hg 2 _ rfl
      obtain ⟨s0, e0, _, f0⟩ := DataW.trod_string Try.underlying9 g0
      obtain ⟨i1, e1, _, f1⟩ := DataW.trod_int Try.underlying3 g1
      obtain ⟨i2, e2, _, f2⟩ := DataW.trod_int Try.underlying3 g2
      simp only [List.cons.injEq, and_true] at e0 e1 e2
      subst e0 e1 e2
      refine ⟨⟨s0.data.toList, i1, i2⟩, fun j v hj => ?_, ⟨?_, i64_of f1, i64_of f2⟩⟩
      · have hj3 : j < 3 := (List.getElem?_eq_some_iff.1 hj).1
        have := hcell j hj3
        rw [this, ← hj, quL, ← bs_list s0]
      · have := f0
        simp only [Array.length_toList]
        show s0.size ≤ _
        unfold maxLen at this
        exact this
    haveI : Inhabited Qu := ⟨⟨[], 0, 0⟩⟩
    obtain ⟨f, hf⟩ := choose_lt (α := Qu) hel
    refine ⟨(List.range len).map f, some ad, m, by simpa using hcs, fun h0 => ?_, ⟨by simpa using hl, by unfold maxLen at hm; omega⟩, fun q hq => ?_⟩
    · have h0' : 0 < len := by simpa using h0
      obtain ⟨g, off, vi⟩ := ad
      have hc0 := (hf 0 h0').1 0 _ rfl
      have hvi : vi = none := by simpa [Addr.add] using World.cell?_spot hc0
      subst hvi
      refine ⟨g, off, rfl, fun j hj i v hi => ?_⟩
      have hj' : j < len := by simpa using hj
      simp only [List.getElem_map, List.getElem_range] at hi
      have := (hf j hj').1 i v hi
      rw [Addr.add_lit, Addr.add_lit] at this
      exact this
    · obtain ⟨i, hi, rfl⟩ := List.mem_map.1 hq
      exact (hf i (List.mem_range.1 hi)).2
/-- The cells of a message, of which nothing but questions and flags plays a part. -/
theorem open_meL {n : Nat} {c0 c1 c2 c3 c4 c5 c6 c7 c8 c9 c10 c11 : Value} (h : DataW.trod enc Try.prog w 0 (fun _ => true) held n 29 [c0, c1, c2, c3, c4, c5, c6, c7, c8, c9, c10, c11] = some (d, p)) (rep : Bool) (st tm : Int) (hst : I64a st) :
    ∃ (e : Ev) (v : EV), e.rep = rep ∧ e.st = st ∧ e.tm = tm ∧ [c0, c1, c2, c3, c4, c5, c6, c7, c8, c9, c10, c11] = meL e v ∧ EvAt w e v := by
  obtain ⟨xs, m, _, hD, _, hlen, hg⟩ := DataW.trod_struct Try.underlying29 h
  obtain ⟨y0, ⟨d1, p1⟩, ⟨d2, p2⟩, ⟨d3, p3⟩, ⟨d4, p4⟩, rfl⟩ := of_five xs hlen
  have g0 : DataW.trod enc Try.prog w 0 (fun _ => true) held m 25 [c0, c1, c2, c3, c4, c5, c6, c7] = some y0 := by simpa [hdCells] using hg 0 _ rfl
  have g1 : DataW.trod enc Try.prog w 0 (fun _ => true) held m 26 [c8] = some (d1, p1) := by simpa [qsCells] using hg 1 _ rfl
  have g2 : DataW.trod enc Try.prog w 0 (fun _ => true) held m 27 [c9] = some (d2, p2) := by simpa [rsCells] using hg 2 _ rfl
  have g3 : DataW.trod enc Try.prog w 0 (fun _ => true) held m 27 [c10] = some (d3, p3) := by simpa [rsCells] using hg 3 _ rfl
  have g4 : DataW.trod enc Try.prog w 0 (fun _ => true) held m 27 [c11] = some (d4, p4) := by simpa [rsCells] using hg 4 _ rfl
  obtain ⟨q, aq, cq, rfl, q1, q2, q3⟩ := open_qsO g1
  obtain ⟨a1, n1, d1, rfl⟩ := shape_rs g2
  obtain ⟨a2, n2, d2, rfl⟩ := shape_rs g3
  obtain ⟨a3, n3, d3, rfl⟩ := shape_rs g4
  obtain ⟨ys, n', _, _, _, hl8, hh⟩ := DataW.trod_struct Try.underlying25 g0
  obtain ⟨z0, z1, z2, z3, z4, z5, z6, z7, rfl⟩ := of_eight ys hl8
  have k0 : DataW.trod enc Try.prog w 0 (fun _ => true) held n' 3 [c0] = some z0 := by simpa [intCells] using hh 0 _ rfl
  have k1 : DataW.trod enc Try.prog w 0 (fun _ => true) held n' 4 [c1] = some z1 := by simpa [boolCells] using hh 1 _ rfl
  have k2 : DataW.trod enc Try.prog w 0 (fun _ => true) held n' 3 [c2] = some z2 := by simpa [intCells] using hh 2 _ rfl
  have k3 : DataW.trod enc Try.prog w 0 (fun _ => true) held n' 4 [c3] = some z3 := by simpa [boolCells] using hh 3 _ rfl
  have k4 : DataW.trod enc Try.prog w 0 (fun _ => true) held n' 4 [c4] = some z4 := by simpa [boolCells] using hh 4 _ rfl
  have k5 : DataW.trod enc Try.prog w 0 (fun _ => true) held n' 4 [c5] = some z5 := by simpa [boolCells] using hh 5 _ rfl
  have k6 : DataW.trod enc Try.prog w 0 (fun _ => true) held n' 4 [c6] = some z6 := by simpa [boolCells] using hh 6 _ rfl
  have k7 : DataW.trod enc Try.prog w 0 (fun _ => true) held n' 3 [c7] = some z7 := by simpa [intCells] using hh 7 _ rfl
  obtain ⟨v0, e0, _, f0⟩ := DataW.trod_int Try.underlying3 k0
  obtain ⟨v1, e1, _⟩ := DataW.trod_bool Try.underlying4 k1
  obtain ⟨v2, e2, _, f2⟩ := DataW.trod_int Try.underlying3 k2
  obtain ⟨v3, e3, _⟩ := DataW.trod_bool Try.underlying4 k3
  obtain ⟨v4, e4, _⟩ := DataW.trod_bool Try.underlying4 k4
  obtain ⟨v5, e5, _⟩ := DataW.trod_bool Try.underlying4 k5
  obtain ⟨v6, e6, _⟩ := DataW.trod_bool Try.underlying4 k6
  obtain ⟨v7, e7, _, _⟩ := DataW.trod_int Try.underlying3 k7
  simp only [List.cons.injEq, and_true] at e0 e1 e2 e3 e4 e5 e6 e7
  subst e0 e1 e2 e3 e4 e5 e6 e7
  exact ⟨⟨rep, st, tm, ⟨v0, v1, v2, v3, v4, v5, v6, v7⟩, q⟩, ⟨aq, cq, a1, n1, d1, a2, n2, d2, a3, n3, d3⟩, rfl, rfl, rfl, rfl, q1, q2.1, q2.2, hst, i64_of f0, i64_of f2, q3⟩
theorem open_me {r0 : Reach} {b0 : Nat} {v : Value} (hv : Value.okWide Try.prog w r0 b0 29 v) (h : DataW.Trod enc Try.prog w 0 (fun _ => true) held 29 v d p) :
    ∃ (e : Ev) (u : EV), v = .agg (meL e u).toArray ∧ EvAt w e u := by
  obtain ⟨cs, rfl, hsz⟩ := okWide_struct Try.underlying29 hv
  obtain ⟨l⟩ := cs
  obtain ⟨a, b, c, e, f, g, i, j, x8, x9, x10, x11, rfl⟩ := of_twelve l (hsz.trans meCells)
  obtain ⟨fuel, hf⟩ := h
  obtain ⟨e, u, -, -, -, h1, h2⟩ := open_meL (by simpa [Value.cells] using hf) false 0 0 (by unfold I64a; omega)
  exact ⟨e, u, by rw [h1], h2⟩
theorem open_evL {n : Nat} {cs : List Value} (hl : cs.length = 15) (h : DataW.trod enc Try.prog w 0 (fun _ => true) held n 31 cs = some (d, p)) : ∃ (e : Ev) (v : EV), cs = evL e v ∧ EvAt w e v := by
  obtain ⟨x, y, z, a, b, c, e, f, g, i, j, k, m, o, q, rfl⟩ := of_fifteen cs hl
  obtain ⟨xs, n', _, _, _, hl4, hg⟩ := DataW.trod_struct Try.underlying31 h
  obtain ⟨y0, y1, y2, ⟨d3, p3⟩, rfl⟩ := of_four xs hl4
  have g0 : DataW.trod enc Try.prog w 0 (fun _ => true) held n' 4 [x] = some y0 := by simpa [boolCells] using hg 0 _ rfl
  have g1 : DataW.trod enc Try.prog w 0 (fun _ => true) held n' 3 [y] = some y1 := by simpa [intCells] using hg 1 _ rfl
  have g2 : DataW.trod enc Try.prog w 0 (fun _ => true) held n' 3 [z] = some y2 := by simpa [intCells] using hg 2 _ rfl
  have g3 : DataW.trod enc Try.prog w 0 (fun _ => true) held n' 29 [a, b, c, e, f, g, i, j, k, m, o, q] = some (d3, p3) := by simpa [meCells] using hg 3 _ rfl
  obtain ⟨v0, e0, _⟩ := DataW.trod_bool Try.underlying4 g0
  obtain ⟨v1, e1, _, f1⟩ := DataW.trod_int Try.underlying3 g1
  obtain ⟨v2, e2, _, f2⟩ := DataW.trod_int Try.underlying3 g2
  simp only [List.cons.injEq, and_true] at e0 e1 e2
  subst e0 e1 e2
  obtain ⟨E, V, h1, h2, h3, h4, h5⟩ := open_meL g3 v0 v1 v2 (i64_of f1)
  refine ⟨E, V, ?_, h5⟩
  rw [h4]
  unfold meL evL
  rw [h1, h2, h3]
  rfl
theorem open_evs {r0 : Reach} {b0 : Nat} {v : Value} (hv : Value.okWide Try.prog w r0 b0 22 v) (h : DataW.Trod enc Try.prog w 0 (fun _ => true) held 22 v d p) :
    ∃ (L : List Ev) (A : Option Addr) (c : Nat), v = .slice A L.length c ∧ Evs w A L ∧ (L.length ≤ c ∧ c ≤ 9223372036854775807) := by
  obtain ⟨a, len, cap, rfl⟩ := okWide_slice Try.underlying22 hv
  obtain ⟨fuel, hf⟩ := h
  rcases open_slice Try.underlying22 hf with ⟨hcs, _⟩ | ⟨ad, l, c, m, k, D, Pl, hcs, _, hl, hm, hmm, hx, hE⟩
  · simp [Value.cells] at hcs
    obtain ⟨rfl, rfl, rfl⟩ := hcs
    exact ⟨[], none, 0, rfl, fun h => absurd h (by simp), by simp⟩
  · simp [Value.cells] at hcs
    obtain ⟨rfl, rfl, rfl⟩ := hcs
    simp only [if_true] at hmm
    subst hmm
    have hel : ∀ i, i < len → ∃ q : Ev, ∃ v, EvAt w q v ∧ ∀ j u, (evL q v)[j]? = some u → w.cell? ((ad.add (i * 15)).add j) = some u := by
      intro i hi
      obtain ⟨cs', h1, h2⟩ := hE i (by omega)
      obtain ⟨_, hlen, hcell⟩ := World.cells?_some h1
      rw [evCells] at hlen hcell
      obtain ⟨e, v, rfl, h3⟩ := open_evL hlen h2
      refine ⟨e, v, h3, fun j u hj => ?_⟩
      have hj3 : j < 15 := by rw [← hlen]; exact (List.getElem?_eq_some_iff.1 hj).1
      rw [hcell j hj3]
      exact hj
    haveI : Inhabited Ev := ⟨⟨false, 0, 0, ⟨0, false, 0, false, false, false, false, 0⟩, []⟩⟩
    obtain ⟨f, hf⟩ := choose_lt (α := Ev) hel
    refine ⟨(List.range len).map f, some ad, m, by simp, fun h0 => ?_, ⟨by simpa using hl, by unfold maxLen at hm; omega⟩⟩
    have h0' : 0 < len := by simpa using h0
    obtain ⟨g, off, vi⟩ := ad
    obtain ⟨v0, _, hr0⟩ := hf 0 h0'
    have hc0 := hr0 0 _ rfl
    have hvi : vi = none := by simpa [Addr.add] using World.cell?_spot hc0
    subst hvi
    refine ⟨g, off, rfl, fun j hj => ?_⟩
    have hj' : j < len := by simpa using hj
    obtain ⟨v, h3, h4⟩ := hf j hj'
    simp only [List.getElem_map, List.getElem_range]
    refine ⟨v, h3, fun i u hi => ?_⟩
    have := h4 i u hi
    rw [Addr.add_lit, Addr.add_lit] at this
    exact this
end
end Go.Proofs.Ytkihlcecjcjmlaa
