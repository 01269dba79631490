/-
  Messages that come in by value: their shapes, what they lead to, how great they can be.
-/
import Derived.Test.YtknpkifhkefikaaDoorHy
import Derived.Test.YtknpkifhkefikaaDoorWh
import Derived.Deep.Slices
import Derived.Deep.Fields
import Derived.SizedLaws
namespace Go.Proofs.YtknpkifhkefikaaDoor
open Go.ChangeShapes Go.WideShapes Go.ChangeAt Go.RowKit Go.Deep
set_option linter.unusedVariables false
set_option maxRecDepth 100000

theorem msCells : Tryd.prog.cellsOf 27 = 12 := by kernel_rfl
theorem hdCells : Tryd.prog.cellsOf 23 = 8 := by kernel_rfl
theorem quCells : Tryd.prog.cellsOf 44 = 3 := by kernel_rfl
theorem rrCells : Tryd.prog.cellsOf 72 = 5 := by kernel_rfl
theorem intCells : Tryd.prog.cellsOf 3 = 1 := by kernel_rfl
theorem boolCells : Tryd.prog.cellsOf 4 = 1 := by kernel_rfl
theorem strCells : Tryd.prog.cellsOf 9 = 1 := by kernel_rfl
theorem qsCells : Tryd.prog.cellsOf 24 = 1 := by kernel_rfl
theorem rsCells : Tryd.prog.cellsOf 25 = 1 := by kernel_rfl
theorem quBytes : Tryd.prog.bytesOf 44 = 32 := by kernel_rfl
theorem rrBytes : Tryd.prog.bytesOf 72 = 64 := by kernel_rfl
theorem of_three {α : Type} (l : List α) (h : l.length = 3) : ∃ a b c, l = [a, b, c] := by
  match l, h with
  | [a, b, c], _ => exact ⟨a, b, c, rfl⟩
theorem of_five {α : Type} (l : List α) (h : l.length = 5) : ∃ a b c d e, l = [a, b, c, d, e] := by
  match l, h with
  | [a, b, c, d, e], _ => exact ⟨a, b, c, d, e, rfl⟩
theorem of_eight {α : Type} (l : List α) (h : l.length = 8) : ∃ a b c d e f g i, l = [a, b, c, d, e, f, g, i] := by
  match l, h with
  | [a, b, c, d, e, f, g, i], _ => exact ⟨a, b, c, d, e, f, g, i, rfl⟩
theorem of_twelve {α : Type} (l : List α) (h : l.length = 12) : ∃ a b c d e f g i j k m n, l = [a, b, c, d, e, f, g, i, j, k, m, n] := by
  match l, h with
  | [a, b, c, d, e, f, g, i, j, k, m, n], _ => exact ⟨a, b, c, d, e, f, g, i, j, k, m, n, rfl⟩

section
variable {H : Type} {enc : TypeId × Value → H} {w : World} {held : Bool} {d : DataW H} {p : List MemPlace}
theorem open_dataM {x : Value} {n : Nat} (h : DataW.trod enc Tryd.prog w 0 (fun _ => true) held n 29 [x] = some (d, p)) : ∃ (y : Bs) (a : Option Addr) (c : Nat), x = .slice a y.length c ∧ Dat w a c y ∧ (Within 29 d → y.length ≤ reachBytes) := by
  have hs : ∃ a l c, x = .slice a l c ∧ (a = none → c = 0) ∧ (Within 29 d → l ≤ reachBytes) := by
    rcases open_ints Tryd.underlying29 Tryd.underlying5 (by kernel_rfl) h with ⟨hcs, hx⟩ | ⟨x', l', c', zs, hcs, _, hl, hm, hz, hx, _⟩
    · simp at hcs; exact ⟨none, 0, 0, hcs, fun _ => rfl, fun _ => Nat.zero_le _⟩
    · simp at hcs
      refine ⟨some x', l', c', hcs, (fun h => by cases h), fun hw => ?_⟩
      simp only [Prod.mk.injEq] at hx
      rw [hx.1] at hw
      have := hw.len Tryd.underlying29
      rw [u8Bytes] at this
      have hz' : zs.length = c' := by simpa using hz
      simp only [lits, List.length_map, List.length_take] at this
      omega
  obtain ⟨a, l, c, rfl, hn, hw⟩ := hs
  obtain ⟨y, rfl, hB, hlc, hcm⟩ := open_bys (d := d) (p := p) ⟨n, by simpa [Value.cells] using h⟩
  exact ⟨y, a, c, rfl, ⟨hB, hlc, hcm, hn⟩, hw⟩

theorem open_qs {x : Value} {n : Nat} (h : DataW.trod enc Tryd.prog w 0 (fun _ => true) held n 24 [x] = some (d, p)) : ∃ (L : List Qu) (a : Option Addr) (c : Nat), x = .slice a L.length c ∧ Qs w a L ∧ (L.length ≤ c ∧ c ≤ 9223372036854775807) ∧ (Within 24 d → L.length * 32 ≤ reachBytes) := by
  rcases open_slice Tryd.underlying24 h with ⟨hcs, _⟩ | ⟨ad, len, cap, m, k, D, Pl, hcs, _, hl, hm, hmm, hx, hE⟩
  · simp at hcs
    exact ⟨[], none, 0, hcs, fun h => absurd h (by simp), by simp, fun _ => by simp⟩
  · simp at hcs
    simp only [if_true] at hmm
    subst hmm
    have hel : ∀ i, i < len → ∃ q : Qu, ∀ j v, (quL q)[j]? = some v → w.cell? ((ad.add (i * 3)).add j) = some v := by
      intro i hi
      obtain ⟨cs', h1, h2⟩ := hE i (by omega)
      obtain ⟨_, hlen, hcell⟩ := World.cells?_some h1
      rw [quCells] at hlen hcell
      obtain ⟨x0, x1, x2, rfl⟩ := of_three cs' hlen
      obtain ⟨xs, n', _, _, _, hl3, hg⟩ := DataW.trod_struct Tryd.underlying44 h2
      obtain ⟨y0, y1, y2, rfl⟩ := of_three xs hl3
      have g0 : DataW.trod enc Tryd.prog w 0 (fun _ => true) held n' 9 [x0] = some y0 := by simpa [strCells] using hg 0 _ rfl
      have g1 : DataW.trod enc Tryd.prog w 0 (fun _ => true) held n' 3 [x1] = some y1 := by simpa [intCells] using hg 1 _ rfl
      have g2 : DataW.trod enc Tryd.prog w 0 (fun _ => true) held n' 3 [x2] = some y2 := by simpa [intCells] using hg 2 _ rfl
      obtain ⟨s0, e0, _, _⟩ := DataW.trod_string Tryd.underlying9 g0
      obtain ⟨i1, e1, _, _⟩ := DataW.trod_int Tryd.underlying3 g1
      obtain ⟨i2, e2, _, _⟩ := DataW.trod_int Tryd.underlying3 g2
      simp only [List.cons.injEq, and_true] at e0 e1 e2
      subst e0 e1 e2
      refine ⟨⟨s0.data.toList, i1, i2⟩, fun j v hj => ?_⟩
      have hj3 : j < 3 := (List.getElem?_eq_some_iff.1 hj).1
      have := hcell j hj3
      rw [this, ← hj, quL, ← bs_list s0]
    haveI : Inhabited Qu := ⟨⟨[], 0, 0⟩⟩
    obtain ⟨f, hf⟩ := choose_lt (α := Qu) hel
    refine ⟨(List.range len).map f, some ad, m, by simpa using hcs, fun h0 => ?_, ⟨by simpa using hl, by unfold maxLen at hm; omega⟩, fun hw => ?_⟩
    · have h0' : 0 < len := by simpa using h0
      obtain ⟨g, off, vi⟩ := ad
      have hc0 := hf 0 h0' 0 _ rfl
      have hvi : vi = none := by simpa [Addr.add] using World.cell?_spot hc0
      subst hvi
      refine ⟨g, off, rfl, fun j hj i v hi => ?_⟩
      have hj' : j < len := by simpa using hj
      simp only [List.getElem_map, List.getElem_range] at hi
      have := hf j hj' i v hi
      rw [Addr.add_lit, Addr.add_lit] at this
      exact this
    · simp only [Prod.mk.injEq] at hx
      rw [hx.1] at hw
      have := hw.len Tryd.underlying24
      rw [quBytes] at this
      simp only [List.length_map, List.length_range] at this ⊢
      omega

theorem open_rs {x : Value} {n : Nat} (h : DataW.trod enc Tryd.prog w 0 (fun _ => true) held n 25 [x] = some (d, p)) : ∃ (L : List Rr) (a : Option Addr) (c : Nat), x = .slice a L.length c ∧ Rs w a L ∧ (L.length ≤ c ∧ c ≤ 9223372036854775807) ∧ (Within 25 d → L.length * 64 ≤ reachBytes ∧ ∀ x ∈ L, x.d.length ≤ reachBytes) := by
  rcases open_slice Tryd.underlying25 h with ⟨hcs, _⟩ | ⟨ad, len, cap, m, k, D, Pl, hcs, _, hl, hm, hmm, hx, hE⟩
  · simp at hcs
    exact ⟨[], none, 0, hcs, fun h => absurd h (by simp), by simp, fun _ => ⟨by simp, fun x hx => by cases hx⟩⟩
  · simp at hcs
    simp only [if_true] at hmm
    subst hmm
    have hel : ∀ i, i < len → ∃ q : Rr, (∃ a c, Dat w a c q.d ∧ ∀ j v, (rrL q a c)[j]? = some v → w.cell? ((ad.add (i * 5)).add j) = some v) ∧ (Within 72 (D i) → q.d.length ≤ reachBytes) := by
      intro i hi
      obtain ⟨cs', h1, h2⟩ := hE i (by omega)
      obtain ⟨_, hlen, hcell⟩ := World.cells?_some h1
      rw [rrCells] at hlen hcell
      obtain ⟨x0, x1, x2, x3, x4, rfl⟩ := of_five cs' hlen
      obtain ⟨xs, n', _, hD, _, hl3, hg⟩ := DataW.trod_struct Tryd.underlying72 h2
      obtain ⟨y0, y1, y2, y3, y4, rfl⟩ := of_five xs hl3
      have g0 : DataW.trod enc Tryd.prog w 0 (fun _ => true) held n' 9 [x0] = some y0 := by simpa [strCells] using hg 0 _ rfl
      have g1 : DataW.trod enc Tryd.prog w 0 (fun _ => true) held n' 3 [x1] = some y1 := by simpa [intCells] using hg 1 _ rfl
      have g2 : DataW.trod enc Tryd.prog w 0 (fun _ => true) held n' 3 [x2] = some y2 := by simpa [intCells] using hg 2 _ rfl
      have g3 : DataW.trod enc Tryd.prog w 0 (fun _ => true) held n' 3 [x3] = some y3 := by simpa [intCells] using hg 3 _ rfl
      have g4 : DataW.trod enc Tryd.prog w 0 (fun _ => true) held n' 29 [x4] = some y4 := by simpa [slCells] using hg 4 _ rfl
      obtain ⟨s0, e0, _, _⟩ := DataW.trod_string Tryd.underlying9 g0
      obtain ⟨i1, e1, _, _⟩ := DataW.trod_int Tryd.underlying3 g1
      obtain ⟨i2, e2, _, _⟩ := DataW.trod_int Tryd.underlying3 g2
      obtain ⟨i3, e3, _, _⟩ := DataW.trod_int Tryd.underlying3 g3
      obtain ⟨d4, p4⟩ := y4
      obtain ⟨y, a, c, e4, hd, hwd⟩ := open_dataM g4
      simp only [List.cons.injEq, and_true] at e0 e1 e2 e3
      subst e0 e1 e2 e3 e4
      refine ⟨⟨s0.data.toList, i1, i2, i3, y⟩, ⟨a, c, hd, fun j v hj => ?_⟩, fun hw => ?_⟩
      · have hj5 : j < 5 := (List.getElem?_eq_some_iff.1 hj).1
        have := hcell j hj5
        rw [this, ← hj, rrL, ← bs_list s0]
      · simp only [Prod.mk.injEq] at hD
        rw [hD.1] at hw
        exact hwd (hw.part (i := 4) Tryd.underlying72 rfl rfl)
    haveI : Inhabited Rr := ⟨⟨[], 0, 0, 0, []⟩⟩
    obtain ⟨f, hf⟩ := choose_lt (α := Rr) hel
    refine ⟨(List.range len).map f, some ad, m, by simpa using hcs, fun h0 => ?_, ⟨by simpa using hl, by unfold maxLen at hm; omega⟩, fun hw => ?_⟩
    · have h0' : 0 < len := by simpa using h0
      obtain ⟨g, off, vi⟩ := ad
      obtain ⟨⟨a0, c0, _, hr0⟩, _⟩ := hf 0 h0'
      have hc0 := hr0 0 _ rfl
      have hvi : vi = none := by simpa [Addr.add] using World.cell?_spot hc0
      subst hvi
      refine ⟨g, off, rfl, fun j hj => ?_⟩
      have hj' : j < len := by simpa using hj
      obtain ⟨⟨a, c, hd, hr⟩, _⟩ := hf j hj'
      simp only [List.getElem_map, List.getElem_range]
      refine ⟨a, c, hd, fun i v hi => ?_⟩
      have := hr i v hi
      rw [Addr.add_lit, Addr.add_lit] at this
      exact this
    · simp only [Prod.mk.injEq] at hx
      rw [hx.1] at hw
      have := hw.len Tryd.underlying25
      rw [rrBytes] at this
      refine ⟨by simp only [List.length_map, List.length_range] at this ⊢; omega, fun x hx => ?_⟩
      obtain ⟨i, hi, rfl⟩ := List.mem_map.1 hx
      rw [List.mem_range] at hi
      exact (hf i hi).2 (hw.elem Tryd.underlying25 (List.mem_map.2 ⟨i, List.mem_range.2 hi, rfl⟩))

/-- A message by value. -/
theorem open_ms {r0 : Reach} {b0 : Nat} {v : Value} (hv : Value.okWide Tryd.prog w r0 b0 27 v) (h : DataW.Trod enc Tryd.prog w 0 (fun _ => true) held 27 v d p) :
    ∃ (m : Msg) (u : MV), v = .agg (msL m u).toArray ∧ Ms w m u ∧ (Within 27 d → m.q.length * 32 ≤ reachBytes ∧ ∀ L, L = m.an ∨ L = m.au ∨ L = m.ad → L.length * 64 ≤ reachBytes ∧ ∀ x ∈ L, x.d.length ≤ reachBytes) := by
  obtain ⟨cs, rfl, hsz⟩ := okWide_struct Tryd.underlying27 hv
  obtain ⟨l⟩ := cs
  obtain ⟨a, b, c, e, f, g, i, j, x8, x9, x10, x11, rfl⟩ := of_twelve l (hsz.trans msCells)
  obtain ⟨fuel, hf⟩ := h
  obtain ⟨xs, n, _, hD, _, hlen, hg⟩ := DataW.trod_struct Tryd.underlying27 hf
  obtain ⟨y0, ⟨d1, p1⟩, ⟨d2, p2⟩, ⟨d3, p3⟩, ⟨d4, p4⟩, rfl⟩ := of_five xs hlen
  have g0 : DataW.trod enc Tryd.prog w 0 (fun _ => true) held n 23 [a, b, c, e, f, g, i, j] = some y0 := by simpa [Value.cells, hdCells] using hg 0 _ rfl
  have g1 : DataW.trod enc Tryd.prog w 0 (fun _ => true) held n 24 [x8] = some (d1, p1) := by simpa [Value.cells, qsCells] using hg 1 _ rfl
  have g2 : DataW.trod enc Tryd.prog w 0 (fun _ => true) held n 25 [x9] = some (d2, p2) := by simpa [Value.cells, rsCells] using hg 2 _ rfl
  have g3 : DataW.trod enc Tryd.prog w 0 (fun _ => true) held n 25 [x10] = some (d3, p3) := by simpa [Value.cells, rsCells] using hg 3 _ rfl
  have g4 : DataW.trod enc Tryd.prog w 0 (fun _ => true) held n 25 [x11] = some (d4, p4) := by simpa [Value.cells, rsCells] using hg 4 _ rfl
  obtain ⟨q, aq, cq, rfl, q1, q2, q3⟩ := open_qs g1
  obtain ⟨an, a1, c1, rfl, r1, r2, r3⟩ := open_rs g2
  obtain ⟨au, a2, c2, rfl, s1, s2, s3⟩ := open_rs g3
  obtain ⟨ad, a3, c3, rfl, t1, t2, t3⟩ := open_rs g4
  obtain ⟨ys, n', _, _, _, hl8, hh⟩ := DataW.trod_struct Tryd.underlying23 g0
  obtain ⟨z0, z1, z2, z3, z4, z5, z6, z7, rfl⟩ := of_eight ys hl8
  have k0 : DataW.trod enc Tryd.prog w 0 (fun _ => true) held n' 3 [a] = some z0 := by simpa [intCells] using hh 0 _ rfl
  have k1 : DataW.trod enc Tryd.prog w 0 (fun _ => true) held n' 4 [b] = some z1 := by simpa [boolCells] using hh 1 _ rfl
  have k2 : DataW.trod enc Tryd.prog w 0 (fun _ => true) held n' 3 [c] = some z2 := by simpa [intCells] using hh 2 _ rfl
  have k3 : DataW.trod enc Tryd.prog w 0 (fun _ => true) held n' 4 [e] = some z3 := by simpa [boolCells] using hh 3 _ rfl
  have k4 : DataW.trod enc Tryd.prog w 0 (fun _ => true) held n' 4 [f] = some z4 := by simpa [boolCells] using hh 4 _ rfl
  have k5 : DataW.trod enc Tryd.prog w 0 (fun _ => true) held n' 4 [g] = some z5 := by simpa [boolCells] using hh 5 _ rfl
  have k6 : DataW.trod enc Tryd.prog w 0 (fun _ => true) held n' 4 [i] = some z6 := by simpa [boolCells] using hh 6 _ rfl
  have k7 : DataW.trod enc Tryd.prog w 0 (fun _ => true) held n' 3 [j] = some z7 := by simpa [intCells] using hh 7 _ rfl
  obtain ⟨v0, e0, _, _⟩ := DataW.trod_int Tryd.underlying3 k0
  obtain ⟨v1, e1, _⟩ := DataW.trod_bool Tryd.underlying4 k1
  obtain ⟨v2, e2, _, _⟩ := DataW.trod_int Tryd.underlying3 k2
  obtain ⟨v3, e3, _⟩ := DataW.trod_bool Tryd.underlying4 k3
  obtain ⟨v4, e4, _⟩ := DataW.trod_bool Tryd.underlying4 k4
  obtain ⟨v5, e5, _⟩ := DataW.trod_bool Tryd.underlying4 k5
  obtain ⟨v6, e6, _⟩ := DataW.trod_bool Tryd.underlying4 k6
  obtain ⟨v7, e7, _, _⟩ := DataW.trod_int Tryd.underlying3 k7
  simp only [List.cons.injEq, and_true] at e0 e1 e2 e3 e4 e5 e6 e7
  subst e0 e1 e2 e3 e4 e5 e6 e7
  refine ⟨⟨⟨v0, v1, v2, v3, v4, v5, v6, v7⟩, q, an, au, ad⟩, ⟨aq, a1, a2, a3, cq, c1, c2, c3⟩, rfl, ⟨q1, r1, s1, t1, q2, r2, s2, t2⟩, fun hw => ?_⟩
  simp only [Prod.mk.injEq] at hD
  rw [hD.1] at hw
  refine ⟨q3 (hw.part (i := 1) Tryd.underlying27 rfl rfl), fun L hL => ?_⟩
  rcases hL with rfl | rfl | rfl
  · exact r3 (hw.part (i := 2) Tryd.underlying27 rfl rfl)
  · exact s3 (hw.part (i := 3) Tryd.underlying27 rfl rfl)
  · exact t3 (hw.part (i := 4) Tryd.underlying27 rfl rfl)
end
end Go.Proofs.YtknpkifhkefikaaDoor
