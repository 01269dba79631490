/-
  Sets and entries that come in by value: their shapes, what they lead to, how great they can be.
-/
import Derived.Test.YtocbcobaodefgaaNmP
import Derived.Test.YtocbcobaodefgaaEnI
import Derived.Deep.Slices
import Derived.Deep.Fields
import Derived.SizedLaws
namespace Go.Proofs.Ytocbcobaodefgaa
open Go.ChangeShapes Go.WideShapes Go.ChangeAt Go.RowKit Go.Deep
set_option linter.unusedVariables false
set_option maxRecDepth 100000

theorem stCells : Try.prog.cellsOf 26 = 8 := by kernel_rfl
theorem enCells : Try.prog.cellsOf 28 = 9 := by kernel_rfl
theorem intCells : Try.prog.cellsOf 3 = 1 := by kernel_rfl
theorem boolCells : Try.prog.cellsOf 4 = 1 := by kernel_rfl
theorem strCells : Try.prog.cellsOf 9 = 1 := by kernel_rfl
theorem slCells : Try.prog.cellsOf 22 = 1 := by kernel_rfl
theorem slsCells : Try.prog.cellsOf 24 = 1 := by kernel_rfl
theorem u8Bytes : Try.prog.bytesOf 5 = 1 := by kernel_rfl
theorem slBytes : Try.prog.bytesOf 22 = 24 := by kernel_rfl
theorem add_zero' (a : Addr) : a.add 0 = a := by
  obtain ⟨b, o, v⟩ := a
  unfold Addr.add
  split <;> simp_all
theorem of_two {α : Type} (l : List α) (h : l.length = 2) : ∃ a b, l = [a, b] := by
  match l, h with
  | [a, b], _ => exact ⟨a, b, rfl⟩
theorem of_eight {α : Type} (l : List α) (h : l.length = 8) : ∃ a b c d e f g i, l = [a, b, c, d, e, f, g, i] := by
  match l, h with
  | [a, b, c, d, e, f, g, i], _ => exact ⟨a, b, c, d, e, f, g, i, rfl⟩
theorem of_nine {α : Type} (l : List α) (h : l.length = 9) : ∃ a b c d e f g i j, l = [a, b, c, d, e, f, g, i, j] := by
  match l, h with
  | [a, b, c, d, e, f, g, i, j], _ => exact ⟨a, b, c, d, e, f, g, i, j, rfl⟩

/-- All that a datum weighs is within reach. -/
def Within {H : Type} (t : TypeId) (d : DataW H) : Prop := ∀ n ∈ d.weights Try.prog t, n ≤ reachBytes
theorem Within.part {H : Type} {t u : TypeId} {parts : List (DataW H)} {fs : Array Field} {i : Nat} {d : DataW H} (h : Within t (.agg parts)) (ht : Try.prog.underlying t = some (.struct fs)) (hu : (fs.toList.map (·.type))[i]? = some u) (hd : parts[i]? = some d) : Within u d := by
  intro n hn
  refine h n ?_
  rw [DataW.weights, ht]
  exact DataW.weights_mem_each hu hd n hn
theorem weightsAll_mem {H : Type} {e : TypeId} {d : DataW H} {n : Nat} (hn : n ∈ d.weights Try.prog e) : ∀ {l : List (DataW H)}, d ∈ l → n ∈ DataW.weightsAll Try.prog e l
  | x :: l, h => by
    rw [DataW.weightsAll, List.mem_append]
    rcases List.mem_cons.1 h with rfl | h
    · exact .inl hn
    · exact .inr (weightsAll_mem hn h)
theorem Within.elem {H : Type} {t e : TypeId} {elems spare : List (DataW H)} {d : DataW H} (h : Within t (.slice elems spare)) (ht : Try.prog.underlying t = some (.slice e)) (hd : d ∈ elems) : Within e d := by
  intro n hn
  refine h n ?_
  rw [DataW.weights, ht]
  exact List.mem_cons_of_mem _ (List.mem_append_left _ (weightsAll_mem hn hd))
theorem Within.len {H : Type} {t e : TypeId} {elems spare : List (DataW H)} (h : Within t (.slice elems spare)) (ht : Try.prog.underlying t = some (.slice e)) : (elems.length + spare.length) * Try.prog.bytesOf e ≤ reachBytes := by
  refine h _ ?_
  rw [DataW.weights, ht]
  exact List.mem_cons_self

theorem Within.str {H : Type} {t : TypeId} {b : List UInt8} (h : Within (H := H) t (.lit (.string b))) : b.length ≤ reachBytes := h _ (by simp [DataW.weights])

section
variable {H : Type} {enc : TypeId × Value → H} {w : World} {held : Bool} {d : DataW H} {p : List MemPlace}
theorem open_data {x : Value} {n : Nat} (h : DataW.trod enc Try.prog w 0 (fun _ => true) held n 22 [x] = some (d, p)) : ∃ (y : Bs) (a : Option Addr) (c : Nat), x = .slice a y.length c ∧ (Bys w a y ∧ y.length ≤ c ∧ c ≤ 9223372036854775807 ∧ (a = none → c = 0)) ∧ (Within 22 d → y.length ≤ reachBytes) := by
  have hs : ∃ a l c, x = .slice a l c ∧ (a = none → c = 0) ∧ (Within 22 d → l ≤ reachBytes) := by
    rcases open_ints Try.underlying22 Try.underlying5 (by kernel_rfl) h with ⟨hcs, hx⟩ | ⟨x', l', c', zs, hcs, _, hl, hm, hz, hx, _⟩
    · simp at hcs; exact ⟨none, 0, 0, hcs, fun _ => rfl, fun _ => Nat.zero_le _⟩
    · simp at hcs
      refine ⟨some x', l', c', hcs, (fun h => by cases h), fun hw => ?_⟩
      simp only [Prod.mk.injEq] at hx
      rw [hx.1] at hw
      have := hw.len Try.underlying22
      rw [u8Bytes] at this
      have hz' : zs.length = c' := by simpa using hz
      simp only [lits, List.length_map, List.length_take] at this
      omega
  obtain ⟨a, l, c, rfl, hn, hw⟩ := hs
  obtain ⟨y, rfl, hB, hlc, hcm⟩ := open_bys (d := d) (p := p) ⟨n, by simpa [Value.cells] using h⟩
  exact ⟨y, a, c, rfl, ⟨hB, hlc, hcm, hn⟩, hw⟩


theorem open_datas {x : Value} {n : Nat} (h : DataW.trod enc Try.prog w 0 (fun _ => true) held n 24 [x] = some (d, p)) : ∃ (L : List Bs) (a : Option Addr) (c : Nat), x = .slice a L.length c ∧ Byss w a L ∧ (L.length ≤ c ∧ c ≤ 9223372036854775807 ∧ (a = none → c = 0)) ∧ (Within 24 d → L.length * 24 ≤ reachBytes ∧ ∀ x ∈ L, x.length ≤ reachBytes) := by
  rcases open_slice Try.underlying24 h with ⟨hcs, _⟩ | ⟨ad, len, cap, m, k, D, Pl, hcs, _, hl, hm, hmm, hx, hE⟩
  · simp at hcs
    exact ⟨[], none, 0, hcs, fun h => absurd h (by simp), by simp, fun _ => ⟨by simp, fun x hx => by cases hx⟩⟩
  · simp at hcs
    simp only [if_true] at hmm
    subst hmm
    have hel : ∀ i, i < len → ∃ y : Bs, (∃ a c, w.cell? (ad.add i) = some (.slice a y.length c) ∧ Bys w a y ∧ y.length ≤ c ∧ c ≤ 9223372036854775807 ∧ (a = none → c = 0)) ∧ (Within 22 (D i) → y.length ≤ reachBytes) := by
      intro i hi
      obtain ⟨cs', h1, h2⟩ := hE i (by omega)
      obtain ⟨_, hlen, hcell⟩ := World.cells?_some h1
      rw [slCells] at hlen hcell
      match cs', hlen with
      | [x0], _ =>
      obtain ⟨y, a, c, e4, hd, hwd⟩ := open_data h2
      subst e4
      refine ⟨y, ⟨a, c, ?_, hd⟩, hwd⟩
      have := hcell 0 (by omega)
      simpa [slCells, add_zero'] using this
    obtain ⟨f, hf⟩ := choose_lt (α := Bs) hel
    refine ⟨(List.range len).map f, some ad, m, by simpa using hcs, fun h0 => ?_, ⟨by simpa using hl, by unfold maxLen at hm; omega, fun h => by cases h⟩, fun hw => ?_⟩
    · have h0' : 0 < len := by simpa using h0
      obtain ⟨g, off, vi⟩ := ad
      obtain ⟨⟨a0, c0, hr0, _⟩, _⟩ := hf 0 h0'
      have hvi : vi = none := by simpa [Addr.add] using World.cell?_spot hr0
      subst hvi
      refine ⟨g, off, rfl, fun j hj => ?_⟩
      have hj' : j < len := by simpa using hj
      obtain ⟨⟨a, c, hr, hd⟩, _⟩ := hf j hj'
      simp only [List.getElem_map, List.getElem_range]
      rw [Addr.add_lit] at hr
      exact ⟨a, c, hr, hd⟩
    · simp only [Prod.mk.injEq] at hx
      rw [hx.1] at hw
      have := hw.len Try.underlying24
      rw [slBytes] at this
      refine ⟨by simp only [List.length_map, List.length_range] at this ⊢; omega, fun x hx => ?_⟩
      obtain ⟨i, hi, rfl⟩ := List.mem_map.1 hx
      rw [List.mem_range] at hi
      exact (hf i hi).2 (hw.elem Try.underlying24 (List.mem_map.2 ⟨i, List.mem_range.2 hi, rfl⟩))

/-- How great a set can be that comes in. -/
structure Reach8 (s : St) : Prop where
  n : s.n.length ≤ reachBytes
  z : s.z.length ≤ reachBytes
  l : s.ds.length * 24 ≤ reachBytes
  d : ∀ x ∈ s.ds, x.length ≤ reachBytes
theorem Reach8.sized {s : St} (h : Reach8 s) : Sized s := by
  have e : reachBytes = 140737488351232 := rfl
  refine ⟨?_, ?_, fun x hx => ?_, ?_⟩
  · have := h.n; omega
  · have := h.z; omega
  · have := h.d x hx; omega
  · have := h.l; omega
theorem cells_st {n : Nat} {l : List Value} {y : DataW H × List MemPlace} (hl : l.length = 8) (h : DataW.trod enc Try.prog w 0 (fun _ => true) held n 26 l = some y) :
    ∃ (s : St) (A : Option Addr) (c : Nat), l = stL s A c ∧ Byss w A s.ds ∧ s.ds.length ≤ c ∧ c ≤ 9223372036854775807 ∧ (A = none → c = 0) ∧ (Within 26 y.1 → Reach8 s) := by
  obtain ⟨x0, x1, x2, x3, x4, x5, x6, x7, rfl⟩ := of_eight l hl
  obtain ⟨xs, n', _, hD, _, hl8, hh⟩ := DataW.trod_struct Try.underlying26 h
  obtain ⟨z0, z1, z2, z3, z4, z5, z6, ⟨z7, p7⟩, rfl⟩ := of_eight xs hl8
  have k0 : DataW.trod enc Try.prog w 0 (fun _ => true) held n' 9 [x0] = some z0 := by simpa [strCells] using hh 0 _ rfl
  have k1 : DataW.trod enc Try.prog w 0 (fun _ => true) held n' 3 [x1] = some z1 := by simpa [intCells, strCells] using hh 1 _ rfl
  have k2 : DataW.trod enc Try.prog w 0 (fun _ => true) held n' 3 [x2] = some z2 := by simpa [intCells] using hh 2 _ rfl
  have k3 : DataW.trod enc Try.prog w 0 (fun _ => true) held n' 3 [x3] = some z3 := by simpa [intCells] using hh 3 _ rfl
  have k4 : DataW.trod enc Try.prog w 0 (fun _ => true) held n' 3 [x4] = some z4 := by simpa [intCells] using hh 4 _ rfl
  have k5 : DataW.trod enc Try.prog w 0 (fun _ => true) held n' 3 [x5] = some z5 := by simpa [intCells] using hh 5 _ rfl
  have k6 : DataW.trod enc Try.prog w 0 (fun _ => true) held n' 9 [x6] = some z6 := by simpa [strCells] using hh 6 _ rfl
  have k7 : DataW.trod enc Try.prog w 0 (fun _ => true) held n' 24 [x7] = some (z7, p7) := by simpa [slsCells] using hh 7 _ rfl
  obtain ⟨v0, e0, f0, _⟩ := DataW.trod_string Try.underlying9 k0
  obtain ⟨v1, e1, _, _⟩ := DataW.trod_int Try.underlying3 k1
  obtain ⟨v2, e2, _, _⟩ := DataW.trod_int Try.underlying3 k2
  obtain ⟨v3, e3, _, _⟩ := DataW.trod_int Try.underlying3 k3
  obtain ⟨v4, e4, _, _⟩ := DataW.trod_int Try.underlying3 k4
  obtain ⟨v5, e5, _, _⟩ := DataW.trod_int Try.underlying3 k5
  obtain ⟨v6, e6, f6, _⟩ := DataW.trod_string Try.underlying9 k6
  obtain ⟨L, A, c, rfl, hB, ⟨hc1, hc2, hc3⟩, hw7⟩ := open_datas k7
  simp only [List.cons.injEq, and_true] at e0 e1 e2 e3 e4 e5 e6
  subst e0 e1 e2 e3 e4 e5 e6
  refine ⟨⟨v0.data.toList, v1, v2, v3, v4, v5, v6.data.toList, L⟩, A, c, by rw [stL, ← bs_list v0, ← bs_list v6], hB, hc1, hc2, hc3, fun hw => ?_⟩
  rw [hD] at hw
  have w0 := hw.part (i := 0) Try.underlying26 rfl rfl
  have w6 := hw.part (i := 6) Try.underlying26 rfl rfl
  have w7 := hw7 (hw.part (i := 7) Try.underlying26 rfl rfl)
  rw [f0] at w0
  rw [f6] at w6
  exact ⟨w0.str, w6.str, w7.1, w7.2⟩
/-- A set, an entry by value. -/
theorem open_st {r0 : Reach} {b0 : Nat} {v : Value} (hv : Value.okWide Try.prog w r0 b0 26 v) (h : DataW.Trod enc Try.prog w 0 (fun _ => true) held 26 v d p) :
    ∃ (s : St) (A : Option Addr) (c : Nat), v = .agg (stC s A c) ∧ Byss w A s.ds ∧ s.ds.length ≤ c ∧ c ≤ 9223372036854775807 ∧ (A = none → c = 0) ∧ (Within 26 d → Reach8 s) := by
  obtain ⟨cs, rfl, hsz⟩ := okWide_struct Try.underlying26 hv
  obtain ⟨l⟩ := cs
  obtain ⟨fuel, hf⟩ := h
  obtain ⟨s, A, c, hl, h1⟩ := cells_st (l := l) (hsz.trans stCells) hf
  exact ⟨s, A, c, by rw [hl]; rfl, h1⟩
theorem open_en {r0 : Reach} {b0 : Nat} {v : Value} (hv : Value.okWide Try.prog w r0 b0 28 v) (h : DataW.Trod enc Try.prog w 0 (fun _ => true) held 28 v d p) :
    ∃ (b : Bool) (s : St) (A : Option Addr) (c : Nat), v = .agg (enC b s A c) ∧ Byss w A s.ds ∧ s.ds.length ≤ c ∧ c ≤ 9223372036854775807 ∧ (A = none → c = 0) ∧ (Within 28 d → Reach8 s) := by
  obtain ⟨cs, rfl, hsz⟩ := okWide_struct Try.underlying28 hv
  obtain ⟨l⟩ := cs
  obtain ⟨x0, x1, x2, x3, x4, x5, x6, x7, x8, rfl⟩ := of_nine l (hsz.trans enCells)
  obtain ⟨fuel, hf⟩ := h
  obtain ⟨xs, n', _, hD, _, hl2, hh⟩ := DataW.trod_struct Try.underlying28 hf
  obtain ⟨z0, ⟨z1, p1⟩, rfl⟩ := of_two xs hl2
  have k0 : DataW.trod enc Try.prog w 0 (fun _ => true) held n' 4 [x0] = some z0 := by simpa [Value.cells, boolCells] using hh 0 _ rfl
  have k1 : DataW.trod enc Try.prog w 0 (fun _ => true) held n' 26 [x1, x2, x3, x4, x5, x6, x7, x8] = some (z1, p1) := by simpa [Value.cells, stCells] using hh 1 _ rfl
  obtain ⟨v0, e0, _⟩ := DataW.trod_bool Try.underlying4 k0
  obtain ⟨s, A, c, hl, h1, h2, h3, h4, h5⟩ := cells_st rfl k1
  simp only [List.cons.injEq, and_true] at e0
  subst e0
  refine ⟨v0, s, A, c, by rw [enC, enL, ← hl], h1, h2, h3, h4, fun hw => ?_⟩
  simp only [Prod.mk.injEq] at hD
  rw [hD.1] at hw
  exact h5 (hw.part (i := 1) Try.underlying28 rfl rfl)
end
end Go.Proofs.Ytocbcobaodefgaa
