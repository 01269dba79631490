/-
  Accepts: as plain data, in memory, as they come in.
-/
import Derived.Test.YtkihlcecjcjmlaaAuO
import Derived.Test.YtkihlcecjcjmlaaOq
import Derived.Test.YtkihlcecjcjmlaaBulk
namespace Go.Proofs.Ytkihlcecjcjmlaa
open Go.ChangeShapes Go.WideShapes Go.ChangeAt Go.RowKit Go.Deep
set_option linter.unusedVariables false
set_option maxRecDepth 100000

structure Se where
  n : Bs
  t : Int
  c : Int
  rk : Int
  kd : Int
  ex : Int
  z : Bs
  ds : List Bs
structure Ac where
  tm : Int
  ttl : Int
  z : Bs
  s : Se
def acL (x : Ac) (a : Option Addr) (c : Nat) : List Value := [.int .i64 x.tm, .int .i64 x.ttl, .string (bs x.z), .string (bs x.s.n), .int .i64 x.s.t, .int .i64 x.s.c, .int .i64 x.s.rk, .int .i64 x.s.kd, .int .i64 x.s.ex, .string (bs x.s.z), .slice a x.s.ds.length c]
def acC (x : Ac) (a : Option Addr) (c : Nat) : Array Value := (acL x a c).toArray
def seL (x : Se) (a : Option Addr) (c : Nat) : List Value := [.string (bs x.n), .int .i64 x.t, .int .i64 x.c, .int .i64 x.rk, .int .i64 x.kd, .int .i64 x.ex, .string (bs x.z), .slice a x.ds.length c]
def seC (x : Se) (a : Option Addr) (c : Nat) : Array Value := (seL x a c).toArray
structure SeOk (s : Se) : Prop where
  n : s.n.length ≤ 9223372036854775807
  z : s.z.length ≤ 9223372036854775807
  t : I64a s.t
  c : I64a s.c
  d : ∀ x ∈ s.ds, x.length ≤ 9223372036854775807
  l : s.ds.length ≤ 1048576
structure SeAt (w : World) (s : Se) (a : Option Addr) (c : Nat) : Prop where
  ds : Byss w a s.ds
  l : s.ds.length ≤ c
  m : c ≤ 9223372036854775807
  ok : SeOk s
theorem SeAt.on {w w1 : World} {s : Se} {a : Option Addr} {c : Nat} (h : SeAt w s a c) (hB : Below w.heap.size w w1) : SeAt w1 s a c := ⟨h.ds.on hB, h.l, h.m, h.ok⟩
def Acs (w : World) (A : Option Addr) (L : List Ac) : Prop := 0 < L.length → ∃ g off, A = some ⟨g, off, none⟩ ∧ ∀ j (h : j < L.length), ∃ a c, SeAt w L[j].s a c ∧ w.rangeAt g (off + j * 11) (acL L[j] a c)
theorem Acs.on {w w1 : World} {A : Option Addr} {L : List Ac} (h : Acs w A L) (hB : Below w.heap.size w w1) : Acs w1 A L := fun hn => by
  obtain ⟨g, off, hA, hc⟩ := h hn
  refine ⟨g, off, hA, fun j hj => ?_⟩
  obtain ⟨a, c, h0, h1⟩ := hc j hj
  exact ⟨a, c, h0.on hB, range_on h1 hB⟩
theorem info_ac : (Try.prog.info? 57).map (·.size) = some 11 := by kernel_rfl
theorem info_se : (Try.prog.info? 55).map (·.size) = some 8 := by kernel_rfl
theorem acCells : Try.prog.cellsOf 57 = 11 := by kernel_rfl
theorem seCells : Try.prog.cellsOf 55 = 8 := by kernel_rfl
theorem of_eleven {α : Type} (l : List α) (h : l.length = 11) : ∃ a b c d e f g i j k m, l = [a, b, c, d, e, f, g, i, j, k, m] := by
  match l, h with
  | [a, b, c, d, e, f, g, i, j, k, m], _ => exact ⟨a, b, c, d, e, f, g, i, j, k, m, rfl⟩
theorem bulk_pos {H : Type} (d : DataW H) : 1 ≤ Rows.uptoBulk d := by
  cases d <;> (try unfold Rows.uptoBulk) <;> (try split) <;> omega
theorem bulk_count {H : Type} : ∀ E : List (DataW H), E.length ≤ Rows.uptoBulkAll E
  | [] => Nat.zero_le _
  | e :: E => by
    have h := bulk_count E
    have h1 := bulk_pos e
    show E.length + 1 ≤ Rows.uptoBulk e + Rows.uptoBulkAll E
    omega
theorem bulk_mem {H : Type} {e : DataW H} : ∀ {E : List (DataW H)}, e ∈ E → Rows.uptoBulk e ≤ Rows.uptoBulkAll E
  | x :: E, h => by
    show _ ≤ Rows.uptoBulk x + Rows.uptoBulkAll E
    rcases List.mem_cons.1 h with rfl | h
    · omega
    · have := bulk_mem h
      omega

section
variable {H : Type} {enc : TypeId × Value → H} {w : World} {held : Bool} {d : DataW H} {p : List MemPlace}
theorem open_count {A : Option Addr} {m c n : Nat} (h : DataW.trod enc Try.prog w 0 (fun _ => true) held n 53 [.slice A m c] = some (d, p)) : m ≤ Rows.uptoBulk d := by
  rcases open_slice Try.underlying53 h with ⟨hcs, _⟩ | ⟨ad, len, cap, k, k', D, Pl, hcs, _, hl, hm, hmm, hx, hE⟩
  · simp at hcs
    omega
  · simp at hcs
    obtain ⟨rfl, rfl, rfl⟩ := hcs
    simp only [Prod.mk.injEq] at hx
    rw [hx.1]
    have key := bulk_count ((List.range m).map D)
    rw [List.length_map, List.length_range] at key
    simp only [Rows.uptoBulk]
    omega
theorem open_seL {n : Nat} {cs : List Value} (hl : cs.length = 8) (h : DataW.trod enc Try.prog w 0 (fun _ => true) held n 55 cs = some (d, p)) (hb : Rows.uptoBulk d ≤ 1048576) : ∃ (s : Se) (a : Option Addr) (c : Nat), cs = seL s a c ∧ SeAt w s a c := by
  obtain ⟨x0, x1, x2, x3, x4, x5, x6, x7, rfl⟩ := of_eight cs hl
  obtain ⟨xs, n', _, hD, _, hl8, hh⟩ := DataW.trod_struct Try.underlying55 h
  obtain ⟨z0, z1, z2, z3, z4, z5, z6, ⟨z7, p7⟩, rfl⟩ := of_eight xs hl8
  have k0 : DataW.trod enc Try.prog w 0 (fun _ => true) held n' 9 [x0] = some z0 := by simpa [strCells] using hh 0 _ rfl
  have k1 : DataW.trod enc Try.prog w 0 (fun _ => true) held n' 3 [x1] = some z1 := by simpa [intCells] using hh 1 _ rfl
  have k2 : DataW.trod enc Try.prog w 0 (fun _ => true) held n' 3 [x2] = some z2 := by simpa [intCells] using hh 2 _ rfl
  have k3 : DataW.trod enc Try.prog w 0 (fun _ => true) held n' 3 [x3] = some z3 := by simpa [intCells] using hh 3 _ rfl
  have k4 : DataW.trod enc Try.prog w 0 (fun _ => true) held n' 3 [x4] = some z4 := by simpa [intCells] using hh 4 _ rfl
  have k5 : DataW.trod enc Try.prog w 0 (fun _ => true) held n' 3 [x5] = some z5 := by simpa [intCells] using hh 5 _ rfl
  have k6 : DataW.trod enc Try.prog w 0 (fun _ => true) held n' 9 [x6] = some z6 := by simpa [strCells] using hh 6 _ rfl
  have k7 : DataW.trod enc Try.prog w 0 (fun _ => true) held n' 53 [x7] = some (z7, p7) := by simpa [slsCells] using hh 7 _ rfl
  obtain ⟨v0, e0, _, f0⟩ := DataW.trod_string Try.underlying9 k0
  obtain ⟨v1, e1, _, f1⟩ := DataW.trod_int Try.underlying3 k1
  obtain ⟨v2, e2, _, f2⟩ := DataW.trod_int Try.underlying3 k2
  obtain ⟨v3, e3, _, _⟩ := DataW.trod_int Try.underlying3 k3
  obtain ⟨v4, e4, _, _⟩ := DataW.trod_int Try.underlying3 k4
  obtain ⟨v5, e5, _, _⟩ := DataW.trod_int Try.underlying3 k5
  obtain ⟨v6, e6, _, f6⟩ := DataW.trod_string Try.underlying9 k6
  obtain ⟨L, A, c, rfl, hB, ⟨hc1, hc2, hc3⟩, hw7⟩ := open_datas k7
  have hcnt := open_count k7
  simp only [List.cons.injEq, and_true] at e0 e1 e2 e3 e4 e5 e6
  subst e0 e1 e2 e3 e4 e5 e6
  simp only [Prod.mk.injEq] at hD
  have s0 : v0.data.toList.length ≤ 9223372036854775807 := by
    have := f0; unfold maxLen at this
    simp only [Array.length_toList]
    exact this
  have s6 : v6.data.toList.length ≤ 9223372036854775807 := by
    have := f6; unfold maxLen at this
    simp only [Array.length_toList]
    exact this
  refine ⟨⟨v0.data.toList, v1, v2, v3, v4, v5, v6.data.toList, L⟩, A, c, by rw [seL, ← bs_list v0, ← bs_list v6], hB, hc1, hc2, s0, s6, i64_of f1, i64_of f2, fun x hx => ?_, ?_⟩
  · have hx' : x ∈ L := hx
    obtain ⟨i, hi, rfl⟩ := List.mem_iff_getElem.1 hx'
    obtain ⟨g, off, -, h2⟩ := hB (by omega)
    obtain ⟨a', c', -, -, h3, h4, -⟩ := h2 i hi
    omega
  · refine Nat.le_trans hcnt (Nat.le_trans ?_ hb)
    rw [hD.1]
    simp only [Rows.uptoBulk, List.map_cons, List.map_nil, Rows.uptoBulkAll]
    omega
theorem open_acL {n : Nat} {cs : List Value} (hl : cs.length = 11) (h : DataW.trod enc Try.prog w 0 (fun _ => true) held n 57 cs = some (d, p)) (hb : Rows.uptoBulk d ≤ 1048576) : ∃ (x : Ac) (a : Option Addr) (c : Nat), cs = acL x a c ∧ SeAt w x.s a c := by
  obtain ⟨x0, x1, x2, y0, y1, y2, y3, y4, y5, y6, y7, rfl⟩ := of_eleven cs hl
  obtain ⟨xs, n', _, hD, _, hl4, hg⟩ := DataW.trod_struct Try.underlying57 h
  obtain ⟨z0, z1, z2, ⟨d3, p3⟩, rfl⟩ := of_four xs hl4
  have g0 : DataW.trod enc Try.prog w 0 (fun _ => true) held n' 3 [x0] = some z0 := by simpa [intCells] using hg 0 _ rfl
  have g1 : DataW.trod enc Try.prog w 0 (fun _ => true) held n' 3 [x1] = some z1 := by simpa [intCells] using hg 1 _ rfl
  have g2 : DataW.trod enc Try.prog w 0 (fun _ => true) held n' 9 [x2] = some z2 := by simpa [strCells] using hg 2 _ rfl
  have g3 : DataW.trod enc Try.prog w 0 (fun _ => true) held n' 55 [y0, y1, y2, y3, y4, y5, y6, y7] = some (d3, p3) := by simpa [seCells] using hg 3 _ rfl
  obtain ⟨v0, e0, _, _⟩ := DataW.trod_int Try.underlying3 g0
  obtain ⟨v1, e1, _, _⟩ := DataW.trod_int Try.underlying3 g1
  obtain ⟨v2, e2, _, _⟩ := DataW.trod_string Try.underlying9 g2
  simp only [List.cons.injEq, and_true] at e0 e1 e2
  subst e0 e1 e2
  simp only [Prod.mk.injEq] at hD
  obtain ⟨s, a, c, h4, h5⟩ := open_seL rfl g3 (by
    refine Nat.le_trans ?_ hb
    rw [hD.1]
    simp only [Rows.uptoBulk, List.map_cons, List.map_nil, Rows.uptoBulkAll]
    omega)
  refine ⟨⟨v0, v1, v2.data.toList, s⟩, a, c, ?_, h5⟩
  unfold seL at h4
  simp only [List.cons.injEq, and_true] at h4
  obtain ⟨q0, q1, q2, q3, q4, q5, q6, q7⟩ := h4
  rw [acL, ← bs_list v2, q0, q1, q2, q3, q4, q5, q6, q7]
theorem open_acs {r0 : Reach} {b0 : Nat} {v : Value} (hv : Value.okWide Try.prog w r0 b0 32 v) (h : DataW.Trod enc Try.prog w 0 (fun _ => true) held 32 v d p) (hb : Rows.uptoBulk d ≤ 1048576) :
    ∃ (L : List Ac) (A : Option Addr) (c : Nat), v = .slice A L.length c ∧ Acs w A L ∧ (L.length ≤ c ∧ c ≤ 9223372036854775807) ∧ L.length ≤ 1048576 := by
  obtain ⟨a, len, cap, rfl⟩ := okWide_slice Try.underlying32 hv
  obtain ⟨fuel, hf⟩ := h
  rcases open_slice Try.underlying32 hf with ⟨hcs, _⟩ | ⟨ad, l, c, m, k, D, Pl, hcs, _, hl, hm, hmm, hx, hE⟩
  · simp [Value.cells] at hcs
    obtain ⟨rfl, rfl, rfl⟩ := hcs
    exact ⟨[], none, 0, rfl, fun h => absurd h (by simp), by simp, by simp⟩
  · simp [Value.cells] at hcs
    obtain ⟨rfl, rfl, rfl⟩ := hcs
    simp only [if_true] at hmm
    subst hmm
    simp only [Prod.mk.injEq] at hx
    have hbd : Rows.uptoBulkAll ((List.range len).map D) ≤ 1048576 := by
      refine Nat.le_trans ?_ hb
      rw [hx.1]
      simp only [Rows.uptoBulk]
      omega
    have key := bulk_count ((List.range len).map D)
    rw [List.length_map, List.length_range] at key
    have hel : ∀ i, i < len → ∃ q : Ac, ∃ a c, SeAt w q.s a c ∧ ∀ j u, (acL q a c)[j]? = some u → w.cell? ((ad.add (i * 11)).add j) = some u := by
      intro i hi
      obtain ⟨cs', h1, h2⟩ := hE i (by omega)
      obtain ⟨_, hlen, hcell⟩ := World.cells?_some h1
      rw [acCells] at hlen hcell
      obtain ⟨e, a, c, rfl, h3⟩ := open_acL hlen h2 (Nat.le_trans (bulk_mem (List.mem_map.2 ⟨i, List.mem_range.2 hi, rfl⟩)) hbd)
      refine ⟨e, a, c, h3, fun j u hj => ?_⟩
      have hj3 : j < 11 := by rw [← hlen]; exact (List.getElem?_eq_some_iff.1 hj).1
      rw [hcell j hj3]
      exact hj
    haveI : Inhabited Ac := ⟨⟨0, 0, [], ⟨[], 0, 0, 0, 0, 0, [], []⟩⟩⟩
    obtain ⟨f, hf⟩ := choose_lt (α := Ac) hel
    refine ⟨(List.range len).map f, some ad, m, by simp, fun h0 => ?_, ⟨by simpa using hl, by unfold maxLen at hm; omega⟩, by simp; omega⟩
    have h0' : 0 < len := by simpa using h0
    obtain ⟨g, off, vi⟩ := ad
    obtain ⟨a0, c0, _, hr0⟩ := hf 0 h0'
    have hc0 := hr0 0 _ rfl
    have hvi : vi = none := by simpa [Addr.add] using World.cell?_spot hc0
    subst hvi
    refine ⟨g, off, rfl, fun j hj => ?_⟩
    have hj' : j < len := by simpa using hj
    obtain ⟨a, c, h3, h4⟩ := hf j hj'
    simp only [List.getElem_map, List.getElem_range]
    refine ⟨a, c, h3, fun i u hi => ?_⟩
    have := h4 i u hi
    rw [Addr.add_lit, Addr.add_lit] at this
    exact this
end
end Go.Proofs.Ytkihlcecjcjmlaa
