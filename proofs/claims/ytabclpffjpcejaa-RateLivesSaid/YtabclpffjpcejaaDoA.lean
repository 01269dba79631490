/-
  Calls of a table that come in: pairs of numbers, in a list and by value.
-/
import Derived.Test.YtabclpffjpcejaaRdE
import Derived.Test.YtabclpffjpcejaaNmP
import Derived.Deep.Fields
import Derived.Deep.MidRow
import Derived.Deep.Slices
namespace Go.Proofs.Ytabclpffjpcejaa
open Go.ChangeShapes Go.WideShapes Go.ChangeAt Go.RowKit Go.Deep
set_option linter.unusedVariables false
set_option maxRecDepth 100000

theorem twoCells : Try.prog.cellsOf 63 = 2 := by kernel_rfl
theorem oneIntD : Try.prog.cellsOf 3 = 1 := by kernel_rfl
theorem of_pair {α : Type} (l : List α) (h : l.length = 2) : ∃ a0 a1, l = [a0, a1] := by
  match l, h with
  | [a0, a1], _ => exact ⟨a0, a1, rfl⟩
/-- Pairs of numbers in memory. -/
def Prs (w : World) (A : Option Addr) (l : List (Int × Int)) : Prop := 0 < l.length → ∃ g off, A = some ⟨g, off, none⟩ ∧ ∀ j (h : j < l.length), w.cell? ⟨g, off + j * 2, none⟩ = some (.int .i64 l[j].1) ∧ w.cell? ⟨g, off + j * 2 + 1, none⟩ = some (.int .i64 l[j].2)
theorem Prs.on {w w1 : World} {A : Option Addr} {l : List (Int × Int)} (h : Prs w A l) (hB : Below w.heap.size w w1) : Prs w1 A l := fun hl => by
  obtain ⟨g, off, hA, hc⟩ := h hl
  exact ⟨g, off, hA, fun j hj => ⟨cell_on (hc j hj).1 hB, cell_on (hc j hj).2 hB⟩⟩
section
variable {H : Type} {enc : TypeId × Value → H} {w : World} {base b0 : Nat} {sp : Nat → Bool} {held : Bool} {v : Value} {d : DataW H} {p : List MemPlace} {r0 : Reach}
theorem open_pr (hv : Value.okWide Try.prog w r0 b0 63 v) (h : DataW.Trod enc Try.prog w base sp held 63 v d p) :
    ∃ x : Int × Int, v = .agg #[.int .i64 x.1, .int .i64 x.2] ∧ (-9223372036854775808 ≤ x.1 ∧ x.1 ≤ 9223372036854775807) ∧ (-9223372036854775808 ≤ x.2 ∧ x.2 ≤ 9223372036854775807) := by
  obtain ⟨cs, rfl, hsz⟩ := okWide_struct Try.underlying63 hv
  obtain ⟨l⟩ := cs
  obtain ⟨x0, x1, rfl⟩ := of_pair l (hsz.trans twoCells)
  obtain ⟨fuel, hf⟩ := h
  obtain ⟨xs, n', _, hD, _, hl3, hg⟩ := DataW.trod_struct Try.underlying63 hf
  obtain ⟨y0, y1, rfl⟩ := of_pair xs hl3
  have g0 : DataW.trod enc Try.prog w base sp held n' 3 [x0] = some y0 := by simpa [Value.cells, oneIntD] using hg 0 _ rfl
  have g1 : DataW.trod enc Try.prog w base sp held n' 3 [x1] = some y1 := by simpa [Value.cells, oneIntD] using hg 1 _ rfl
  obtain ⟨i0, e0, _, f0⟩ := DataW.trod_int Try.underlying3 g0
  obtain ⟨i1, e1, _, f1⟩ := DataW.trod_int Try.underlying3 g1
  simp only [List.cons.injEq, and_true] at e0 e1
  subst e0 e1
  simp only [Lit.wf, Bool.and_eq_true, decide_eq_true_eq] at f0 f1
  exact ⟨(i0, i1), rfl, f0, f1⟩
end
section
variable {H : Type} {enc : TypeId × Value → H} {w : World} {held : Bool} {d : DataW H} {p : List MemPlace}
theorem open_prs {r0 : Reach} {b0 : Nat} {v : Value} (hv : Value.okWide Try.prog w r0 b0 55 v) (h : DataW.Trod enc Try.prog w 0 (fun _ => true) held 55 v d p) :
    ∃ (l : List (Int × Int)) (A : Option Addr) (c : Nat), v = .slice A l.length c ∧ Prs w A l ∧ (l.length ≤ c ∧ c ≤ 9223372036854775807) ∧ ∀ x ∈ l, (-9223372036854775808 ≤ x.1 ∧ x.1 ≤ 9223372036854775807) ∧ (-9223372036854775808 ≤ x.2 ∧ x.2 ≤ 9223372036854775807) := by
  obtain ⟨a, len, cap, rfl⟩ := okWide_slice Try.underlying55 hv
  obtain ⟨fuel, hf⟩ := h
  rcases open_slice Try.underlying55 hf with ⟨hcs, _⟩ | ⟨ad, l, c, m, k, D, Pl, hcs, _, hl, hm, hmm, hx, hE⟩
  · simp [Value.cells] at hcs
    obtain ⟨rfl, rfl, rfl⟩ := hcs
    exact ⟨[], none, 0, rfl, fun h => absurd h (by simp), by simp, fun z hz => by cases hz⟩
  · simp [Value.cells] at hcs
    obtain ⟨rfl, rfl, rfl⟩ := hcs
    simp only [if_true] at hmm
    subst hmm
    have hel : ∀ i, i < len → ∃ q : Int × Int, (w.cell? ((ad.add (i * 2)).add 0) = some (.int .i64 q.1) ∧ w.cell? ((ad.add (i * 2)).add 1) = some (.int .i64 q.2)) ∧ (-9223372036854775808 ≤ q.1 ∧ q.1 ≤ 9223372036854775807) ∧ (-9223372036854775808 ≤ q.2 ∧ q.2 ≤ 9223372036854775807) := by
      intro i hi
      obtain ⟨cs', h1, h2⟩ := hE i (by omega)
      obtain ⟨_, hlen, hcell⟩ := World.cells?_some h1
      rw [twoCells] at hlen hcell
      obtain ⟨x0, x1, rfl⟩ := of_pair cs' hlen
      obtain ⟨xs, n', _, hD, _, hl3, hg⟩ := DataW.trod_struct Try.underlying63 h2
      obtain ⟨y0, y1, rfl⟩ := of_pair xs hl3
      have g0 : DataW.trod enc Try.prog w 0 (fun _ => true) held n' 3 [x0] = some y0 := by simpa [oneIntD] using hg 0 _ rfl
      have g1 : DataW.trod enc Try.prog w 0 (fun _ => true) held n' 3 [x1] = some y1 := by simpa [oneIntD] using hg 1 _ rfl
      obtain ⟨i0, e0, _, f0⟩ := DataW.trod_int Try.underlying3 g0
      obtain ⟨i1, e1, _, f1⟩ := DataW.trod_int Try.underlying3 g1
      simp only [List.cons.injEq, and_true] at e0 e1
      subst e0 e1
      simp only [Lit.wf, Bool.and_eq_true, decide_eq_true_eq] at f0 f1
      have c0 := hcell 0 (by omega)
      have c1 := hcell 1 (by omega)
      exact ⟨(i0, i1), ⟨by simpa using c0, by simpa using c1⟩, f0, f1⟩
    obtain ⟨f, hf2⟩ := choose_lt (n := len) (p := fun i (q : Int × Int) => (w.cell? ((ad.add (i * 2)).add 0) = some (.int .i64 q.1) ∧ w.cell? ((ad.add (i * 2)).add 1) = some (.int .i64 q.2)) ∧ (-9223372036854775808 ≤ q.1 ∧ q.1 ≤ 9223372036854775807) ∧ (-9223372036854775808 ≤ q.2 ∧ q.2 ≤ 9223372036854775807)) hel
    have hlen : ((List.range len).map f).length = len := by simp
    refine ⟨(List.range len).map f, some ad, _, by rw [hlen], fun h0 => ?_, by rw [hlen]; exact ⟨hl, by unfold maxLen at hm; omega⟩, fun z hz => ?_⟩
    · have h0' : 0 < len := by omega
      have hc0 := (hf2 0 h0').1.1
      obtain ⟨g, off, vi⟩ := ad
      have hvi : vi = none := by simpa [Addr.add] using World.cell?_spot hc0
      subst hvi
      refine ⟨g, off, rfl, fun j hj => ?_⟩
      obtain ⟨q1, q2⟩ := (hf2 j (by omega)).1
      simp only [Addr.add_lit, Nat.add_zero] at q1 q2
      simp only [List.getElem_map, List.getElem_range]
      exact ⟨q1, q2⟩
    · rw [List.mem_map] at hz
      obtain ⟨i, hi, rfl⟩ := hz
      rw [List.mem_range] at hi
      exact (hf2 i hi).2
end
end Go.Proofs.Ytabclpffjpcejaa
