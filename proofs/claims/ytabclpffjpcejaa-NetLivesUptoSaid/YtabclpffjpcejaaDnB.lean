/-
  Calls of a net that come in, in a list.
-/
import Derived.Test.YtabclpffjpcejaaNvH
import Derived.Test.YtabclpffjpcejaaDnA
import Derived.Test.YtabclpffjpcejaaBulk
import Derived.Deep.MidRow
namespace Go.Proofs.Ytabclpffjpcejaa
open Go.ChangeShapes Go.WideShapes Go.ChangeAt Go.RowKit Go.Deep
set_option linter.unusedVariables false
set_option maxRecDepth 100000

instance : Inhabited DnV := ⟨⟨0, 0, Option.none, 0, []⟩⟩
theorem bulk_mem {H : Type} {x : DataW H} : ∀ {l : List (DataW H)}, x ∈ l → Rows.uptoBulk x ≤ Rows.uptoBulkAll l
  | y :: l, h => by
    show Rows.uptoBulk x ≤ Rows.uptoBulk y + Rows.uptoBulkAll l
    rcases List.mem_cons.1 h with rfl | h
    · omega
    · have := bulk_mem h; omega
section
variable {H : Type} {enc : TypeId × Value → H} {w : World} {held : Bool} {d : DataW H} {p : List MemPlace}
theorem open_dns {r0 : Reach} {b0 : Nat} {v : Value} (hv : Value.okWide Try.prog w r0 b0 22 v) (h : DataW.Trod enc Try.prog w 0 (fun _ => true) held 22 v d p) :
    ∃ (l : List DnV) (A : Option Addr) (c : Nat), v = .slice A l.length c ∧ Dns w A l ∧ (l.length ≤ c ∧ c ≤ 9223372036854775807) ∧ ∀ x ∈ l, I64n x.n ∧ x.b.length ≤ Rows.uptoBulk d := by
  obtain ⟨a, len, cap, rfl⟩ := okWide_slice Try.underlying22 hv
  obtain ⟨fuel, hf⟩ := h
  rcases open_slice Try.underlying22 hf with ⟨hcs, _⟩ | ⟨ad, l, c, m, k, D, Pl, hcs, _, hl, hm, hmm, hx, hE⟩
  · simp [Value.cells] at hcs
    obtain ⟨rfl, rfl, rfl⟩ := hcs
    exact ⟨[], none, 0, rfl, fun h => absurd h (by simp), by simp, fun z hz => by cases hz⟩
  · simp [Value.cells] at hcs
    obtain ⟨rfl, rfl, rfl⟩ := hcs
    simp only [if_true] at hmm
    subst hmm
    have hel : ∀ i, i < len → ∃ q : DnV, (w.cell? ((ad.add (i * 3)).add 0) = some (.int .i64 q.op) ∧ w.cell? ((ad.add (i * 3)).add 1) = some (.int .i64 q.n) ∧ w.cell? ((ad.add (i * 3)).add 2) = some (.slice q.a q.b.length q.c) ∧ Bys w q.a q.b ∧ (q.a = none → q.c = 0)) ∧ I64n q.n ∧ q.b.length ≤ Rows.uptoBulk (D i) := by
      intro i hi
      obtain ⟨cs', h1, h2⟩ := hE i (by omega)
      obtain ⟨_, hlen, hcell⟩ := World.cells?_some h1
      rw [dnCells] at hlen hcell
      obtain ⟨x0, x1, x2, rfl⟩ := of_three cs' hlen
      obtain ⟨xs, n', _, hDD, _, hl3, hg⟩ := DataW.trod_struct Try.underlying31 h2
      obtain ⟨y0, y1, y2, rfl⟩ := of_three xs hl3
      have g0 : DataW.trod enc Try.prog w 0 (fun _ => true) held n' 3 [x0] = some y0 := by simpa [dnInt] using hg 0 _ rfl
      have g1 : DataW.trod enc Try.prog w 0 (fun _ => true) held n' 3 [x1] = some y1 := by simpa [dnInt] using hg 1 _ rfl
      have g2 : DataW.trod enc Try.prog w 0 (fun _ => true) held n' 29 [x2] = some y2 := by simpa [dnInt, slCells] using hg 2 _ rfl
      obtain ⟨i0, e0, _, f0⟩ := DataW.trod_int Try.underlying3 g0
      obtain ⟨i1, e1, _, f1⟩ := DataW.trod_int Try.underlying3 g1
      simp only [List.cons.injEq, and_true] at e0 e1
      subst e0 e1
      simp only [Lit.wf, Bool.and_eq_true, decide_eq_true_eq] at f0 f1
      obtain ⟨d2, p2⟩ := y2
      obtain ⟨yb, ya, yc, rfl, ⟨hb1, -, -, hb4⟩, -⟩ := open_data g2
      have hbk : yb.length ≤ Rows.uptoBulk d2 := open_bulk (d := d2) (p := p2) ⟨n', by simpa [Value.cells] using g2⟩
      have hDi : D i = .agg [y0.1, y1.1, d2] := by simpa using congrArg Prod.fst hDD
      have c0 := hcell 0 (by omega)
      have c1 := hcell 1 (by omega)
      have c2 := hcell 2 (by omega)
      refine ⟨⟨i0, i1, ya, yc, yb⟩, ⟨by simpa using c0, by simpa using c1, by simpa using c2, hb1, hb4⟩, f1, ?_⟩
      rw [hDi]
      have hb2 := bulk_mem (H := H) (x := d2) (l := [y0.1, y1.1, d2]) (by simp)
      show yb.length ≤ Rows.uptoBulkAll [y0.1, y1.1, d2] + 1
      omega
    obtain ⟨f, hf2⟩ := choose_lt (n := len) (p := fun i (q : DnV) => (w.cell? ((ad.add (i * 3)).add 0) = some (.int .i64 q.op) ∧ w.cell? ((ad.add (i * 3)).add 1) = some (.int .i64 q.n) ∧ w.cell? ((ad.add (i * 3)).add 2) = some (.slice q.a q.b.length q.c) ∧ Bys w q.a q.b ∧ (q.a = none → q.c = 0)) ∧ I64n q.n ∧ q.b.length ≤ Rows.uptoBulk (D i)) hel
    have hlen : ((List.range len).map f).length = len := by simp
    simp only [Prod.mk.injEq] at hx
    refine ⟨(List.range len).map f, some ad, _, by rw [hlen], fun h0 => ?_, by rw [hlen]; exact ⟨hl, by unfold maxLen at hm; omega⟩, fun z hz => ?_⟩
    · have h0' : 0 < len := by omega
      have hc0 := (hf2 0 h0').1.1
      obtain ⟨g, off, vi⟩ := ad
      have hvi : vi = none := by simpa [Addr.add] using World.cell?_spot hc0
      subst hvi
      refine ⟨g, off, rfl, fun j hj => ?_⟩
      obtain ⟨q1, q2, q3, q4, q5⟩ := (hf2 j (by omega)).1
      simp only [Addr.add_lit, Nat.add_zero] at q1 q2 q3
      simp only [List.getElem_map, List.getElem_range]
      exact ⟨q1, q2, q3, q4, q5⟩
    · rw [List.mem_map] at hz
      obtain ⟨i, hi, rfl⟩ := hz
      rw [List.mem_range] at hi
      refine ⟨(hf2 i hi).2.1, Nat.le_trans (hf2 i hi).2.2 ?_⟩
      rw [hx.1]
      have := bulk_mem (H := H) (x := D i) (l := (List.range len).map D) (by rw [List.mem_map]; exact ⟨i, by rw [List.mem_range]; exact hi, rfl⟩)
      simp only [Rows.uptoBulk]
      omega
end
end Go.Proofs.Ytabclpffjpcejaa
