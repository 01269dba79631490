/-
  A set that comes in by value, with the bounds of its numbers and of its bulk.
-/
import Derived.Test.YtbeggckkgaoacaaOq
import Derived.Test.YtbeggckkgaoacaaBulk
import Derived.Test.YtbeggckkgaoacaaGe
namespace Go.Proofs.Ytbeggckkgaoacaa
open Go.ChangeShapes Go.WideShapes Go.ChangeAt Go.RowKit Go.Deep
set_option linter.unusedVariables false
set_option maxRecDepth 100000

theorem stCells : Try.prog.cellsOf 29 = 8 := by kernel_rfl
theorem intCells8 : Try.prog.cellsOf 3 = 1 := by kernel_rfl
theorem strCells8 : Try.prog.cellsOf 9 = 1 := by kernel_rfl
theorem of_eight {α : Type} (l : List α) (h : l.length = 8) : ∃ a b c d e f g i, l = [a, b, c, d, e, f, g, i] := by
  match l, h with
  | [a, b, c, d, e, f, g, i], _ => exact ⟨a, b, c, d, e, f, g, i, rfl⟩
theorem bulk_pos {H : Type} (d : DataW H) : 1 ≤ Rows.uptoBulk d := by
  cases d <;> (try unfold Rows.uptoBulk) <;> (try split) <;> omega
theorem bulk_count {H : Type} : ∀ E : List (DataW H), E.length ≤ Rows.uptoBulkAll E
  | [] => Nat.zero_le _
  | e :: E => by
    have h := bulk_count E
    have h1 := bulk_pos e
    show E.length + 1 ≤ Rows.uptoBulk e + Rows.uptoBulkAll E
    omega
section
variable {H : Type} {enc : TypeId × Value → H} {w : World} {held : Bool} {d : DataW H} {p : List MemPlace}
theorem open_count {A : Option Addr} {m c n : Nat} (h : DataW.trod enc Try.prog w 0 (fun _ => true) held n 27 [.slice A m c] = some (d, p)) : m ≤ Rows.uptoBulk d := by
  rcases open_slice Try.underlying27 h with ⟨hcs, _⟩ | ⟨ad, len, cap, k, k', D, Pl, hcs, _, hl, hm, hmm, hx, hE⟩
  · simp at hcs
    omega
  · simp at hcs
    obtain ⟨rfl, rfl, rfl⟩ := hcs
    simp only [Prod.mk.injEq] at hx
    rw [hx.1]
    have key := bulk_count ((List.range m).map D)
    rw [List.length_map, List.length_range] at key
    simp only [Rows.uptoBulk]
    omega
/-- How great a set can be that comes in. -/
structure ReachS (s : St) : Prop where
  l : s.ds.length * 24 ≤ reachBytes
  d : ∀ x ∈ s.ds, x.length ≤ reachBytes
theorem open_set {r0 : Reach} {b0 : Nat} {v : Value} (hv : Value.okWide Try.prog w r0 b0 29 v) (h : DataW.Trod enc Try.prog w 0 (fun _ => true) held 29 v d p) :
    ∃ (s : St) (A : Option Addr) (c : Nat), v = .agg (stC s A c) ∧ Byss w A s.ds ∧ (s.ds.length ≤ c ∧ c ≤ 9223372036854775807 ∧ (A = none → c = 0)) ∧ (-9223372036854775808 ≤ s.ex ∧ s.ex ≤ 9223372036854775807) ∧ s.ds.length ≤ Rows.uptoBulk d ∧ (Within 29 d → ReachS s) := by
  obtain ⟨cs, rfl, hsz⟩ := okWide_struct Try.underlying29 hv
  obtain ⟨l⟩ := cs
  obtain ⟨fuel, hf⟩ := h
  obtain ⟨x0, x1, x2, x3, x4, x5, x6, x7, rfl⟩ := of_eight l (hsz.trans stCells)
  obtain ⟨xs, n', _, hD, _, hl8, hh⟩ := DataW.trod_struct Try.underlying29 hf
  obtain ⟨z0, z1, z2, z3, z4, z5, z6, ⟨z7, p7⟩, rfl⟩ := of_eight xs hl8
  have k0 : DataW.trod enc Try.prog w 0 (fun _ => true) held n' 9 [x0] = some z0 := by simpa [Value.cells, strCells8] using hh 0 _ rfl
  have k1 : DataW.trod enc Try.prog w 0 (fun _ => true) held n' 3 [x1] = some z1 := by simpa [Value.cells, intCells8, strCells8] using hh 1 _ rfl
  have k2 : DataW.trod enc Try.prog w 0 (fun _ => true) held n' 3 [x2] = some z2 := by simpa [Value.cells, intCells8] using hh 2 _ rfl
  have k3 : DataW.trod enc Try.prog w 0 (fun _ => true) held n' 3 [x3] = some z3 := by simpa [Value.cells, intCells8] using hh 3 _ rfl
  have k4 : DataW.trod enc Try.prog w 0 (fun _ => true) held n' 3 [x4] = some z4 := by simpa [Value.cells, intCells8] using hh 4 _ rfl
  have k5 : DataW.trod enc Try.prog w 0 (fun _ => true) held n' 3 [x5] = some z5 := by simpa [Value.cells, intCells8] using hh 5 _ rfl
  have k6 : DataW.trod enc Try.prog w 0 (fun _ => true) held n' 9 [x6] = some z6 := by simpa [Value.cells, strCells8] using hh 6 _ rfl
  have k7 : DataW.trod enc Try.prog w 0 (fun _ => true) held n' 27 [x7] = some (z7, p7) := by simpa [Value.cells, slsCells] using hh 7 _ rfl
  obtain ⟨v0, e0, f0, _⟩ := DataW.trod_string Try.underlying9 k0
  obtain ⟨v1, e1, _, _⟩ := DataW.trod_int Try.underlying3 k1
  obtain ⟨v2, e2, _, _⟩ := DataW.trod_int Try.underlying3 k2
  obtain ⟨v3, e3, _, _⟩ := DataW.trod_int Try.underlying3 k3
  obtain ⟨v4, e4, _, _⟩ := DataW.trod_int Try.underlying3 k4
  obtain ⟨v5, e5, _, b5⟩ := DataW.trod_int Try.underlying3 k5
  obtain ⟨v6, e6, f6, _⟩ := DataW.trod_string Try.underlying9 k6
  obtain ⟨L, A, c, rfl, hB, ⟨hc1, hc2, hc3⟩, hw7⟩ := open_datas k7
  have hcnt := open_count k7
  simp only [List.cons.injEq, and_true] at e0 e1 e2 e3 e4 e5 e6
  subst e0 e1 e2 e3 e4 e5 e6
  simp only [Lit.wf, Bool.and_eq_true, decide_eq_true_eq] at b5
  simp only [Prod.mk.injEq] at hD
  refine ⟨⟨v0.data.toList, v1, v2, v3, v4, v5, v6.data.toList, L⟩, A, c, by rw [stC, stL, ← bs_list v0, ← bs_list v6], hB, ⟨hc1, hc2, hc3⟩, b5, ?_, fun hw => ?_⟩
  · rw [hD.1]
    show L.length ≤ _
    simp only [Rows.uptoBulk, List.map_cons, List.map_nil, Rows.uptoBulkAll]
    omega
  · rw [hD.1] at hw
    have w7 := hw7 (hw.part (i := 7) Try.underlying29 rfl rfl)
    exact ⟨w7.1, w7.2⟩
end
end Go.Proofs.Ytbeggckkgaoacaa
