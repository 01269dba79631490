/-
  The landed groups of records: one more record in its group.
-/
import Derived.Test.YtbeggckkgaoacaaGrC
import Derived.Test.YtbeggckkgaoacaaLg
import Derived.Test.YtbeggckkgaoacaaOrC
namespace Go.Proofs.Ytbeggckkgaoacaa
open Go.RowKit
set_option linter.unusedVariables false
set_option maxRecDepth 100000

theorem grp_step {w W : World} {B g6 c6 m i b8 N mb : Nat} {vs : List Value} {M : List (List Rr)} {F : List Rr} {x : Rr} {a1 : Option Addr} {d1 : Nat} (ty : TypeId) (hB : Below w.heap.size w W) (hBB : B = w.heap.size)
    (o6 : W.ownsRow B 22 1 (.slice (some ⟨g6, 0, none⟩) m c6) m vs) (hG : Grp w W B vs M) (hi : i < M.length) (hm : m = M.length) (hP : PlM W mb N F) (r8 : W.heap[b8]? = some (.cells (rrC x a1 d1) 39 (0, 0))) (hd : Dat w a1 d1 x.d) (hlen : (M[i].length + 1) * 64 ≤ 140737488355328) :
    ∃ Ai mi ci A' m' c' W5, W.cell? ⟨g6, i, none⟩ = some (.slice Ai mi ci) ∧ ((W.alloc (.cells (rrC x a1 d1) 39)).drew).cell? ⟨g6, i, none⟩ = some (.slice Ai mi ci) ∧
      appRr (.slice Ai mi ci) (.slice (some ⟨W.heap.size, 0, none⟩) 1 1) ty ((W.alloc (.cells (rrC x a1 d1) 39)).drew) = .ok (.value (.slice A' m' c')) W5 ∧
      W5.cell? ⟨g6, i, none⟩ = some (.slice Ai mi ci) ∧ W5.frozen? ⟨g6, i, none⟩ = false ∧
      (W5.setCell ⟨g6, i, none⟩ (.slice A' m' c')).ownsRow B 22 1 (.slice (some ⟨g6, 0, none⟩) m c6) m (vs.set i (.slice A' m' c')) ∧
      Grp w (W5.setCell ⟨g6, i, none⟩ (.slice A' m' c')) B (vs.set i (.slice A' m' c')) (M.set i (M[i] ++ [x])) ∧ PlM (W5.setCell ⟨g6, i, none⟩ (.slice A' m' c')) mb N F ∧ Below w.heap.size w (W5.setCell ⟨g6, i, none⟩ (.slice A' m' c')) := by
  subst hBB
  obtain ⟨vi, hvi, og⟩ := hG.get hi
  obtain ⟨Ai, ci, rfl, -, -, -⟩ := og.form hB
  obtain ⟨hb6, hl6, -, -⟩ := rowL_lt o6
  have him : i < m := by omega
  have c1 := (rowL_cell o6 him).1.trans hvi
  have b4 : Below W.heap.size W ((W.alloc (.cells (rrC x a1 d1) 39)).drew) := Below.drew (Below.alloc (Below.refl _ _) (Nat.le_refl _) _)
  have hs4 : ((W.alloc (.cells (rrC x a1 d1) 39)).drew).heap.size = W.heap.size + 1 := by show (W.alloc _).heap.size = _; simp
  have hnew : ((W.alloc (.cells (rrC x a1 d1) 39)).drew).heap[W.heap.size]? = some (.cells (rrC x a1 d1) 39 (0, 0)) := row_new _ rfl
  have o4 := ownsRow_below o6 b4 (Nat.le_refl _)
  have G4 := hG.below b4
  have P4 := hP.below b4
  have og4 := og.keptE (grown_of_below b4 none) (elsewhere_none _ _)
  have c2 := cell_on c1 b4
  generalize hW4 : (W.alloc (.cells (rrC x a1 d1) 39)).drew = W4 at *
  obtain ⟨v', W5, ap, o5, g5, loc⟩ := run_appG ty og4 ⟨W.heap.size, 0, none⟩ x a1 d1 hd (fun j u hj => by
    rw [Addr.add_lit, Nat.zero_add, cell_of_row _ _ j _ _ _ hnew, rrC, List.getElem?_toArray]
    exact hj) hlen (by have := hB.size; omega)
  obtain ⟨A', c', rfl, -, -, -⟩ := o5.form (Below.grown (Below.trans hB (b4.mono hB.size)) g5 (by have := hB.size; omega) (fun k hk => (og4.lt k hk).1))
  have B5 : Below w.heap.size w W5 := Below.grown (Below.trans hB (b4.mono hB.size)) g5 (by have := hB.size; omega) (fun k hk => (og4.lt k hk).1)
  have e5 : Elsewhere W4 22 (Value.slice Ai (M[i]).length ci).ownBlock := fun g hg cs fz hh => by
    obtain ⟨cs', fz', h2⟩ := og4.kind g hg
    rw [hh] at h2
    injection h2 with h2
    injection h2 with _ h2 _
    exact absurd h2 (by decide)
  have o6' := own_keptE o4 g5 e5
  have c5 := (rowL_cell o6' him).1.trans hvi
  have f5 := (rowL_cell o6' him).2
  have gs : W5.grownBy (W5.setCell ⟨g6, i, none⟩ (.slice A' (M[i] ++ [x]).length c')) (some g6) := by
    have := grownBy_setCells g6 [.slice A' (M[i] ++ [x]).length c'] i W5
    simpa [World.setCells] using this
  have e6 : Elsewhere W5 39 (some g6) := elsewhere_own o6' (by decide)
  have G5 := G4.grew hi hvi g5 o5 (loc.imp id (fun h => ⟨_, h, Nat.le_refl _⟩))
  have k5 : ∀ g, (Value.slice Ai (M[i]).length ci).ownBlock = some g → ∃ cs t fz, W4.heap[g]? = some (.cells cs t fz) := fun g hg => by
    obtain ⟨cs, fz, h⟩ := og4.kind g hg
    exact ⟨cs, _, fz, h⟩
  have P5 := P4.kept g5 k5
  have P6 := P5.kept gs (fun g hg => by
    injection hg with hg
    subst hg
    obtain ⟨cs, fz, h⟩ := own_cells o6' g6 rfl
    exact ⟨cs, _, fz, h⟩)
  exact ⟨Ai, _, ci, A', _, c', W5, c1, c2, ap, c5, f5, rowL_set o6' i _, G5.keptE gs e6, P6, Below.setCell B5 hb6 _⟩
end Go.Proofs.Ytbeggckkgaoacaa
