/-
  The document's Conns; both nets as one list.
-/
import Derived.Test.YtabclpffjpcejaaNvD
import Derived.Test.YtabclpffjpcejaaNwF
namespace Go.Proofs.Ytabclpffjpcejaa
open Go.RowKit Go.Maps
set_option linter.unusedVariables false
set_option maxRecDepth 100000

def idsR (L : List Cr) : List Int := L.map fun c => (c.id : Int)
set_option maxHeartbeats 1000000 in
theorem ConnsR_any {B x last : Nat} {v : Value} {L : List Cr} (w : World) (h : RefS B x last v L w) (hl : L.length ≤ 1000) :
    Calls Try.prog 26 #[.pointer (some ⟨x, 0, none⟩)] w fun e w' => ∃ u, e = .returned u ∧ OwnI w' w.heap.size u (idsR L) ∧ Below w.heap.size w w' := by
  have c0 := h.cell.1
  have H := Lib.hid h
  obtain ⟨va, vc, rfl, hvc, hvm, -, -⟩ := h.slice
  obtain ⟨n, hn⟩ : ∃ n, n = L.length := ⟨_, rfl⟩
  rw [← hn] at c0 hvc hl
  have hvm2 : vc ≤ 9223372036854775807 := by unfold maxLen at hvm; omega
  have HN := Lib.hid hn
  clear h hn hvm
  go_enter Try.func26, Try.ntmps26
  go_wp2_with fail
  go_loopw [3, 11] (fun u3 u wr => ∃ k : Nat, u = .int .i64 k ∧ k ≤ n ∧ OwnI wr w.heap.size u3 (idsR (L.take k)) ∧ Below w.heap.size w wr) (fun _ u _ => n - (intOf u).toNat)
  case atStart => exact ⟨0, rfl, by omega, by simpa [idsR] using OwnI.nil _ _, Below.refl _ _⟩
  case round =>
    obtain ⟨k, rfl, hk, hO, hBw⟩ := hrel
    rename World => wr
    have HT := Lib.hid (H.out.below hBw)
    have HBW := Lib.hid hBw
    have hsz := hBw.size
    by_cases hlt : k < n
    · have hlt' : (k : Int) < (n : Int) := by omega
      have hkl : k < L.length := by have := HN.out; omega
      obtain ⟨g, c, hv, -, -, d0, d1, d2, -⟩ := HT.out.cells hkl
      injection hv with hv1 hv2 hv3
      subst hv1 hv3
      obtain ⟨q, hq⟩ : ∃ q, q = L[k] := ⟨_, rfl⟩
      have hsn : idsR (L.take (k + 1)) = idsR (L.take k) ++ [(q.id : Int)] := by unfold idsR; rw [List.take_add_one, List.getElem?_eq_getElem hkl, ← hq]; simp
      rw [← hq] at d0 d1 d2
      obtain ⟨A9, c9, hv9, -⟩ := row_slice (HT.out.bv q (hq ▸ List.getElem_mem hkl))
      rw [hv9] at d2
      obtain ⟨qi, qa, qv, qb⟩ := q
      dsimp only at d0 d1 d2 hsn
      generalize qb.length = ql at d2
      have HSN := Lib.hid hsn
      have hal : (idsR (L.take k)).length ≤ k := by unfold idsR; rw [List.length_map, List.length_take]; omega
      have HL2 : Hid (((idsR (L.take k)).length + 1) * 8 ≤ 140737488355328) := Lib.hid (by omega)
      obtain ⟨A3, c3, hu3, -, -⟩ := hO.nts
      obtain ⟨il, hil⟩ : ∃ il, il = (idsR (L.take k)).length := ⟨_, rfl⟩
      rw [← hil] at hu3
      subst hu3
      have HO := Lib.hid ((hO.alloc (.cells #[.int .i64 qi, .int .i64 qa, .slice A9 ql c9] 86)).alloc (.cells #[.int .i64 qi] 3))
      clear hq hBw hv2 hv9 hsn hal hil hO
      go_wp2_with (at_builtin; (with_reducible refine wpList_app_int rfl _ _ rfl w.heap.size (.slice A3 il c3) (idsR (L.take k)) rfl HO.out (wr.heap.size + 1) 1 (qi : Int) rfl ?c1 HL2.out ?c2 ?_))
      case c1 => exact (cell_of_row _ _ 0 _ _ _ (row_new _ (by simp))).trans rfl
      case c2 => simp; omega
      intro v' w3 hown3 hg3 hfr3
      have hB3 : Hid (Below w.heap.size w w3) := Lib.hid (Below.grown (Below.alloc (Below.alloc HBW.out hsz _) (by simp; omega) _) hg3 (by simp; omega) (fun g e => (HO.out.lt g e).1))
      rw [← HSN.out] at hown3
      have HO3 := Lib.hid hown3
      clear hown3 hg3 hfr3 HO
      go_wp2_with fail
      go_roundw
      case rel => exact ⟨k + 1, by go_num, by omega, HO3.out, hB3.out⟩
      case measure => simp [intOf]; omega
    · obtain rfl : k = n := by omega
      have e0 : L.take k = L := List.take_of_length_le (by have := HN.out; omega)
      rw [e0] at hO
      have HO := Lib.hid hO
      clear hBw hO
      go_wp2_with fail
      go_ret
      exact ⟨_, rfl, HO.out, HBW.out⟩

abbrev An : Type := Nat × (Int × Bs)
def aN (L : List Cn) : List An := L.map fun c => (c.id, (c.addr, c.b))
def aR (L : List Cr) : List An := L.map fun c => (c.id, (c.addr, c.b))
def setA (A : List An) (a : Int) (b : Bs) : List An := A.map fun q => if (q.1 : Int) = a then (q.1, (q.2.1, b)) else q
def dropA (A : List An) (a : Int) : List An := A.filter fun q => decide ¬ ((q.1 : Int) = a)
def RiseA (A : List An) : Prop := (A.map fun q => (q.1 : Int)).Pairwise (· < ·)
theorem aN_ids (L : List Cn) : (aN L).map (fun q => (q.1 : Int)) = idsN L := by unfold aN idsN; simp
theorem aR_ids (L : List Cr) : (aR L).map (fun q => (q.1 : Int)) = idsR L := by unfold aR idsR; simp
theorem aN_set {L : List Cn} (hu : UniqC L) {c : Cn} (hc : c ∈ L) (v : Value) (b : Bs) : aN (setC L { c with v := v, b := b }) = setA (aN L) c.id b := by
  unfold aN setC setA
  rw [List.map_map, List.map_map]
  refine List.map_congr_left fun d hd => ?_
  by_cases e : d.id = c.id
  · have := hu d hd c hc e
    subst this
    simp
  · have e' : ¬ ((d.id : Int) = (c.id : Int)) := by omega
    simp [e, e']
theorem aN_drop (L : List Cn) (a : Int) : aN (dropC L a) = dropA (aN L) a := by
  unfold aN dropC dropA
  rw [List.filter_map]
  rfl
theorem aR_set {L : List Cr} (hr : (L.map fun c => (c.id : Int)).Pairwise (· < ·)) {i : Nat} (hi : i < L.length) (v : Value) (b : Bs) : aR (L.set i { L[i] with v := v, b := b }) = setA (aR L) L[i].id b := by
  unfold aR setA
  apply List.ext_getElem?
  intro j
  rw [List.map_map, List.getElem?_map, List.getElem?_map, List.getElem?_set]
  by_cases e : i = j
  · subst e
    simp [hi]
  · rw [if_neg e]
    rcases Nat.lt_or_ge j L.length with hj | hj
    · rw [List.getElem?_eq_getElem hj]
      have : ¬ ((L[j].id : Int) = (L[i].id : Int)) := fun e2 => e (placed hr hi hj e2.symm)
      simp only [Option.map_some, Function.comp]
      rw [if_neg this]
    · rw [List.getElem?_eq_none hj]; rfl
theorem aR_drop {L : List Cr} (hr : (L.map fun c => (c.id : Int)).Pairwise (· < ·)) {i : Nat} (hi : i < L.length) : aR (L.take i ++ L.drop (i + 1)) = dropA (aR L) L[i].id := by
  have e1 : L = L.take i ++ L[i] :: L.drop (i + 1) := by rw [List.getElem_cons_drop, List.take_append_drop]
  have hne : ∀ j (hj : j < L.length), j ≠ i → ¬ ((L[j].id : Int) = (L[i].id : Int)) := fun j hj hn e => hn (placed hr hj hi e)
  obtain ⟨cc, hcc⟩ : ∃ c, c = L[i] := ⟨_, rfl⟩
  rw [← hcc] at e1 hne ⊢
  clear hcc
  unfold aR dropA
  rw [List.filter_map]
  congr 1
  conv => rhs; rw [e1]
  rw [List.filter_append, List.filter_cons]
  simp only [Function.comp, not_true_eq_false, decide_false, Bool.false_eq_true, if_false]
  congr 1
  · symm
    rw [List.filter_eq_self]
    intro c hc
    obtain ⟨j, hj, rfl⟩ := List.getElem_of_mem hc
    rw [List.length_take] at hj
    have := hne j (by omega) (by omega)
    simpa [List.getElem_take] using this
  · symm
    rw [List.filter_eq_self]
    intro c hc
    obtain ⟨j, hj, rfl⟩ := List.getElem_of_mem hc
    rw [List.length_drop] at hj
    have := hne (i + 1 + j) (by omega) (by omega)
    simpa [List.getElem_drop] using this
end Go.Proofs.Ytabclpffjpcejaa
