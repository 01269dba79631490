/-
  Records copied (the statements' own RRs).
-/
import Derived.Test.YtknpkifhkefikaaDoorWmF
namespace Go.Proofs.YtknpkifhkefikaaDoor
open Go.RowKit
set_option linter.unusedVariables false
set_option maxRecDepth 100000

set_option maxHeartbeats 1000000 in
theorem CloneT_any (A : Option Addr) (l : Bs) (n c : Nat) (w : World) (hS : Bys w A l) (hn : n = l.length) (hl : n ≤ 140737488351232) (hin : ∀ p, A = some p → 0 < n → p.block < w.heap.size) :
    Calls Tryd.prog 19 #[.slice A n c] w fun e w' => ∃ v', e = .returned v' ∧ w'.ownsRow w.heap.size 5 1 v' n (l.map byteV) ∧ (A = none → v' = .slice none 0 0) ∧ Below w.heap.size w w' := by
  have q : ∀ (w : World) (a : Option Addr) (n c n' c' : Nat), (binOp .eql 29 (.slice a n c) (.slice none n' c')).run Tryd.prog w = .ok (.bool a.isNone) w := fun w a n c n' c' => Lib.run_eql_slice_nil w _ _ a n c n' c' Tryd.underlying29
  cases A with
  | none =>
    have hl0 : l = [] := by
      rcases l with _ | ⟨b, l⟩
      · rfl
      · obtain ⟨g, off, h, _⟩ := hS (by simp)
        cases h
    subst hl0
    clear hS hin
    have HN := Lib.hid hn
    go_enter Tryd.func19, Tryd.ntmps19
    go_wp2_with fail
    go_ret
    exact ⟨_, rfl, by rw [hn]; exact World.ownsRow_nil _ _ _ _, fun _ => rfl, Below.refl _ _⟩
  | some p =>
    have hcells : ∀ (o : Obj) j u, (l.map byteV)[j]? = some u → (w.alloc o).cell? (p.add j) = some u := by
      intro o j u hj
      rw [List.getElem?_map] at hj
      cases hlj : l[j]? with
      | none => rw [hlj] at hj; cases hj
      | some b =>
        rw [hlj] at hj
        injection hj with hj
        obtain ⟨hjl, hjb⟩ := List.getElem?_eq_some_iff.1 hlj
        obtain ⟨g, off, hp, hcs⟩ := hS (by omega)
        injection hp with hp
        have hg := hin p rfl (by omega)
        subst hp
        have hadd : (⟨g, off, none⟩ : Addr).add j = ⟨g, off + j, none⟩ := by unfold Addr.add; split <;> simp_all
        rw [hadd, Below.cell (p := ⟨g, off + j, none⟩) (B := w.heap.size) ((Below.refl _ w).alloc (Nat.le_refl _) _) hg, hcs j hjl, hjb, ← hj]
        rfl
    have HC := Lib.hid hcells
    clear hcells hS hin
    obtain ⟨xs, hxs⟩ : ∃ xs, l.map byteV = xs := ⟨_, rfl⟩
    rw [hxs] at HC
    have HX := Lib.hid hxs
    clear hxs
    have hxl : xs.length = n * 1 := by rw [← HX.out]; simp; omega
    have h1c : ∀ u ∈ xs, u.oneCell' = true := fun u hu => by
      rw [← HX.out] at hu
      obtain ⟨b, _, rfl⟩ := List.mem_map.1 hu
      rfl
    have H1 := Lib.hid h1c
    have HXL := Lib.hid hxl
    obtain ⟨i0, hi, hz0, hz1, hz2⟩ := info_parts info_u8
    clear hxl h1c hn
    go_enter Tryd.func19, Tryd.ntmps19
    go_wp2_with (at_builtin; refine wpList_append_own _ rfl _ _ 29 rfl w.heap.size 5 i0 (.int .u8 0) 1 1 Tryd.underlying29 hi hz0 hz1 hz2 rfl (by decide) _ _ _ rfl (World.ownsRow_made w #[] 0 (Nat.le_refl _) (Nat.zero_le _) rfl) p n c xs rfl HXL.out (HC.out _) H1.out (by unfold maxLen; omega) (by omega) (by simp) ?_)
    intro v' w1 hown hgrow _
    have ho : w1.ownsRow w.heap.size 5 1 v' n (l.map byteV) := by rw [HX.out]; simpa using hown
    have hb : Below w.heap.size w w1 := ((Below.refl _ w).alloc (Nat.le_refl _) _).grown hgrow (by simp) (by intro k hk; simp [Value.ownBlock] at hk; omega)
    clear hown hgrow
    go_wp2_with fail
    go_ret
    exact ⟨v', rfl, ho, (fun h => by cases h), hb⟩

/-- Data that lie in a block of bytes of their own. -/
structure DatT (w : World) (a : Option Addr) (c : Nat) (d : Bs) : Prop where
  dat : Dat w a c d
  own : 0 < d.length → ∃ g off cs, a = some ⟨g, off, none⟩ ∧ w.heap[g]? = some (.cells cs 5 (0, 0))
theorem DatT.keptT {w w' : World} {a : Option Addr} {c : Nat} {d : Bs} {r : Option Nat} {T : TypeId} (hT : T ≠ 5) (h : DatT w a c d) (hg : w.grownBy w' r) (hr : ∀ g, r = some g → ∃ cs fz, w.heap[g]? = some (.cells cs T fz)) : DatT w' a c d := by
  have hb : ∀ g off cs, a = some (⟨g, off, none⟩ : Addr) → w.heap[g]? = some (.cells cs 5 (0, 0)) → w'.heap[g]? = w.heap[g]? := fun g off cs _ hcs => by
    refine hg.block g (Array.getElem?_eq_some_iff.1 hcs).1 (fun he => ?_)
    obtain ⟨cs', fz, h2⟩ := hr g he.symm
    rw [hcs] at h2
    injection h2 with h2
    injection h2 with _ h2 _
    exact hT h2.symm
  refine ⟨⟨fun hn => ?_, h.dat.le, h.dat.max, h.dat.nil⟩, fun hn => ?_⟩
  · obtain ⟨g, off, cs, ha, hcs⟩ := h.own hn
    obtain ⟨g2, off2, ha2, hc⟩ := h.dat.bys hn
    rw [ha] at ha2
    injection ha2 with ha2
    injection ha2 with e1 e2
    subst e1 e2
    exact ⟨g, off, ha, fun j hj => by rw [World.cell?_of_block (a := ⟨g, off + j, none⟩) (hb g off cs ha hcs)]; exact hc j hj⟩
  · obtain ⟨g, off, cs, ha, hcs⟩ := h.own hn
    exact ⟨g, off, cs, ha, (hb g off cs ha hcs).trans hcs⟩
theorem DatT.kept {w w' : World} {a : Option Addr} {c : Nat} {d : Bs} {r : Option Nat} (h : DatT w a c d) (hg : w.grownBy w' r) (hr : ∀ g, r = some g → ∃ cs fz, w.heap[g]? = some (.cells cs 72 fz)) : DatT w' a c d := h.keptT (by decide) hg hr
theorem DatT.below {w w' : World} {a : Option Addr} {c : Nat} {d : Bs} (h : DatT w a c d) (hB : Below w.heap.size w w') : DatT w' a c d :=
  h.kept (r := none) ⟨hB.os, hB.tape, hB.output, hB.size, fun k hk _ => hB.block k hk⟩ (fun g h => by cases h)
theorem DatT.of {w : World} {base n : Nat} {A : Option Addr} {c : Nat} {d : Bs} (h : w.ownsRow base 5 1 (.slice A n c) n (d.map byteV)) : n = d.length ∧ DatT w A c d := by
  have hl : d.length = n := by have := h.1; simpa using this
  refine ⟨hl.symm, ?_⟩
  have ho := OwnB.of (l := d) h rfl
  obtain ⟨A', c', hv, hB, hle, hm⟩ := ho.bys
  injection hv with e1 e2 e3
  subst e1 e3
  rcases h.2 with ⟨hv, h0⟩ | ⟨g, cap, cur, hv, hb, hh, hc, hm2, hsz, ht⟩
  · injection hv with e1 e2 e3
    exact ⟨⟨hB, hle, by unfold maxLen at hm; omega, fun _ => e3⟩, fun hn => by omega⟩
  · injection hv with e1 e2 e3
    exact ⟨⟨hB, hle, by unfold maxLen at hm; omega, fun hA => by rw [e1] at hA; cases hA⟩, fun _ => ⟨g, 0, cur, e1, hh⟩⟩

/-- Rows of records, laid end to end. -/
def Rows5 (w : World) (xs : List Value) (M : List Rr) : Prop := xs.length = M.length * 5 ∧ ∀ j (h : j < M.length), ∃ a c, DatT w a c (M[j]).d ∧ ∀ i, i < 5 → xs[j * 5 + i]? = (rrL M[j] a c)[i]?
theorem Rows5.kept {w w' : World} {xs : List Value} {M : List Rr} {r : Option Nat} (h : Rows5 w xs M) (hg : w.grownBy w' r) (hr : ∀ g, r = some g → ∃ cs fz, w.heap[g]? = some (.cells cs 72 fz)) : Rows5 w' xs M :=
  ⟨h.1, fun j hj => by
    obtain ⟨a, c, h1, h2⟩ := h.2 j hj
    exact ⟨a, c, h1.kept hg hr, h2⟩⟩
theorem Rows5.below {w w' : World} {xs : List Value} {M : List Rr} (h : Rows5 w xs M) (hB : Below w.heap.size w w') : Rows5 w' xs M :=
  h.kept (r := none) ⟨hB.os, hB.tape, hB.output, hB.size, fun k hk _ => hB.block k hk⟩ (fun g h => by cases h)
theorem Rows5.snoc {w : World} {xs : List Value} {M : List Rr} {x : Rr} {a : Option Addr} {c : Nat} (h : Rows5 w xs M) (hd : DatT w a c x.d) : Rows5 w (xs ++ rrL x a c) (M ++ [x]) := by
  refine ⟨by rw [List.length_append, List.length_append, h.1]; simp [rrL, Nat.add_mul], fun j hj => ?_⟩
  rw [List.length_append] at hj
  by_cases hjl : j < M.length
  · obtain ⟨a', c', h1, h2⟩ := h.2 j hjl
    rw [List.getElem_append_left hjl]
    refine ⟨a', c', h1, fun i hi => ?_⟩
    rw [List.getElem?_append_left (by rw [h.1]; omega)]
    exact h2 i hi
  · have : j = M.length := by simp at hj; omega
    subst this
    rw [List.getElem_append_right (Nat.le_refl _)]
    simp only [Nat.sub_self, List.getElem_cons_zero]
    refine ⟨a, c, hd, fun i hi => ?_⟩
    rw [List.getElem?_append_right (by rw [h.1]; omega), h.1]
    congr 1
    omega
/-- A slice of records, of questions, in a block of its own; with data in blocks of their own. -/
def RsT (w : World) (A : Option Addr) (L : List Rr) : Prop := 0 < L.length → ∃ g off cs, A = some ⟨g, off, none⟩ ∧ w.heap[g]? = some (.cells cs 72 (0, 0)) ∧ ∀ j (h : j < L.length), ∃ a c, DatT w a c (L[j]).d ∧ w.rangeAt g (off + j * 5) (rrL L[j] a c)
theorem RsT.rs {w : World} {A : Option Addr} {L : List Rr} (h : RsT w A L) : Rs w A L := fun hn => by
  obtain ⟨g, off, cs, h1, _, h3⟩ := h hn
  exact ⟨g, off, h1, fun j hj => by obtain ⟨a, c, h4, h5⟩ := h3 j hj; exact ⟨a, c, h4.dat, h5⟩⟩
theorem QsT.qs {w : World} {A : Option Addr} {L : List Qu} (h : QsT w A L) : Qs w A L := fun hn => by
  obtain ⟨g, off, cs, h1, _, h3⟩ := h hn
  exact ⟨g, off, h1, h3⟩
theorem kept_other {w w' : World} {r : Option Nat} {T U : TypeId} {g : Nat} {cs : Array Value} (hT : T ≠ U) (hg : w.grownBy w' r) (hr : ∀ g, r = some g → ∃ cs fz, w.heap[g]? = some (.cells cs T fz)) (h : w.heap[g]? = some (.cells cs U (0, 0))) : w'.heap[g]? = w.heap[g]? := by
  refine hg.block g (Array.getElem?_eq_some_iff.1 h).1 (fun he => ?_)
  obtain ⟨cs', fz, h2⟩ := hr g he.symm
  rw [h] at h2
  injection h2 with h2
  injection h2 with _ h2 _
  exact hT h2.symm
theorem range_block {w w' : World} {g o : Nat} {cs : List Value} (h : w.rangeAt g o cs) (hb : w'.heap[g]? = w.heap[g]?) : w'.rangeAt g o cs := fun j v hv => (World.cell?_of_block (a := ⟨g, o + j, none⟩) hb).trans (h j v hv)
theorem RsT.keptT {w w' : World} {A : Option Addr} {L : List Rr} {r : Option Nat} {T : TypeId} (hT : T ≠ 5) (hT2 : T ≠ 72) (h : RsT w A L) (hg : w.grownBy w' r) (hr : ∀ g, r = some g → ∃ cs fz, w.heap[g]? = some (.cells cs T fz)) : RsT w' A L := fun hn => by
  obtain ⟨g, off, cs, h1, h2, h3⟩ := h hn
  have hb := kept_other hT2 hg hr h2
  exact ⟨g, off, cs, h1, hb.trans h2, fun j hj => by obtain ⟨a, c, h4, h5⟩ := h3 j hj; exact ⟨a, c, h4.keptT hT hg hr, range_block h5 hb⟩⟩
theorem QsT.keptT {w w' : World} {A : Option Addr} {L : List Qu} {r : Option Nat} {T : TypeId} (hT2 : T ≠ 44) (h : QsT w A L) (hg : w.grownBy w' r) (hr : ∀ g, r = some g → ∃ cs fz, w.heap[g]? = some (.cells cs T fz)) : QsT w' A L := fun hn => by
  obtain ⟨g, off, cs, h1, h2, h3⟩ := h hn
  have hb := kept_other hT2 hg hr h2
  exact ⟨g, off, cs, h1, hb.trans h2, fun j hj => range_block (h3 j hj) hb⟩
theorem RsT.below {w w' : World} {A : Option Addr} {L : List Rr} (h : RsT w A L) (hB : Below w.heap.size w w') : RsT w' A L := h.keptT (T := 3) (by decide) (by decide) (grown_of_below hB none) (fun g h => by cases h)
theorem QsT.below {w w' : World} {A : Option Addr} {L : List Qu} (h : QsT w A L) (hB : Below w.heap.size w w') : QsT w' A L := h.keptT (T := 3) (by decide) (grown_of_below hB none) (fun g h => by cases h)

/-- Such rows, as a slice of records. -/
theorem Rows5.rs {w : World} {base n : Nat} {A : Option Addr} {c : Nat} {xs : List Value} {M : List Rr} (ho : w.ownsRow base 72 5 (.slice A n c) n xs) (h : Rows5 w xs M) : n = M.length ∧ RsT w A M ∧ n ≤ c ∧ c ≤ 9223372036854775807 := by
  have hl : n = M.length := by have := ho.1; rw [h.1] at this; omega
  rcases ho.2 with ⟨hv, h0⟩ | ⟨g, cap, cur, hv, hb, hh, hc, hm2, hsz, ht⟩
  · injection hv with e1 e2 e3
    exact ⟨hl, fun hn => by omega, by omega, by omega⟩
  · injection hv with e1 e2 e3
    refine ⟨hl, fun hn => ⟨g, 0, cur, e1, hh, fun j hj => ?_⟩, by omega, by unfold maxLen at hm2; omega⟩
    obtain ⟨a, c', h1, h2⟩ := h.2 j hj
    refine ⟨a, c', h1, fun i v hi => ?_⟩
    obtain ⟨hil, _⟩ := List.getElem?_eq_some_iff.1 hi
    have hi5 : i < 5 := hil
    have h3 := h2 i hi5
    rw [cell_of_row _ g (0 + j * 5 + i) _ _ _ hh]
    rw [hi, ← ht, List.getElem?_take_of_lt (by rw [hl]; have := Nat.mul_le_mul_right 5 (show j + 1 ≤ M.length by omega); omega)] at h3
    rw [Nat.zero_add]
    simpa using h3
end Go.Proofs.YtknpkifhkefikaaDoor
