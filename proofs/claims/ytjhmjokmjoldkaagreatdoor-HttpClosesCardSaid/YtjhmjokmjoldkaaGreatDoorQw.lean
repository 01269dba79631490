/-
  A slice of bytes in a row of the call's own that is written: cells, stores; bytes.Clone as such a row.
-/
import Derived.Test.YtjhmjokmjoldkaaGreatDoorQb
import Derived.Test.YtjhmjokmjoldkaaGreatDoorPlB
namespace Go.Proofs.YtjhmjokmjoldkaaGreatDoor
open Go.RowKit
set_option linter.unusedVariables false
set_option maxRecDepth 100000

/-- Block g is a plain row of bytes that begins with L. -/
def RowB (w : World) (g : Nat) (L : Bs) : Prop := ∃ cur, w.heap[g]? = some (.cells cur 5 (0, 0)) ∧ ∀ j (h : j < L.length), cur[j]? = some (byteV L[j])
theorem RowB.lt {w : World} {g : Nat} {L : Bs} (h : RowB w g L) : g < w.heap.size := by
  obtain ⟨cur, hg, _⟩ := h
  exact (Array.getElem?_eq_some_iff.1 hg).1
theorem RowB.cell {w : World} {g : Nat} {L : Bs} (h : RowB w g L) (j : Nat) (hj : j < L.length) : w.cell? ⟨g, j, none⟩ = some (.int .u8 (L[j]).toNat) := by
  obtain ⟨cur, hg, hc⟩ := h
  exact (cell_of_row _ _ _ _ _ _ hg).trans (hc j hj)
theorem RowB.frozen {w : World} {g : Nat} {L : Bs} (h : RowB w g L) (j : Nat) : w.frozen? ⟨g, j, none⟩ = false := by
  obtain ⟨cur, hg, hc⟩ := h
  exact frozen_of_row _ _ _ _ _ hg
theorem RowB.bys {w : World} {g : Nat} {L : Bs} (h : RowB w g L) : Bys w (some ⟨g, 0, none⟩) L := fun _ => ⟨g, 0, rfl, fun j hj => by rw [Nat.zero_add]; exact h.cell j hj⟩
theorem RowB.drew {w : World} {g : Nat} {L : Bs} (h : RowB w g L) : RowB w.drew g L := h
theorem RowB.set {w : World} {g : Nat} {L : Bs} (h : RowB w g L) (j : Nat) (x : UInt8) : RowB (w.setCell ⟨g, j, none⟩ (.int .u8 x.toNat)) g (L.set j x) := by
  obtain ⟨cur, hg, hc⟩ := h
  refine ⟨_, row_set _ hg, fun k hk => ?_⟩
  rw [List.length_set] at hk
  have := hc k hk
  by_cases e : j = k
  · subst e
    have hs : j < cur.size := (Array.getElem?_eq_some_iff.1 this).1
    simp [hs, byteV]
  · rw [Array.getElem?_setIfInBounds_ne e, this, List.getElem_set_ne e]
theorem RowB.block {w w1 : World} {g : Nat} {L : Bs} (h : RowB w g L) (e : w1.heap[g]? = w.heap[g]?) : RowB w1 g L := by
  obtain ⟨cur, hg, hc⟩ := h
  exact ⟨cur, e.trans hg, hc⟩
theorem RowB.of {w : World} {base n : Nat} {v : Value} {l : Bs} {xs : List Value} (h : w.ownsRow base 5 1 v n xs) (hx : xs = l.map byteV) : n = l.length ∧ ((v = .slice none 0 0 ∧ l = []) ∨ ∃ g cap, v = .slice (some ⟨g, 0, none⟩) l.length cap ∧ base ≤ g ∧ l.length ≤ cap ∧ cap ≤ maxLen ∧ RowB w g l) := by
  subst hx
  have hn : l.length = n := by have := h.1; simpa using this
  refine ⟨hn.symm, ?_⟩
  rcases h.2 with ⟨hv, h0⟩ | ⟨g, cap, cur, hv, hb, hh, hc, hm, hsz, ht⟩
  · exact .inl ⟨hv, List.eq_nil_of_length_eq_zero (by omega)⟩
  · rw [Nat.mul_one] at hsz ht
    refine .inr ⟨g, cap, by rw [hv, hn], hb, by omega, hm, cur, hh, fun j hj => ?_⟩
    have e := congrArg (fun x => x[j]?) ht
    simp [hj] at e
    rw [List.getElem?_take_of_lt (by omega)] at e
    simpa using e

/-- Nil just of nil. -/
def CV (v : Value) (A : Option Addr) : Prop := v = .slice none 0 0 ↔ A = none
theorem CV_nil : CV (.slice none 0 0) none := ⟨fun _ => rfl, fun _ => rfl⟩
set_option maxHeartbeats 1000000 in
/-- bytes.Clone, its answer as a plain row. -/
theorem CloneW_any (A : Option Addr) (l : Bs) (n c : Nat) (w : World) (hS : Bys w A l) (hn : n = l.length) (hl : n ≤ 140737488351232) (hin : ∀ p, A = some p → 0 < n → p.block < w.heap.size) :
    Calls Tryz.prog 5 #[.slice A n c] w fun e w' => ∃ v', e = .returned v' ∧ w'.ownsRow w.heap.size 5 1 v' n (l.map byteV) ∧ Below w.heap.size w w' ∧ CV v' A := by
  have q : ∀ (w : World) (a : Option Addr) (n c n' c' : Nat), (binOp .eql 22 (.slice a n c) (.slice none n' c')).run Tryz.prog w = .ok (.bool a.isNone) w := fun w a n c n' c' => Lib.run_eql_slice_nil w _ _ a n c n' c' Tryz.underlying22
  cases A with
  | none =>
    have hl0 : l = [] := by
      rcases l with _ | ⟨b, l⟩
      · rfl
      · obtain ⟨g, off, h, _⟩ := hS (by simp)
        cases h
    subst hl0
    obtain rfl : n = 0 := hn
    clear hS hin hl
    go_enter Tryz.func5, Tryz.ntmps5
    go_wp2_with fail
    go_ret
    exact ⟨_, rfl, World.ownsRow_nil _ _ _ _, Below.refl _ _, CV_nil⟩
  | some p =>
    have hcells : ∀ (o : Obj) j u, (l.map byteV)[j]? = some u → (w.alloc o).cell? (p.add j) = some u := by
      intro o j u hj
      rw [List.getElem?_map] at hj
      cases hlj : l[j]? with
      | none => rw [hlj] at hj; cases hj
      | some b =>
        rw [hlj] at hj
        injection hj with hj
        obtain ⟨hjl, hjb⟩ := List.getElem?_eq_some_iff.1 hlj
        obtain ⟨g, off, hp, hcs⟩ := hS (by omega)
        injection hp with hp
        have hg := hin p rfl (by omega)
        subst hp
        have hadd : (⟨g, off, none⟩ : Addr).add j = ⟨g, off + j, none⟩ := by unfold Addr.add; split <;> simp_all
        rw [hadd, Below.cell (p := ⟨g, off + j, none⟩) (B := w.heap.size) ((Below.refl _ w).alloc (Nat.le_refl _) _) hg, hcs j hjl, hjb, ← hj]
        rfl
    have HC := Lib.hid hcells
    clear hcells hS hin
    obtain ⟨xs, hxs⟩ : ∃ xs, l.map byteV = xs := ⟨_, rfl⟩
    rw [hxs] at HC
    have HX := Lib.hid hxs
    clear hxs
    have hxl : xs.length = n * 1 := by rw [← HX.out]; simp; omega
    have h1c : ∀ u ∈ xs, u.oneCell' = true := fun u hu => by
      rw [← HX.out] at hu
      obtain ⟨b, _, rfl⟩ := List.mem_map.1 hu
      rfl
    have H1 := Lib.hid h1c
    have HXL := Lib.hid hxl
    obtain ⟨i0, hi, hz0, hz1, hz2⟩ := info_parts info_u8
    clear hxl h1c hn
    go_enter Tryz.func5, Tryz.ntmps5
    go_wp2_with (at_builtin; refine wpList_append_own _ rfl _ _ 22 rfl w.heap.size 5 i0 (.int .u8 0) 1 1 Tryz.underlying22 hi hz0 hz1 hz2 rfl (by decide) _ _ _ rfl (World.ownsRow_made w #[] 0 (Nat.le_refl _) (Nat.zero_le _) rfl) p n c xs rfl HXL.out (HC.out _) H1.out (by unfold maxLen; omega) (by omega) (by simp) ?_)
    intro v' w1 hown hgrow hnil
    have hb : Below w.heap.size w w1 := ((Below.refl _ w).alloc (Nat.le_refl _) _).grown hgrow (by simp) (by intro k hk; simp [Value.ownBlock] at hk; omega)
    have HV := Lib.hid hnil
    have HO := Lib.hid hown
    clear hgrow hnil hown
    go_wp2_with fail
    go_ret
    exact ⟨v', rfl, by rw [HX.out]; exact HO.out, hb, fun e => absurd e HV.out, fun e => by cases e⟩
end Go.Proofs.YtjhmjokmjoldkaaGreatDoor
