/-
  The document's net: a list of connections in a row of its own; appends within a region that draws.
-/
import Derived.Test.YtabclpffjpcejaaNwC
import Derived.Test.YtabclpffjpcejaaOp
import Derived.BigRegion
namespace Go.Proofs.Ytabclpffjpcejaa
open Go.RowKit Go.Maps
set_option linter.unusedVariables false
set_option maxRecDepth 100000

structure Cr where
  id : Nat
  addr : Int
  v : Value
  b : Bs
def cL (c : Cr) : List Value := [.int .i64 c.id, .int .i64 c.addr, c.v]
def cRow (L : List Cr) : List Value := L.flatMap cL
theorem cRow_len (L : List Cr) : (cRow L).length = L.length * 3 := by
  induction L with
  | nil => rfl
  | cons q r ih => unfold cRow at *; rw [List.flatMap_cons, List.length_append, ih]; simp [cL]; omega
theorem cRow_get (L : List Cr) : ∀ (j : Nat) (h : j < L.length) (i : Nat), i < 3 → (cRow L)[j * 3 + i]? = (cL L[j])[i]? := by
  induction L with
  | nil => intro j h; simp at h
  | cons q r ih =>
    intro j h i hi
    unfold cRow
    rw [List.flatMap_cons]
    cases j with
    | zero => rw [List.getElem?_append_left (by simp [cL]; omega)]; simp
    | succ j =>
      rw [List.getElem?_append_right (by simp [cL]; omega)]
      have e : (j + 1) * 3 + i - (cL q).length = j * 3 + i := by simp [cL]; omega
      rw [e]
      simpa [cRow] using ih j (by simpa using h) i hi
theorem cRow_append (L M : List Cr) : cRow (L ++ M) = cRow L ++ cRow M := by unfold cRow; simp
theorem cRow_one (c : Cr) : cRow [c] = cL c := by unfold cRow; simp
theorem cRow_set2 (L : List Cr) (j : Nat) (h : j < L.length) (v : Value) (b : Bs) : (cRow L).set (j * 3 + 2) v = cRow (L.set j { L[j] with v := v, b := b }) := by
  induction L generalizing j with
  | nil => simp at h
  | cons q r ih =>
    unfold cRow
    rw [List.flatMap_cons]
    cases j with
    | zero => simp [cL]
    | succ j =>
      rw [List.set_append_right _ _ (by simp [cL]; omega)]
      have e : (j + 1) * 3 + 2 - (cL q).length = j * 3 + 2 := by simp [cL]; omega
      rw [e]
      have := ih j (by simpa using h)
      unfold cRow at this
      rw [this]
      simp
/-- A slice of bytes in a row from B on. -/
abbrev Bv (w : World) (B : Nat) (v : Value) (b : Bs) : Prop := w.ownsRow B 5 1 v b.length (b.map byteV)
structure RefS (B x last : Nat) (v : Value) (L : List Cr) (w : World) : Prop where
  head : w.heap[x]? = some (.cells #[v, .int .i64 last] 28 (0, 0))
  row : w.ownsRow B 86 3 v L.length (cRow L)
  bv : ∀ c ∈ L, Bv w B c.v c.b
  le : ∀ c ∈ L, c.id ≤ last
  rise : (L.map fun c => (c.id : Int)).Pairwise (· < ·)
/-- What is written: the struct, the row. -/
def FootV (x : Nat) (v : Value) (k : Nat) : Prop := k = x ∨ v.ownBlock = some k
theorem vrow_block {w w' : World} {base n sz : Nat} {e : TypeId} {v : Value} {xs : List Value} (h : w.ownsRow base e sz v n xs) (hk : ∀ k, v.ownBlock = some k → w'.heap[k]? = w.heap[k]?) : w'.ownsRow base e sz v n xs := by
  refine ⟨h.1, ?_⟩
  rcases h.2 with h | ⟨g, cap, cur, rfl, hb, hh, r⟩
  · exact .inl h
  · exact .inr ⟨g, cap, cur, rfl, hb, (hk g rfl).trans hh, r⟩
theorem vrow_lt {w : World} {base n sz : Nat} {e : TypeId} {v : Value} {xs : List Value} (h : w.ownsRow base e sz v n xs) {k : Nat} (hk : v.ownBlock = some k) : base ≤ k ∧ ∃ cur, w.heap[k]? = some (.cells cur e (0, 0)) := by
  rcases h.2 with ⟨rfl, _⟩ | ⟨g, cap, cur, rfl, hb, hh, r⟩
  · cases hk
  · injection hk with hk
    subst hk
    exact ⟨hb, cur, hh⟩
theorem vrow_set {w : World} {base n k g c : Nat} {e : TypeId} {xs : List Value} (h : w.ownsRow base e 3 (.slice (some ⟨g, 0, none⟩) n c) n xs) (hk : k < n * 3) (u : Value) : (w.setCell ⟨g, k, none⟩ u).ownsRow base e 3 (.slice (some ⟨g, 0, none⟩) n c) n (xs.set k u) := by
  refine ⟨by rw [List.length_set]; exact h.1, ?_⟩
  rcases h.2 with ⟨hv, _⟩ | ⟨g', cap, cur, hv, hb, hh, hc, hm, hsz, ht⟩
  · cases hv
  · injection hv with h1 h2 h3
    injection h1 with h1
    injection h1 with h1
    subst h1 h3
    refine .inr ⟨g, c, _, rfl, hb, row_set u hh, hc, hm, by simpa using hsz, ?_⟩
    rw [Array.toList_setIfInBounds, List.take_set, ht]
section
variable {B x last : Nat} {v : Value} {L : List Cr} {w w' : World}
theorem RefS.lt (h : RefS B x last v L w) {k : Nat} (hk : FootV x v k) : k < w.heap.size := by
  rcases hk with rfl | e
  · exact (Array.getElem?_eq_some_iff.1 h.head).1
  · obtain ⟨_, cur, hc⟩ := vrow_lt h.row e
    exact (Array.getElem?_eq_some_iff.1 hc).1
theorem RefS.mod {S : Nat → Prop} (h : RefS B x last v L w) (hM : Mod S w w') (hS : ∀ k, FootV x v k → ¬ S k) (hb : ∀ c ∈ L, OffV S c.v) : RefS B x last v L w' :=
  ⟨(hM.block _ (h.lt (.inl rfl)) (hS _ (.inl rfl))).trans h.head, vrow_block h.row fun k e => hM.block k (h.lt (.inr e)) (hS k (.inr e)), fun c hc => own_mod (h.bv c hc) hM (hb c hc), h.le, h.rise⟩
theorem RefS.below (h : RefS B x last v L w) (hB : Below w.heap.size w w') : RefS B x last v L w' := h.mod (Mod.below (S := fun _ => False) hB) (fun _ _ e => e) (fun _ _ _ _ e => e)
theorem RefS.cell (h : RefS B x last v L w) : w.cell? ⟨x, 0, none⟩ = some v ∧ w.cell? ⟨x, 1, none⟩ = some (.int .i64 last) := ⟨(cell_of_row _ _ 0 _ _ _ h.head).trans rfl, (cell_of_row _ _ 1 _ _ _ h.head).trans rfl⟩
theorem RefS.thaw (h : RefS B x last v L w) (i : Nat) : w.frozen? ⟨x, i, none⟩ = false := frozen_of_row _ _ _ _ _ h.head
theorem RefS.xv (h : RefS B x last v L w) : v.ownBlock ≠ some x := fun e => by
  obtain ⟨_, cur, hc⟩ := vrow_lt h.row e
  have h1 := h.head
  rw [hc] at h1
  injection h1 with h1
  injection h1 with h1 h3
  cases h3
theorem RefS.slice (h : RefS B x last v L w) : ∃ a c, v = .slice a L.length c ∧ L.length ≤ c ∧ c ≤ maxLen ∧ (a = none → c = 0) ∧ (∀ q, a = some q → ∃ g, q = ⟨g, 0, none⟩) := by
  rcases h.row.2 with ⟨rfl, h0⟩ | ⟨g, cap, cur, rfl, _, _, hc, hm, _⟩
  · exact ⟨none, 0, by rw [h0], by omega, by omega, fun _ => rfl, fun q e => by cases e⟩
  · exact ⟨_, cap, rfl, hc, hm, fun e => (by cases e), fun q e => by injection e with e; exact ⟨g, e.symm⟩⟩
theorem RefS.cells (h : RefS B x last v L w) {j : Nat} (hj : j < L.length) : ∃ g c, v = .slice (some ⟨g, 0, none⟩) L.length c ∧ L.length ≤ c ∧ c ≤ maxLen ∧ w.cell? ⟨g, j * 3, none⟩ = some (.int .i64 L[j].id) ∧ w.cell? ⟨g, j * 3 + 1, none⟩ = some (.int .i64 L[j].addr) ∧ w.cell? ⟨g, j * 3 + 2, none⟩ = some L[j].v ∧ ∀ i, w.frozen? ⟨g, i, none⟩ = false := by
  rcases h.row.2 with ⟨rfl, h0⟩ | ⟨g, cap, cur, rfl, _, hh, hc, hm, hsz, ht⟩
  · omega
  · have q : ∀ i, i < 3 → cur[j * 3 + i]? = (cL L[j])[i]? := fun i hi => by
      have e := congrArg (fun l => l[j * 3 + i]?) ht
      rw [List.getElem?_take_of_lt (by omega), cRow_get L j hj i hi] at e
      simpa using e
    exact ⟨g, cap, rfl, hc, hm, (cell_of_row _ _ _ _ _ _ hh).trans (q 0 (by omega)), (cell_of_row _ _ _ _ _ _ hh).trans (q 1 (by omega)), (cell_of_row _ _ _ _ _ _ hh).trans (q 2 (by omega)), fun i => frozen_of_row _ _ _ _ _ hh⟩
end
theorem RefS.type {B x last : Nat} {v : Value} {L : List Cr} {w : World} (h : RefS B x last v L w) {c : Cr} (hc : c ∈ L) {k : Nat} (hk : c.v.ownBlock = some k) : ¬ FootV x v k := by
  obtain ⟨_, cur, h1⟩ := vrow_lt (h.bv c hc) hk
  rintro (e | e)
  · have h2 := h.head
    rw [← e, h1] at h2
    injection h2 with h2
    injection h2 with h2 h3
    cases h3
  · obtain ⟨_, cur2, h2⟩ := vrow_lt h.row e
    rw [h1] at h2
    injection h2 with h2
    injection h2 with h2 h3
    cases h3
/-- A connection's bytes are written. -/
theorem RefS.put {B x last g n c i : Nat} {L : List Cr} {w : World} (h : RefS B x last (.slice (some ⟨g, 0, none⟩) n c) L w) (hn : n = L.length) (hi : i < L.length) (v' : Value) (b' : Bs) (hb : Bv w B v' b') :
    RefS B x last (.slice (some ⟨g, 0, none⟩) n c) (L.set i { L[i] with v := v', b := b' }) (w.setCell ⟨g, i * 3 + 2, none⟩ v') := by
  have hg : x ≠ g := fun e => h.xv (by rw [e]; rfl)
  have hM : Mod (fun k => k = g) w (w.setCell ⟨g, i * 3 + 2, none⟩ v') := ⟨rfl, rfl, rfl, by simp, fun i _ hn => Below.heap_setCell _ _ _ _ hn⟩
  have hrow := h.row
  have hoff : ∀ (u : Value) (b : Bs), Bv w B u b → OffV (fun k => k = g) u := fun u b hu k hk e => by
    obtain ⟨_, cur, h1⟩ := vrow_lt hu hk
    obtain ⟨_, cur2, h2⟩ := vrow_lt hrow (k := g) rfl
    rw [e, h2] at h1
    injection h1 with h1
    injection h1 with h1 h3
    cases h3
  refine ⟨(Below.heap_setCell _ _ _ _ hg).trans h.head, ?_, fun q hq => ?_, fun q hq => ?_, ?_⟩
  · rw [List.length_set, ← cRow_set2 L i hi v' b']
    rw [← hn] at hrow ⊢
    exact vrow_set hrow (by omega) _
  · rcases List.mem_or_eq_of_mem_set hq with h3 | h3
    · exact own_mod (h.bv q h3) hM (hoff _ _ (h.bv q h3))
    · subst h3; exact own_mod hb hM (hoff _ _ hb)
  · rcases List.mem_or_eq_of_mem_set hq with h3 | h3
    · exact h.le q h3
    · subst h3; exact h.le L[i] (List.getElem_mem hi)
  · have e : (L.set i { L[i] with v := v', b := b' }).map (fun c => (c.id : Int)) = L.map (fun c => (c.id : Int)) := by
      rw [List.map_set]
      apply List.ext_getElem?
      intro j
      rw [List.getElem?_set]
      split
      · rename_i e; subst e; simp [hi]
      · rfl
    rw [e]; exact h.rise
set_option maxHeartbeats 1000000 in
theorem placeN_any {B x last : Nat} {v : Value} {L : List Cr} (w : World) (h : RefS B x last v L w) (hl : L.length ≤ 1000) (a : Int) :
    Calls Try.prog 39 #[.pointer (some ⟨x, 0, none⟩), .int .i64 a] w fun e w' => ((∃ (i : Nat) (hi : i < L.length), (L[i].id : Int) = a ∧ e = .returned (.int .i64 i)) ∨ ((∀ c ∈ L, (c.id : Int) ≠ a) ∧ e = .returned (.int .i64 (-1)))) ∧ Below w.heap.size w w' := by
  have c0 := h.cell.1
  have H := Lib.hid h
  obtain ⟨va, vc, rfl, hvc, hvm, -, -⟩ := h.slice
  obtain ⟨n, hn⟩ : ∃ n, n = L.length := ⟨_, rfl⟩
  rw [← hn] at c0 hvc hl
  have hvm2 : vc ≤ 9223372036854775807 := by unfold maxLen at hvm; omega
  have HN := Lib.hid hn
  clear h hn hvm
  go_enter Try.func39, Try.ntmps39
  go_wp2_with fail
  go_loopw [12] (fun u wr => ∃ k : Nat, u = .int .i64 k ∧ k ≤ n ∧ (∀ j (hj : j < L.length), j < k → (L[j].id : Int) ≠ a) ∧ Below w.heap.size w wr) (fun u _ => n - (intOf u).toNat)
  case atStart => exact ⟨0, rfl, by omega, fun j _ hj => absurd hj (by omega), Below.refl _ _⟩
  case round =>
    obtain ⟨k, rfl, hk, hno, hBw⟩ := hrel
    rename World => wr
    have HT := Lib.hid (H.out.below hBw)
    have HNO := Lib.hid hno
    have HBW := Lib.hid hBw
    have hsz := hBw.size
    by_cases hlt : k < n
    · have hlt' : (k : Int) < (n : Int) := by omega
      have hkl : k < L.length := by have := HN.out; omega
      obtain ⟨g, c, hv, -, -, d0, d1, d2, -⟩ := HT.out.cells hkl
      injection hv with hv1 hv2 hv3
      subst hv1 hv3
      obtain ⟨q, hq⟩ : ∃ q, q = L[k] := ⟨_, rfl⟩
      rw [← hq] at d0 d1 d2
      have HQ := Lib.hid hq
      obtain ⟨A9, c9, hv9, -⟩ := row_slice (HT.out.bv q (hq ▸ List.getElem_mem hkl))
      rw [hv9] at d2
      obtain ⟨qi, qa, qv, qb⟩ := q
      dsimp only at d0 d1 d2
      generalize qb.length = ql at d2
      clear hq hno hBw hv2 hv9
      by_cases e : (qi : Int) = a
      · subst e
        have BF := Lib.hid (Below.alloc HBW.out hsz (.cells #[.int .i64 qi, .int .i64 qa, .slice A9 ql c9] 86))
        have hid : ((L[k].id : Nat) : Int) = (qi : Int) := by rw [← HQ.out]
        have HID := Lib.hid hid
        clear hid
        go_wp2_with fail
        go_ret
        exact ⟨.inl ⟨k, hkl, HID.out, rfl⟩, BF.out⟩
      · have e2 : ((qi : Int) == a) = false := by simpa using e
        have hno2 : ∀ j (hj : j < L.length), j < k + 1 → (L[j].id : Int) ≠ a := fun j hj hjk => by
          by_cases ej : j = k
          · subst ej; rw [← HQ.out]; exact e
          · exact HNO.out j hj (by omega)
        have HNO2 := Lib.hid hno2
        clear hno2 e
        go_wp2_with fail
        go_roundw
        case rel => exact ⟨k + 1, by go_num, by omega, HNO2.out, Below.alloc HBW.out (by omega) _⟩
        case measure => simp [intOf]; omega
    · obtain rfl : k = n := by omega
      have hall : ∀ c ∈ L, (c.id : Int) ≠ a := fun c hc => by
        obtain ⟨j, hj, rfl⟩ := List.getElem_of_mem hc
        exact hno j hj (by have := HN.out; omega)
      have HALL := Lib.hid hall
      clear hall hno hBw
      go_wp2_with fail
      go_ret
      exact ⟨.inr ⟨HALL.out, rfl⟩, HBW.out⟩
end Go.Proofs.Ytabclpffjpcejaa
