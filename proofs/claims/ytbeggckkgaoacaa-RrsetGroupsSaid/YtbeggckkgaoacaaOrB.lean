/-
  bytes.Compare; slices.Clone of slices of bytes; slices.SortFunc of them.
-/
import Derived.Test.YtbeggckkgaoacaaOrA
import Derived.Test.YtbeggckkgaoacaaEl
import Derived.Test.YtbeggckkgaoacaaLyS
import Derived.Lib.BytesEntry
import Derived.Laws.Externs
namespace Go.Proofs.Ytbeggckkgaoacaa
open Go.RowKit
set_option linter.unusedVariables false
set_option maxRecDepth 100000

theorem compare_cmpB : ∀ a b : Bs, Lib.compareBytes a b = cmpB a b
  | [], [] => rfl
  | [], y :: b => by simp [Lib.compareBytes, cmpB, Op.bytesLess]
  | x :: a, [] => by simp [Lib.compareBytes, cmpB, Op.bytesLess]
  | x :: a, y :: b => by
    have ih := compare_cmpB a b
    unfold Lib.compareBytes
    by_cases h1 : x < y
    · rw [if_pos h1]
      unfold cmpB
      simp [Op.bytesLess, h1]
    · rw [if_neg h1]
      by_cases h2 : y < x
      · have hne : ¬ x = y := fun e => by subst e; exact h1 h2
        rw [if_pos h2]
        unfold cmpB
        simp [Op.bytesLess, h1, hne]
      · have e : x = y := UInt8.le_antisymm (UInt8.not_lt.1 h2) (UInt8.not_lt.1 h1)
        subst e
        rw [if_neg h2, ih]
        unfold cmpB
        simp [Op.bytesLess]
theorem cmp_less (a b : Bs) : decide (cmpB a b < 0) = Op.bytesLess a b := by
  rcases cmpB_cases a b with h | h | h
  · rw [h, cmpB_lt.1 h]; rfl
  · rw [h, cmpB_zero.1 h, less_irrefl]; rfl
  · rw [h, less_asymm (cmpB_gt.1 h)]; rfl

theorem bytesOf_bys (A : Option Addr) (l : Bs) (c : Nat) (w : World) (hS : Bys w A l) : (Extern.Bytes.bytesOf (.slice A l.length c)).run Try.prog w = .ok (bs l) w := by
  have hb : Lib.bytesOf (l.map fun b => (b.toNat : Int)) = l := by
    rw [Lib.bytesOf, List.map_map]
    exact (List.map_congr_left (fun b _ => by simp)).trans (List.map_id _)
  cases A with
  | none =>
    have hl : l = [] := by
      rcases l with _ | ⟨b, r⟩
      · rfl
      · obtain ⟨g, off, h, _⟩ := hS (by simp)
        cases h
    subst hl
    rfl
  | some a =>
    have h := Lib.run_loadBytesX (P := Try.prog) w (l.map fun b => (b.toNat : Int)) a .empty (fun j x hj => by
      rw [List.getElem?_map] at hj
      cases hl : l[j]? with
      | none => rw [hl] at hj; cases hj
      | some b =>
        rw [hl] at hj
        injection hj with hj
        subst hj
        obtain ⟨hjl, hjb⟩ := List.getElem?_eq_some_iff.1 hl
        obtain ⟨g, off, hA, hc⟩ := hS (by omega)
        injection hA with hA
        subst hA
        rw [Addr.add_lit, hc j hjl, hjb])
    rw [hb, List.length_map] at h
    have e : (⟨ByteArray.empty.data ++ l.toArray⟩ : ByteArray) = bs l := by
      show (⟨#[] ++ l.toArray⟩ : ByteArray) = ⟨l.toArray⟩
      simp
    rw [e] at h
    exact h
theorem run_Compare (A B : Option Addr) (a b : Bs) (c d : Nat) (w : World) (hA : Bys w A a) (hB : Bys w B b) : (callFunc 54 #[.slice A a.length c, .slice B b.length d]).run Try.prog w = .ok (.value (.int .i64 (cmpB a b))) w := by
  have he : Extern.find Try.f54 = some Extern.BytealgCompare.compare := by kernel_rfl
  rw [run_callFunc_extern Try.func54 (by kernel_rfl) (by kernel_rfl) (by kernel_rfl) he]
  change Result.andThen (Sem.run Try.prog (do pure (goInt (Extern.BytealgCompare.cmp (← Extern.Bytes.bytesOf (.slice A a.length c)) (← Extern.Bytes.bytesOf (.slice B b.length d))))) w) _ = _
  simp only [Sem.run_bind, bytesOf_bys A a c w hA, bytesOf_bys B b d w hB, Sem.run_pure, Result.andThen_ok]
  rw [Lib.cmp_eq, ← compare_cmpB]
  rfl
set_option maxHeartbeats 400000 in
theorem CompareB_any (A B : Option Addr) (a b : Bs) (c d : Nat) (w : World) (hA : Bys w A a) (hB : Bys w B b) :
    Calls Try.prog 27 #[.slice A a.length c, .slice B b.length d] w fun e w' => e = .returned (.int .i64 (cmpB a b)) ∧ w = w' := by
  have hr := run_Compare A B a b c d w hA hB
  clear hA hB
  generalize cmpB a b = r at *
  generalize a.length = n at *
  generalize b.length = m at *
  go_enter Try.func27, Try.ntmps27
  go_wp2_with fail
  go_ret
  exact ⟨rfl, rfl⟩

/-- The values of slices of bytes in memory. -/
theorem byss_vals {w : World} {A : Option Addr} {L : List Bs} (h : Byss w A L) : ∃ xs, RowsA w xs L ∧ ∀ p j u, A = some p → xs[j]? = some u → w.cell? (p.add j) = some u := by
  by_cases hn : 0 < L.length
  · obtain ⟨g, off, hA, hc⟩ := h hn
    refine ⟨(List.range L.length).map fun j => (w.cell? ⟨g, off + j, none⟩).getD undef, ⟨by simp, fun j hj => ?_⟩, fun p j u hp hj => ?_⟩
    · obtain ⟨a, c, h1, h2, h3, h4, h5⟩ := hc j hj
      exact ⟨a, c, by simp [hj, h1], h2, h3, h4, h5⟩
    · rw [hA] at hp
      injection hp with hp
      subst hp
      obtain ⟨hjl, -⟩ := List.getElem?_eq_some_iff.1 hj
      have hjl' : j < L.length := by simpa using hjl
      obtain ⟨a, c, h1, -⟩ := hc j hjl'
      rw [Addr.add_lit]
      simp [hjl', h1] at hj
      rw [h1, hj]
  · have hl : L = [] := List.length_eq_zero_iff.1 (by omega)
    subst hl
    exact ⟨[], RowsA.nil w, fun p j u _ hj => by simp at hj⟩
theorem RowsA.one {w0 : World} {xs : List Value} {M : List Bs} (h : RowsA w0 xs M) : ∀ u ∈ xs, u.oneCell' = true := fun u hu => by
  obtain ⟨j, hj, rfl⟩ := List.mem_iff_getElem.1 hu
  obtain ⟨a, c, h1, -⟩ := h.2 j (by rw [← h.1]; exact hj)
  rw [List.getElem?_eq_getElem hj] at h1
  injection h1 with h1
  rw [h1]; rfl

set_option maxHeartbeats 1000000 in
theorem CloneL_any (A : Option Addr) (L : List Bs) (n c : Nat) (w : World) (hS : Byss w A L) (hn : n = L.length) (hl : n * 24 ≤ 140737488351232) :
    Calls Try.prog 28 #[.slice A n c] w fun e w' => ∃ v xs, e = .returned v ∧ w'.ownsRow w.heap.size 37 1 v n xs ∧ RowsA w xs L ∧ Below w.heap.size w w' := by
  have q : ∀ (w : World) (a : Option Addr) (n c n' c' : Nat), (binOp .eql 27 (.slice a n c) (.slice none n' c')).run Try.prog w = .ok (.bool a.isNone) w := fun w a n c n' c' => Lib.run_eql_slice_nil w _ _ a n c n' c' Try.underlying27
  obtain ⟨xs, hxs, hcell⟩ := byss_vals hS
  cases A with
  | none =>
    have hl0 : L = [] := by
      rcases L with _ | ⟨b, l⟩
      · rfl
      · obtain ⟨g, off, h, _⟩ := hS (by simp)
        cases h
    subst hl0
    have HN := Lib.hid hn
    clear hS hxs hcell hl
    go_enter Try.func28, Try.ntmps28
    go_wp2_with fail
    go_ret
    exact ⟨_, [], rfl, by rw [HN.out]; exact World.ownsRow_nil _ _ _ _, RowsA.nil _, Below.refl _ _⟩
  | some p =>
    have hlt : ∀ j u, xs[j]? = some u → p.block < w.heap.size := fun j u hj => by
      have := hcell p j u rfl hj
      have hp := World.block_lt_of_cell? w _ this
      have : (p.add j).block = p.block := by unfold Addr.add; split <;> rfl
      omega
    have HC : Hid (∀ (o : Obj) j u, xs[j]? = some u → (w.alloc o).cell? (p.add j) = some u) := Lib.hid (fun o j u hj => by
      have hb : (p.add j).block = p.block := by unfold Addr.add; split <;> rfl
      have hp := hlt j u hj
      rw [Below.cell (p := p.add j) (B := w.heap.size) ((Below.refl _ w).alloc (Nat.le_refl _) _) (by rw [hb]; exact hp)]
      exact hcell p j u rfl hj)
    have HX := Lib.hid hxs
    have hxl : xs.length = n * 1 := by rw [hxs.1, hn]; omega
    have H1 := Lib.hid hxs.one
    have HXL := Lib.hid hxl
    obtain ⟨i0, hi, hz0, hz1, hz2⟩ := info_parts info_slb
    clear hxl hn hxs hcell hS hlt
    go_enter Try.func28, Try.ntmps28
    go_wp2_with (at_builtin; refine wpList_append_own _ rfl _ _ 27 rfl w.heap.size 37 i0 (.slice none 0 0) 1 24 Try.underlying27 hi hz0 hz1 hz2 rfl (by decide) _ _ _ rfl (World.ownsRow_made w #[] 0 (Nat.le_refl _) (Nat.zero_le _) rfl) p n c xs rfl HXL.out (HC.out _) H1.out (by unfold maxLen; omega) (by omega) (by simp) ?_)
    intro v' w1 hown hgrow _
    have hb : Below w.heap.size w w1 := ((Below.refl _ w).alloc (Nat.le_refl _) _).grown hgrow (by simp) (by intro k hk; simp [Value.ownBlock] at hk; omega)
    have hown' : w1.ownsRow w.heap.size 37 1 v' n xs := by simpa using hown
    clear hown hgrow
    go_wp2_with fail
    go_ret
    exact ⟨v', xs, rfl, hown', HX.out, hb⟩

/-- A slice of bytes that lies in w0, as a value. -/
structure Bv (w0 : World) where
  v : Value
  l : Bs
  ok : ∃ A c, v = .slice A l.length c ∧ Sl w0 A c l
instance (w0 : World) : Inhabited (Bv w0) := ⟨⟨.slice none 0 0, [], none, 0, rfl, Sl.none w0⟩⟩
theorem rows_bv {w0 : World} : ∀ {M : List Bs} {xs : List Value}, RowsA w0 xs M → ∃ d : List (Bv w0), d.map Bv.v = xs ∧ d.map Bv.l = M
  | [], xs, h => ⟨[], by have := h.1; simp at this; simp [this], rfl⟩
  | m :: M, [], h => by have := h.1; simp at this
  | m :: M, x :: xs, h => by
    obtain ⟨a, c, h1, h2⟩ := h.2 0 (by simp)
    obtain ⟨d, e1, e2⟩ := rows_bv (M := M) (xs := xs) ⟨by have := h.1; simpa using this, fun j hj => by
      obtain ⟨a, c, k1, k2⟩ := h.2 (j + 1) (by simpa using hj)
      exact ⟨a, c, by simpa using k1, by simpa using k2⟩⟩
    simp only [List.getElem?_cons_zero, List.getElem_cons_zero] at h1 h2
    injection h1 with h1
    exact ⟨⟨x, m, a, c, h1, h2⟩ :: d, by rw [List.map_cons, e1], by rw [List.map_cons, e2]⟩
theorem bv_rows {w0 : World} (d : List (Bv w0)) : RowsA w0 (d.map Bv.v) (d.map Bv.l) := by
  refine ⟨by simp, fun j hj => ?_⟩
  have hj' : j < d.length := by simpa using hj
  obtain ⟨a, c, h1, h2⟩ := (d[j]).ok
  refine ⟨a, c, ?_, ?_⟩
  · rw [List.getElem?_map, List.getElem?_eq_getElem hj', Option.map_some, h1, List.getElem_map]
  · rw [List.getElem_map]; exact h2

theorem heap_sortW {α : Type} [Inhabited α] {enc : α → Value} {w : World} {g n : Nat} {os : Array Obj} {cur : Array Value} {e : TypeId} {fr : Nat × Nat} (d : Array α) (hb : w.heap[g]? = some (.cells cur e fr)) :
    (sortWorld enc w g 0 n d os).heap[g]? = some (.cells (Sort.putCells enc 0 d cur) e fr) := by
  have hg : g < w.heap.size := (Array.getElem?_eq_some_iff.1 hb).1
  unfold sortWorld
  rw [Sort.heap_grow_old _ _ (by simpa using hg)]
  simp [Sort.putRow, Sort.mapBlock, Sort.ahead, Array.getElem?_modify, hb, Sort.onCells]
theorem grown_sortW {α : Type} [Inhabited α] (enc : α → Value) (w : World) (g n : Nat) (d : Array α) (os : Array Obj) : w.grownBy (sortWorld enc w g 0 n d os) (some g) := by
  unfold sortWorld
  refine ⟨rfl, rfl, rfl, by simp, fun k hk hne => ?_⟩
  rw [Sort.heap_grow_old _ _ (by simpa using hk)]
  have : g ≠ k := fun e => hne (by rw [e])
  simp [Sort.putRow, Sort.mapBlock, Sort.ahead, Array.getElem?_modify, this]
theorem take_putW {α : Type} [Inhabited α] (enc : α → Value) (cur : Array Value) (ts : List α) (h : ts.length ≤ cur.size) : (Sort.putCells enc 0 ts.toArray cur).toList.take ts.length = ts.map enc := by
  apply List.ext_getElem?
  intro j
  by_cases hj : j < ts.length
  · rw [List.getElem?_take_of_lt hj, Array.getElem?_toList]
    simp [Sort.putCells, hj, show j < cur.size by omega]
  · rw [List.getElem?_take_eq_none (by omega), List.getElem?_eq_none (by simp; omega)]

theorem swoB (w0 : World) : Sort.SWO (ltOf (fun x y : Bv w0 => cmpB x.l y.l)) where
  irrefl x := by unfold ltOf; rw [cmp_less, less_irrefl]
  trans x y z h1 h2 := by unfold ltOf at *; rw [cmp_less] at *; exact less_trans h1 h2
  ntrans x y z h1 h2 := by
    unfold ltOf at *
    rw [cmp_less] at *
    cases h : Op.bytesLess x.l z.l with
    | false => rfl
    | true =>
      rcases less_total x.l y.l with k | k | k
      · rw [h1] at k; cases k
      · rw [k] at h; rw [h2] at h; cases h
      · have := less_trans k h; rw [h2] at this; cases this

theorem cmpLaysB (w0 w : World) (g n : Nat) (hB : Below w0.heap.size w0 w) (hg : w0.heap.size ≤ g) : CmpLays1 Try.prog 27 #[] (Bv.v (w0 := w0)) (fun x y => cmpB x.l y.l) g 0 n w := by
  intro m os dk _ x y
  obtain ⟨A, c, h1, h2⟩ := x.ok
  obtain ⟨B, d, k1, k2⟩ := y.ok
  have hW : Below w0.heap.size w0 (sortWorld (Bv.v (w0 := w0)) w g 0 m dk os) := Below.grown hB (grown_sortW _ _ _ _ _ _) hB.size (fun k hk => by injection hk with hk; omega)
  rw [h1, k1, Array.append_empty]
  refine (CompareB_any A B x.l y.l c d _ (h2.on hW).bys (k2.on hW).bys).mono ?_
  rintro e w' ⟨rfl, rfl⟩
  exact ⟨rfl, 0, #[], by rw [Sort.grow_empty]; rfl⟩

set_option maxHeartbeats 1000000 in
theorem sortB_any (w0 w : World) (base g cap : Nat) (d : List (Bv w0)) (hB : Below w0.heap.size w0 w) (hg : w0.heap.size ≤ g) (hlim : d.length < 4611686018427387904) (hrow : w.ownsRow base 37 1 (.slice (some ⟨g, 0, none⟩) d.length cap) d.length (d.map Bv.v)) :
    Calls Try.prog 50 #[.slice (some ⟨g, 0, none⟩) d.length cap, .func (.func 27) #[] #[]] w fun e w' => e = .returned (.tuple #[]) ∧
      ∃ d' : List (Bv w0), w'.ownsRow base 37 1 (.slice (some ⟨g, 0, none⟩) d.length cap) d.length (d'.map Bv.v) ∧ (∀ y, y ∈ d'.map Bv.l ↔ y ∈ d.map Bv.l) ∧ (d'.map Bv.l).Pairwise (fun a b => Op.bytesLess b a = false) ∧ w.grownBy w' (some g) := by
  rcases hrow.2 with ⟨hv, _⟩ | ⟨g', cap', cur, hv, hb, hh, hc, hm, hsz, ht⟩
  · cases hv
  injection hv with e1 _ e2
  injection e1 with e1
  injection e1 with e1
  subst e1 e2
  have hH : Sort.Holds (Bv.v (w0 := w0)) w g 0 d.toArray := fun j hj => by
    have hj' : j < d.length := by simpa using hj
    refine ⟨?_, frozen_of_row _ _ _ _ _ hh⟩
    rw [cell_of_row _ _ _ _ _ _ hh, Nat.zero_add]
    have e := congrArg (fun x => x[j]?) ht
    simp only [Nat.mul_one] at e
    rw [List.getElem?_take_of_lt hj'] at e
    rw [← Array.getElem?_toList, e]
    simp [hj']
  have h := Any.slices_SortFunc sortF (Bv.v (w0 := w0)) (fun x => by obtain ⟨A, c, h, _⟩ := x.ok; rw [h]; rfl) (fun x y => cmpB x.l y.l) (swoB w0) 27 #[] g 0 cap d.toArray w (run_enter Try.func27 (by kernel_rfl) (by kernel_rfl)) (cmpLaysB w0 w g _ hB hg) hH (Array.getElem?_eq_some_iff.1 hh).1 (by rw [List.size_toArray]; exact hlim)
  change Calls Try.prog 50 _ _ _ at h
  rw [List.size_toArray] at h
  refine h.mono ?_
  rintro e w' ⟨rfl, d', n, os, hp, hs, rfl⟩
  obtain ⟨hp1, -, hp2⟩ := hp
  replace hp1 : d'.size = d.length := by simpa using hp1
  have hl : d'.toList.length = d.length := by simpa using hp1
  have hd : d'.toList.toArray = d' := by simp
  refine ⟨rfl, d'.toList, ⟨by simp [hp1], .inr ⟨g, cap, _, rfl, hb, heap_sortW _ hh, hc, hm, by simp [Sort.putCells, hsz], ?_⟩⟩, fun y => ?_, ?_, grown_sortW _ _ _ _ _ _⟩
  · rw [Nat.mul_one]
    have := take_putW (Bv.v (w0 := w0)) cur d'.toList (by omega)
    rw [hd, hl] at this
    exact this
  · have hp3 : d'.toList.Perm d := by
      rw [show d'.extract 0 d.length = d' by rw [← hp1]; exact Array.extract_size] at hp2
      have e : d.toArray.extract 0 d.length = d.toArray := by simp
      rw [e] at hp2
      exact hp2
    exact (hp3.map Bv.l).mem_iff
  · rw [List.pairwise_iff_getElem]
    intro i j hi hj hij
    have hi' : i < d'.size := by simpa using hi
    have hj' : j < d'.size := by simpa using hj
    have := hs i j (Nat.zero_le _) hij (by rw [← hp1]; exact hj')
    unfold ltOf at this
    rw [cmp_less, getElem!_pos d' j hj', getElem!_pos d' i hi'] at this
    simpa using this
end Go.Proofs.Ytbeggckkgaoacaa
