/-
  Questions copied (slices.Clone); rows of structs laid end to end.
  Records copied (the statements' own RRs).
  Records copied: the walk of the statements' own RRs.
-/
import Derived.Test.YtknpkifhkefikaaDoorWh
import Derived.Test.YtknpkifhkefikaaDoorGb
namespace Go.Proofs.YtknpkifhkefikaaDoor
open Go.RowKit
set_option linter.unusedVariables false
set_option maxRecDepth 100000

theorem flat_len {α β : Type} {f : α → List β} {s : Nat} (hs : ∀ x, (f x).length = s) : ∀ L : List α, (L.flatMap f).length = L.length * s
  | [] => by simp
  | a :: L => by rw [List.flatMap_cons, List.length_append, hs, flat_len hs L, List.length_cons, Nat.add_mul]; omega
theorem flat_at {α β : Type} {f : α → List β} {s : Nat} (hs : ∀ x, (f x).length = s) : ∀ (L : List α) (i k : Nat) (hk : k < s) (hi : i < L.length), (L.flatMap f)[i * s + k]? = (f L[i])[k]?
  | a :: L, 0, k, hk, _ => by
    rw [List.flatMap_cons, Nat.zero_mul, Nat.zero_add, List.getElem?_append_left (by rw [hs]; exact hk)]
    rfl
  | a :: L, i + 1, k, hk, hi => by
    rw [List.flatMap_cons, List.getElem?_append_right (by rw [hs, Nat.add_mul]; omega), hs, show (i + 1) * s + k - s = i * s + k by rw [Nat.add_mul]; omega, flat_at hs L i k hk (by simpa using hi)]
    rfl
theorem quL_len (q : Qu) : (quL q).length = 3 := rfl
theorem flat_range {α : Type} {f : α → List Value} {s : Nat} (hs : ∀ x, (f x).length = s) {L : List α} {w : World} {g : Nat} {cur : Array Value} {t : TypeId} (hh : w.heap[g]? = some (.cells cur t (0, 0))) (ht : cur.toList.take (L.length * s) = L.flatMap f) (j : Nat) (hj : j < L.length) : w.rangeAt g (j * s) (f L[j]) := by
  intro k v hk
  obtain ⟨hkl, _⟩ := List.getElem?_eq_some_iff.1 hk
  rw [hs] at hkl
  have h1 := flat_at hs L j k hkl hj
  have hlt : j * s + k < L.length * s := by
    have := Nat.mul_le_mul_right s (show j + 1 ≤ L.length by omega)
    rw [Nat.add_mul] at this; omega
  rw [cell_of_row _ g (j * s + k) _ _ _ hh]
  rw [hk, ← ht, List.getElem?_take_of_lt hlt] at h1
  simpa using h1

/-- A slice of questions in a block of its own. -/
def QsT (w : World) (A : Option Addr) (L : List Qu) : Prop := 0 < L.length → ∃ g off cs, A = some ⟨g, off, none⟩ ∧ w.heap[g]? = some (.cells cs 44 (0, 0)) ∧ ∀ j (h : j < L.length), w.rangeAt g (off + j * 3) (quL L[j])
theorem info_q3 : (Tryd.prog.info? 44).map (fun i => (i.zero, i.size, i.bytes)) = some (some (.agg #[.string ⟨#[]⟩, .int .i64 0, .int .i64 0]), 3, 32) := by kernel_rfl

set_option maxHeartbeats 1000000 in
theorem CloneQ_any (A : Option Addr) (L : List Qu) (c : Nat) (w : World) (hS : Qs w A L) (hl : L.length * 32 ≤ 140737488351232) :
    Calls Tryd.prog 26 #[.slice A L.length c] w fun e w' => ∃ A' c', e = .returned (.slice A' L.length c') ∧ QsT w' A' L ∧ L.length ≤ c' ∧ c' ≤ 9223372036854775807 ∧ Below w.heap.size w w' := by
  have q : ∀ (w : World) (a : Option Addr) (n c n' c' : Nat), (binOp .eql 24 (.slice a n c) (.slice none n' c')).run Tryd.prog w = .ok (.bool a.isNone) w := fun w a n c n' c' => Lib.run_eql_slice_nil w _ _ a n c n' c' Tryd.underlying24
  cases A with
  | none =>
    have hl0 : L = [] := by
      rcases L with _ | ⟨b, l⟩
      · rfl
      · obtain ⟨g, off, h, _⟩ := hS (by simp)
        cases h
    subst hl0
    clear hS
    go_enter Tryd.func26, Tryd.ntmps26
    go_wp2_with fail
    go_ret
    exact ⟨none, 0, rfl, fun h => absurd h (by simp), by simp, by omega, Below.refl _ _⟩
  | some p =>
    have hcells : ∀ (o : Obj) j u, (L.flatMap quL)[j]? = some u → (w.alloc o).cell? (p.add j) = some u := by
      intro o j u hj
      obtain ⟨hjl, _⟩ := List.getElem?_eq_some_iff.1 hj
      rw [flat_len quL_len] at hjl
      have hn : 0 < L.length := by omega
      obtain ⟨g, off, hp, hcs⟩ := hS hn
      injection hp with hp
      subst hp
      have hi : j / 3 < L.length := by omega
      have h1 := flat_at quL_len L (j / 3) (j % 3) (by omega) hi
      rw [show j / 3 * 3 + j % 3 = j by omega, hj] at h1
      have h2 := hcs (j / 3) hi (j % 3) u h1.symm
      have h3 : (w.alloc o).cell? ⟨g, off + j / 3 * 3 + j % 3, none⟩ = some u := cell_on h2 (Below.alloc (Below.refl _ _) (Nat.le_refl _) _)
      rw [Addr.add_lit]
      rw [show off + j / 3 * 3 + j % 3 = off + j by omega] at h3
      exact h3
    have HC := Lib.hid hcells
    obtain ⟨xs, hxs⟩ : ∃ xs, L.flatMap quL = xs := ⟨_, rfl⟩
    rw [hxs] at HC
    have HX := Lib.hid hxs
    clear hxs hcells hS
    obtain ⟨n, hn⟩ : ∃ n, n = L.length := ⟨_, rfl⟩
    rw [← hn]
    rw [← hn] at hl
    have HN := Lib.hid hn
    have hxl : xs.length = n * 3 := by rw [← HX.out, flat_len quL_len, hn]
    have h1c : ∀ u ∈ xs, u.oneCell' = true := fun u hu => by
      rw [← HX.out] at hu
      obtain ⟨q, _, hq⟩ := List.mem_flatMap.1 hu
      simp [quL] at hq
      rcases hq with rfl | rfl | rfl <;> rfl
    have H1 := Lib.hid h1c
    have HXL := Lib.hid hxl
    obtain ⟨i0, hi, hz0, hz1, hz2⟩ := info_parts info_q3
    clear hxl h1c hn
    go_enter Tryd.func26, Tryd.ntmps26
    go_wp2_with (at_builtin; refine wpList_append_own _ rfl _ _ 24 rfl w.heap.size 44 i0 (.agg #[.string ⟨#[]⟩, .int .i64 0, .int .i64 0]) 3 32 Tryd.underlying24 hi hz0 hz1 hz2 rfl (by decide) _ _ _ rfl (World.ownsRow_made w #[] 0 (Nat.le_refl _) (Nat.zero_le _) rfl) p n c xs rfl HXL.out (HC.out _) H1.out (by unfold maxLen; omega) (by omega) (by simp) ?_)
    intro v' w1 hown hgrow _
    have hb : Below w.heap.size w w1 := ((Below.refl _ w).alloc (Nat.le_refl _) _).grown hgrow (by simp) (by intro k hk; simp [Value.ownBlock] at hk; omega)
    have hres : ∃ A' c', v' = .slice A' n c' ∧ QsT w1 A' L ∧ n ≤ c' ∧ c' ≤ 9223372036854775807 := by
      rcases hown.2 with ⟨hv, h0⟩ | ⟨g, cap, cur, hv, _, hh, hnc, hcm, hsz, ht⟩
      · have hn0 : n = 0 := by simpa using h0
        exact ⟨none, 0, by rw [hv, hn0], fun h => by rw [← HN.out, hn0] at h; omega, by omega, by omega⟩
      · refine ⟨_, cap, by rw [hv], fun _ => ⟨g, 0, cur, rfl, hh, fun j hj => ?_⟩, by omega, by unfold maxLen at hcm; omega⟩
        have ht' : cur.toList.take (L.length * 3) = L.flatMap quL := by
          rw [HX.out, ← HN.out]
          simpa using ht
        rw [Nat.zero_add]
        exact flat_range quL_len hh ht' j hj
    obtain ⟨A', c', rfl, r1, r2, r3⟩ := hres
    clear hown hgrow
    go_wp2_with fail
    go_ret
    exact ⟨A', c', rfl, r1, r2, r3, hb⟩
end Go.Proofs.YtknpkifhkefikaaDoor
namespace Go.Proofs.YtknpkifhkefikaaDoor
open Go.RowKit
set_option linter.unusedVariables false
set_option maxRecDepth 100000

set_option maxHeartbeats 1000000 in
theorem CloneT_any (A : Option Addr) (l : Bs) (n c : Nat) (w : World) (hS : Bys w A l) (hn : n = l.length) (hl : n ≤ 140737488351232) (hin : ∀ p, A = some p → 0 < n → p.block < w.heap.size) :
    Calls Tryd.prog 19 #[.slice A n c] w fun e w' => ∃ v', e = .returned v' ∧ w'.ownsRow w.heap.size 5 1 v' n (l.map byteV) ∧ (A = none → v' = .slice none 0 0) ∧ Below w.heap.size w w' := by
  have q : ∀ (w : World) (a : Option Addr) (n c n' c' : Nat), (binOp .eql 29 (.slice a n c) (.slice none n' c')).run Tryd.prog w = .ok (.bool a.isNone) w := fun w a n c n' c' => Lib.run_eql_slice_nil w _ _ a n c n' c' Tryd.underlying29
  cases A with
  | none =>
    have hl0 : l = [] := by
      rcases l with _ | ⟨b, l⟩
      · rfl
      · obtain ⟨g, off, h, _⟩ := hS (by simp)
        cases h
    subst hl0
    clear hS hin
    have HN := Lib.hid hn
    go_enter Tryd.func19, Tryd.ntmps19
    go_wp2_with fail
    go_ret
    exact ⟨_, rfl, by rw [hn]; exact World.ownsRow_nil _ _ _ _, fun _ => rfl, Below.refl _ _⟩
  | some p =>
    have hcells : ∀ (o : Obj) j u, (l.map byteV)[j]? = some u → (w.alloc o).cell? (p.add j) = some u := by
      intro o j u hj
      rw [List.getElem?_map] at hj
      cases hlj : l[j]? with
      | none => rw [hlj] at hj; cases hj
      | some b =>
        rw [hlj] at hj
        injection hj with hj
        obtain ⟨hjl, hjb⟩ := List.getElem?_eq_some_iff.1 hlj
        obtain ⟨g, off, hp, hcs⟩ := hS (by omega)
        injection hp with hp
        have hg := hin p rfl (by omega)
        subst hp
        have hadd : (⟨g, off, none⟩ : Addr).add j = ⟨g, off + j, none⟩ := by unfold Addr.add; split <;> simp_all
        rw [hadd, Below.cell (p := ⟨g, off + j, none⟩) (B := w.heap.size) ((Below.refl _ w).alloc (Nat.le_refl _) _) hg, hcs j hjl, hjb, ← hj]
        rfl
    have HC := Lib.hid hcells
    clear hcells hS hin
    obtain ⟨xs, hxs⟩ : ∃ xs, l.map byteV = xs := ⟨_, rfl⟩
    rw [hxs] at HC
    have HX := Lib.hid hxs
    clear hxs
    have hxl : xs.length = n * 1 := by rw [← HX.out]; simp; omega
    have h1c : ∀ u ∈ xs, u.oneCell' = true := fun u hu => by
      rw [← HX.out] at hu
      obtain ⟨b, _, rfl⟩ := List.mem_map.1 hu
      rfl
    have H1 := Lib.hid h1c
    have HXL := Lib.hid hxl
    obtain ⟨i0, hi, hz0, hz1, hz2⟩ := info_parts info_u8
    clear hxl h1c hn
    go_enter Tryd.func19, Tryd.ntmps19
    go_wp2_with (at_builtin; refine wpList_append_own _ rfl _ _ 29 rfl w.heap.size 5 i0 (.int .u8 0) 1 1 Tryd.underlying29 hi hz0 hz1 hz2 rfl (by decide) _ _ _ rfl (World.ownsRow_made w #[] 0 (Nat.le_refl _) (Nat.zero_le _) rfl) p n c xs rfl HXL.out (HC.out _) H1.out (by unfold maxLen; omega) (by omega) (by simp) ?_)
    intro v' w1 hown hgrow _
    have ho : w1.ownsRow w.heap.size 5 1 v' n (l.map byteV) := by rw [HX.out]; simpa using hown
    have hb : Below w.heap.size w w1 := ((Below.refl _ w).alloc (Nat.le_refl _) _).grown hgrow (by simp) (by intro k hk; simp [Value.ownBlock] at hk; omega)
    clear hown hgrow
    go_wp2_with fail
    go_ret
    exact ⟨v', rfl, ho, (fun h => by cases h), hb⟩

/-- Data that lie in a block of bytes of their own. -/
structure DatT (w : World) (a : Option Addr) (c : Nat) (d : Bs) : Prop where
  dat : Dat w a c d
  own : 0 < d.length → ∃ g off cs, a = some ⟨g, off, none⟩ ∧ w.heap[g]? = some (.cells cs 5 (0, 0))
theorem DatT.keptT {w w' : World} {a : Option Addr} {c : Nat} {d : Bs} {r : Option Nat} {T : TypeId} (hT : T ≠ 5) (h : DatT w a c d) (hg : w.grownBy w' r) (hr : ∀ g, r = some g → ∃ cs fz, w.heap[g]? = some (.cells cs T fz)) : DatT w' a c d := by
  have hb : ∀ g off cs, a = some (⟨g, off, none⟩ : Addr) → w.heap[g]? = some (.cells cs 5 (0, 0)) → w'.heap[g]? = w.heap[g]? := fun g off cs _ hcs => by
    refine hg.block g (Array.getElem?_eq_some_iff.1 hcs).1 (fun he => ?_)
    obtain ⟨cs', fz, h2⟩ := hr g he.symm
    rw [hcs] at h2
    injection h2 with h2
    injection h2 with _ h2 _
    exact hT h2.symm
  refine ⟨⟨fun hn => ?_, h.dat.le, h.dat.max, h.dat.nil⟩, fun hn => ?_⟩
  · obtain ⟨g, off, cs, ha, hcs⟩ := h.own hn
    obtain ⟨g2, off2, ha2, hc⟩ := h.dat.bys hn
    rw [ha] at ha2
    injection ha2 with ha2
    injection ha2 with e1 e2
    subst e1 e2
    exact ⟨g, off, ha, fun j hj => by rw [World.cell?_of_block (a := ⟨g, off + j, none⟩) (hb g off cs ha hcs)]; exact hc j hj⟩
  · obtain ⟨g, off, cs, ha, hcs⟩ := h.own hn
    exact ⟨g, off, cs, ha, (hb g off cs ha hcs).trans hcs⟩
theorem DatT.kept {w w' : World} {a : Option Addr} {c : Nat} {d : Bs} {r : Option Nat} (h : DatT w a c d) (hg : w.grownBy w' r) (hr : ∀ g, r = some g → ∃ cs fz, w.heap[g]? = some (.cells cs 72 fz)) : DatT w' a c d := h.keptT (by decide) hg hr
theorem DatT.below {w w' : World} {a : Option Addr} {c : Nat} {d : Bs} (h : DatT w a c d) (hB : Below w.heap.size w w') : DatT w' a c d :=
  h.kept (r := none) ⟨hB.os, hB.tape, hB.output, hB.size, fun k hk _ => hB.block k hk⟩ (fun g h => by cases h)
theorem DatT.of {w : World} {base n : Nat} {A : Option Addr} {c : Nat} {d : Bs} (h : w.ownsRow base 5 1 (.slice A n c) n (d.map byteV)) : n = d.length ∧ DatT w A c d := by
  have hl : d.length = n := by have := h.1; simpa using this
  refine ⟨hl.symm, ?_⟩
  have ho := OwnB.of (l := d) h rfl
  obtain ⟨A', c', hv, hB, hle, hm⟩ := ho.bys
  injection hv with e1 e2 e3
  subst e1 e3
  rcases h.2 with ⟨hv, h0⟩ | ⟨g, cap, cur, hv, hb, hh, hc, hm2, hsz, ht⟩
  · injection hv with e1 e2 e3
    exact ⟨⟨hB, hle, by unfold maxLen at hm; omega, fun _ => e3⟩, fun hn => by omega⟩
  · injection hv with e1 e2 e3
    exact ⟨⟨hB, hle, by unfold maxLen at hm; omega, fun hA => by rw [e1] at hA; cases hA⟩, fun _ => ⟨g, 0, cur, e1, hh⟩⟩

/-- Rows of records, laid end to end. -/
def Rows5 (w : World) (xs : List Value) (M : List Rr) : Prop := xs.length = M.length * 5 ∧ ∀ j (h : j < M.length), ∃ a c, DatT w a c (M[j]).d ∧ ∀ i, i < 5 → xs[j * 5 + i]? = (rrL M[j] a c)[i]?
theorem Rows5.kept {w w' : World} {xs : List Value} {M : List Rr} {r : Option Nat} (h : Rows5 w xs M) (hg : w.grownBy w' r) (hr : ∀ g, r = some g → ∃ cs fz, w.heap[g]? = some (.cells cs 72 fz)) : Rows5 w' xs M :=
  ⟨h.1, fun j hj => by
    obtain ⟨a, c, h1, h2⟩ := h.2 j hj
    exact ⟨a, c, h1.kept hg hr, h2⟩⟩
theorem Rows5.below {w w' : World} {xs : List Value} {M : List Rr} (h : Rows5 w xs M) (hB : Below w.heap.size w w') : Rows5 w' xs M :=
  h.kept (r := none) ⟨hB.os, hB.tape, hB.output, hB.size, fun k hk _ => hB.block k hk⟩ (fun g h => by cases h)
theorem Rows5.snoc {w : World} {xs : List Value} {M : List Rr} {x : Rr} {a : Option Addr} {c : Nat} (h : Rows5 w xs M) (hd : DatT w a c x.d) : Rows5 w (xs ++ rrL x a c) (M ++ [x]) := by
  refine ⟨by rw [List.length_append, List.length_append, h.1]; simp [rrL, Nat.add_mul], fun j hj => ?_⟩
  rw [List.length_append] at hj
  by_cases hjl : j < M.length
  · obtain ⟨a', c', h1, h2⟩ := h.2 j hjl
    rw [List.getElem_append_left hjl]
    refine ⟨a', c', h1, fun i hi => ?_⟩
    rw [List.getElem?_append_left (by rw [h.1]; omega)]
    exact h2 i hi
  · have : j = M.length := by simp at hj; omega
    subst this
    rw [List.getElem_append_right (Nat.le_refl _)]
    simp only [Nat.sub_self, List.getElem_cons_zero]
    refine ⟨a, c, hd, fun i hi => ?_⟩
    rw [List.getElem?_append_right (by rw [h.1]; omega), h.1]
    congr 1
    omega
/-- A slice of records, of questions, in a block of its own; with data in blocks of their own. -/
def RsT (w : World) (A : Option Addr) (L : List Rr) : Prop := 0 < L.length → ∃ g off cs, A = some ⟨g, off, none⟩ ∧ w.heap[g]? = some (.cells cs 72 (0, 0)) ∧ ∀ j (h : j < L.length), ∃ a c, DatT w a c (L[j]).d ∧ w.rangeAt g (off + j * 5) (rrL L[j] a c)
theorem RsT.rs {w : World} {A : Option Addr} {L : List Rr} (h : RsT w A L) : Rs w A L := fun hn => by
  obtain ⟨g, off, cs, h1, _, h3⟩ := h hn
  exact ⟨g, off, h1, fun j hj => by obtain ⟨a, c, h4, h5⟩ := h3 j hj; exact ⟨a, c, h4.dat, h5⟩⟩
theorem QsT.qs {w : World} {A : Option Addr} {L : List Qu} (h : QsT w A L) : Qs w A L := fun hn => by
  obtain ⟨g, off, cs, h1, _, h3⟩ := h hn
  exact ⟨g, off, h1, h3⟩
theorem kept_other {w w' : World} {r : Option Nat} {T U : TypeId} {g : Nat} {cs : Array Value} (hT : T ≠ U) (hg : w.grownBy w' r) (hr : ∀ g, r = some g → ∃ cs fz, w.heap[g]? = some (.cells cs T fz)) (h : w.heap[g]? = some (.cells cs U (0, 0))) : w'.heap[g]? = w.heap[g]? := by
  refine hg.block g (Array.getElem?_eq_some_iff.1 h).1 (fun he => ?_)
  obtain ⟨cs', fz, h2⟩ := hr g he.symm
  rw [h] at h2
  injection h2 with h2
  injection h2 with _ h2 _
  exact hT h2.symm
theorem range_block {w w' : World} {g o : Nat} {cs : List Value} (h : w.rangeAt g o cs) (hb : w'.heap[g]? = w.heap[g]?) : w'.rangeAt g o cs := fun j v hv => (World.cell?_of_block (a := ⟨g, o + j, none⟩) hb).trans (h j v hv)
theorem RsT.keptT {w w' : World} {A : Option Addr} {L : List Rr} {r : Option Nat} {T : TypeId} (hT : T ≠ 5) (hT2 : T ≠ 72) (h : RsT w A L) (hg : w.grownBy w' r) (hr : ∀ g, r = some g → ∃ cs fz, w.heap[g]? = some (.cells cs T fz)) : RsT w' A L := fun hn => by
  obtain ⟨g, off, cs, h1, h2, h3⟩ := h hn
  have hb := kept_other hT2 hg hr h2
  exact ⟨g, off, cs, h1, hb.trans h2, fun j hj => by obtain ⟨a, c, h4, h5⟩ := h3 j hj; exact ⟨a, c, h4.keptT hT hg hr, range_block h5 hb⟩⟩
theorem QsT.keptT {w w' : World} {A : Option Addr} {L : List Qu} {r : Option Nat} {T : TypeId} (hT2 : T ≠ 44) (h : QsT w A L) (hg : w.grownBy w' r) (hr : ∀ g, r = some g → ∃ cs fz, w.heap[g]? = some (.cells cs T fz)) : QsT w' A L := fun hn => by
  obtain ⟨g, off, cs, h1, h2, h3⟩ := h hn
  have hb := kept_other hT2 hg hr h2
  exact ⟨g, off, cs, h1, hb.trans h2, fun j hj => range_block (h3 j hj) hb⟩
theorem RsT.below {w w' : World} {A : Option Addr} {L : List Rr} (h : RsT w A L) (hB : Below w.heap.size w w') : RsT w' A L := h.keptT (T := 3) (by decide) (by decide) (grown_of_below hB none) (fun g h => by cases h)
theorem QsT.below {w w' : World} {A : Option Addr} {L : List Qu} (h : QsT w A L) (hB : Below w.heap.size w w') : QsT w' A L := h.keptT (T := 3) (by decide) (grown_of_below hB none) (fun g h => by cases h)

/-- Such rows, as a slice of records. -/
theorem Rows5.rs {w : World} {base n : Nat} {A : Option Addr} {c : Nat} {xs : List Value} {M : List Rr} (ho : w.ownsRow base 72 5 (.slice A n c) n xs) (h : Rows5 w xs M) : n = M.length ∧ RsT w A M ∧ n ≤ c ∧ c ≤ 9223372036854775807 := by
  have hl : n = M.length := by have := ho.1; rw [h.1] at this; omega
  rcases ho.2 with ⟨hv, h0⟩ | ⟨g, cap, cur, hv, hb, hh, hc, hm2, hsz, ht⟩
  · injection hv with e1 e2 e3
    exact ⟨hl, fun hn => by omega, by omega, by omega⟩
  · injection hv with e1 e2 e3
    refine ⟨hl, fun hn => ⟨g, 0, cur, e1, hh, fun j hj => ?_⟩, by omega, by unfold maxLen at hm2; omega⟩
    obtain ⟨a, c', h1, h2⟩ := h.2 j hj
    refine ⟨a, c', h1, fun i v hi => ?_⟩
    obtain ⟨hil, _⟩ := List.getElem?_eq_some_iff.1 hi
    have hi5 : i < 5 := hil
    have h3 := h2 i hi5
    rw [cell_of_row _ g (0 + j * 5 + i) _ _ _ hh]
    rw [hi, ← ht, List.getElem?_take_of_lt (by rw [hl]; have := Nat.mul_le_mul_right 5 (show j + 1 ≤ M.length by omega); omega)] at h3
    rw [Nat.zero_add]
    simpa using h3
end Go.Proofs.YtknpkifhkefikaaDoor
namespace Go.Proofs.YtknpkifhkefikaaDoor
open Go.RowKit
set_option linter.unusedVariables false
set_option maxRecDepth 100000

theorem info_r5 : (Tryd.prog.info? 72).map (fun i => (i.zero, i.size, i.bytes)) = some (some (.agg #[.string ⟨#[]⟩, .int .i64 0, .int .i64 0, .int .i64 0, .slice none 0 0]), 5, 64) := by kernel_rfl

theorem own_kind {w : World} {B size n : Nat} {e : TypeId} {v : Value} {xs : List Value} (h : w.ownsRow B e size v n xs) : ∀ g, v.ownBlock = some g → ∃ cs fz, w.heap[g]? = some (.cells cs e fz) := by
  intro g hg
  rcases h.2 with ⟨rfl, _⟩ | ⟨g', cap, cur, rfl, _, hh, _⟩
  · simp [Value.ownBlock] at hg
  · simp [Value.ownBlock] at hg
    subst hg
    exact ⟨_, _, hh⟩

set_option maxHeartbeats 1000000 in
set_option maxRecDepth 100000 in
theorem RRs_any (A : Option Addr) (L : List Rr) (c : Nat) (w : World) (hS : Rs w A L) (hl : L.length * 64 ≤ 140737488351232) (hd : ∀ x ∈ L, x.d.length ≤ 140737488351232) :
    Calls Tryd.prog 27 #[.slice A L.length c] w fun e w' => ∃ A' c', e = .returned (.slice A' L.length c') ∧ RsT w' A' L ∧ L.length ≤ c' ∧ c' ≤ 9223372036854775807 ∧ Below w.heap.size w w' := by
  obtain ⟨i0, hi, hz0, hz1, hz2⟩ := info_parts info_r5
  obtain ⟨n, hn⟩ : ∃ n, n = L.length := ⟨_, rfl⟩
  rw [← hn]
  rw [← hn] at hl
  have HN := Lib.hid hn
  have HD := Lib.hid hd
  clear hn hd
  go_enter Tryd.func27, Tryd.ntmps27
  go_wp2_with fail
  go_loopw [3, 8] (fun v3 v8 wr => ∃ (k : Nat) (xs : List Value), v8 = .int .i64 k ∧ k ≤ n ∧ wr.ownsRow w.heap.size 72 5 v3 k xs ∧ Rows5 wr xs (L.take k) ∧ Below w.heap.size w wr) (fun _ v8 _ => n - (intOf v8).toNat)
  case atStart => exact ⟨0, [], rfl, by omega, World.ownsRow_nil _ _ _ _, ⟨rfl, fun j hj => absurd hj (by simp)⟩, Below.refl _ _⟩
  case round =>
    obtain ⟨k, xs, rfl, hk, hown, hrows, hB⟩ := hrel
    by_cases hlt : k < n
    · have hlt' : (k : Int) < (n : Int) := by omega
      have kL : k < L.length := by have := HN.out; omega
      obtain ⟨g1, o1, rfl, hc1⟩ := id hS (by omega)
      obtain ⟨a1, d1, D1, R1⟩ := hc1 k kL
      have R1' := range_on R1 hB
      have hxd := HD.out L[k] (List.getElem_mem kL)
      have htk : L.take (k + 1) = L.take k ++ [L[k]] := List.take_succ_eq_append_getElem kL
      have D1' := D1.bys.on hB
      generalize L[k] = x at *
      have HT := Lib.hid htk
      have hsz := hB.size
      have i1 : Hid ((Tryd.prog.info? 72).map (·.size) = some (rrL x a1 d1).toArray.size) := Lib.hid info_rr
      have j1 : Hid ((Tryd.prog.info? 72).map (·.size) = some (rrL x a1 d1).length) := Lib.hid info_rr
      have one1 := Lib.hid (rr_one x a1 d1)
      unfold rrC at one1
      have z1 : Hid ((rrZ).size = (rrL x a1 d1).toArray.size) := Lib.hid rfl
      have rZ := row_new (w := wr) (k := wr.heap.size) (.cells rrZ 72 (0, 0)) rfl
      have r5 := setRow_heap _ _ _ (rrL x a1 d1).toArray _ _ rZ
      have q1 : Below wr.heap.size wr ((wr.alloc (.cells rrZ 72)).setRow wr.heap.size (rrL x a1 d1).toArray) := Below.setRow (Below.alloc (Below.refl _ _) (Nat.le_refl _) _) (Nat.le_refl _) _
      have sz1 : ((wr.alloc (.cells rrZ 72)).setRow wr.heap.size (rrL x a1 d1).toArray).heap.size = wr.heap.size + 1 := by rw [size_setRow]; simp
      rw [rrZ_lit] at rZ r5 q1 sz1
      obtain ⟨W1, hW1⟩ : ∃ W1, W1 = (wr.alloc (.cells #[.string ⟨#[]⟩, .int .i64 0, .int .i64 0, .int .i64 0, .slice none 0 0] 72)).setRow wr.heap.size (rrL x a1 d1).toArray := ⟨_, rfl⟩
      rw [← hW1] at r5 q1 sz1
      have HW1 := Lib.hid hW1
      have hown1 := ownsRow_below hown q1 (Nat.le_refl _)
      have hrows1 := hrows.below q1
      have D1'' := D1'.on q1
      have hB1 := Below.trans hB (q1.mono hsz)
      have c4 : W1.cell? ⟨wr.heap.size, 4, none⟩ = some (.slice a1 x.d.length d1) := (cell_of_row _ _ 4 _ _ _ r5).trans rfl
      have CL := Lib.hid (CloneT_any a1 x.d x.d.length d1 W1 D1'' rfl hxd D1''.inside)
      have R5 := Lib.hid r5
      have HO := Lib.hid hown1
      have HLT := Lib.hid (fun g e => (hown.lt g e).2)
      have HR := Lib.hid hrows1
      clear hW1 hc1 D1 R1 hxd htk hown hrows D1' D1'' hB q1 r5 hown1 hrows1
      have hl5 : (rrL x a1 d1) = rrL x a1 d1 := rfl
      clear hl5
      obtain ⟨l1, hl1⟩ : ∃ l1, l1 = rrL x a1 d1 := ⟨_, rfl⟩
      have HL1 := Lib.hid hl1
      rw [← hl1] at R1' i1 j1 one1 z1 HW1 R5
      clear hl1
      go_wp2_with (first
        | (refine wpList_load_mid rfl 72 (.tmp 10) rfl g1 (o1 + k * 5) rfl l1 _ R1' Tryd.underlying72 rfl j1.out ?_)
        | (refine wpList_store_row rfl 72 (.tmp 5) (.tmp 11) rfl wr.heap.size l1.toArray rfl rfl 72 _ rZ i1.out (by first | exact z1.out | exact z1.out.symm) one1.out ?_; rw [← HW1.out])
        | fail)
      refine CL.out.mono ?_
      rintro e w2 ⟨v, rfl, hv, _, b2⟩
      obtain ⟨B, d, rfl⟩ : ∃ B d, v = .slice B x.d.length d := by
        rcases hv.2 with ⟨h1, h0⟩ | ⟨g, cap, cur, h1, _⟩
        · exact ⟨none, 0, by rw [h1, h0]⟩
        · exact ⟨_, _, h1⟩
      obtain ⟨_, T2⟩ := DatT.of hv
      have r5 := (b2.block _ (Array.getElem?_eq_some_iff.1 R5.out).1).trans R5.out
      have hown2 := ownsRow_below HO.out b2 (Nat.le_refl _)
      have hrows2 := HR.out.below b2
      have hB2 := Below.trans hB1 (b2.mono hB1.size)
      have there : w2.cell? ⟨wr.heap.size, 4, none⟩ = some (.slice a1 x.d.length d1) := cell_on c4 b2
      have fz : w2.frozen? ⟨wr.heap.size, 4, none⟩ = false := frozen_of_row _ _ 4 _ _ r5
      have gs : w2.grownBy (w2.setCell ⟨wr.heap.size, 4, none⟩ (.slice B x.d.length d)) (some wr.heap.size) := by
        have := grownBy_setCells wr.heap.size [.slice B x.d.length d] 4 w2
        simpa [World.setCells] using this
      have r5' := row_set (w := w2) (g := wr.heap.size) (i := 4) (.slice B x.d.length d) r5
      rw [HL1.out, show (rrL x a1 d1).toArray.setIfInBounds 4 (.slice B x.d.length d) = #[.string (bs x.n), .int .i64 x.t, .int .i64 x.c, .int .i64 x.ttl, .slice B x.d.length d] from rfl] at r5'
      have hkind : ∀ g, some wr.heap.size = some g → ∃ cs fz, w2.heap[g]? = some (.cells cs 72 fz) := fun g e => by
        injection e with e
        subst e
        exact ⟨_, _, r5⟩
      have hown3 := hown2.kept gs (.inr (fun e => by have := HLT.out _ e; omega))
      have hrows3 := hrows2.kept gs hkind
      have T3 := T2.kept gs hkind
      have hB3 : Below w.heap.size w (w2.setCell ⟨wr.heap.size, 4, none⟩ (.slice B x.d.length d)) := Below.setCell hB2 hsz _
      have s3 := hB3.size
      have IL := Lib.hid (show (Tryd.prog.info? 72).map (·.size) = some (#[.string (bs x.n), .int .i64 x.t, .int .i64 x.c, .int .i64 x.ttl, .slice B x.d.length d] : Array Value).size from info_rr)
      have H3 := Lib.hid hown3
      have HR3 := Lib.hid hrows3
      have HT3 := Lib.hid T3
      have GR := Lib.hid r5'
      have HB3 := Lib.hid hB3
      clear hv T2 hown2 hrows2 hB2 gs r5 hkind hown3 hrows3 T3 hB3 HO HR R5 HW1 c4 b2 hB1 r5' R1' rZ CL
      obtain ⟨W3, hW3⟩ : ∃ W3, W3 = w2.setCell ⟨wr.heap.size, 4, none⟩ (.slice B x.d.length d) := ⟨_, rfl⟩
      rw [← hW3] at H3 HR3 HT3 GR HB3 s3
      have HW3 := Lib.hid hW3
      clear hW3
      go_wp2_with (first
        | (refine wpList_load_row rfl 72 (.tmp 5) rfl wr.heap.size rfl 72 _ (0, 0) _ (by rw [← HW3.out]; exact GR.out) Tryd.underlying72 rfl IL.out ?_; rw [← HW3.out])
        | (at_builtin; refine wpList_append_own _ rfl _ _ 25 rfl w.heap.size 72 i0 (.agg #[.string ⟨#[]⟩, .int .i64 0, .int .i64 0, .int .i64 0, .slice none 0 0]) 5 64 Tryd.underlying25 hi hz0 hz1 hz2 rfl (by decide) _ _ _ rfl (H3.out.alloc _) ⟨W3.heap.size, 0, none⟩ 1 1 [.string (bs x.n), .int .i64 x.t, .int .i64 x.c, .int .i64 x.ttl, .slice B x.d.length d] rfl rfl ?c1 ?c2 ?c3 ?c4 ?c5 ?_)
        | fail)
      case c1 => exact World.news_of_block (cs := #[.string (bs x.n), .int .i64 x.t, .int .i64 x.c, .int .i64 x.ttl, .slice B x.d.length d]) (t := 72) (fr := (0, 0)) (row_new _ rfl)
      case c2 => simp [Value.oneCell']
      case c3 => unfold maxLen; omega
      case c4 => omega
      case c5 => simp; omega
      intro v' w5 hown5 hgrow _
      have b4 : Below W3.heap.size W3 (W3.alloc (.cells #[.string (bs x.n), .int .i64 x.t, .int .i64 x.c, .int .i64 x.ttl, .slice B x.d.length d] 72)) := Below.alloc (Below.refl _ _) (Nat.le_refl _) _
      have hk2 := own_kind (H3.out.alloc (.cells #[.string (bs x.n), .int .i64 x.t, .int .i64 x.c, .int .i64 x.ttl, .slice B x.d.length d] 72))
      have hr5 := ((HR3.out.below b4).kept hgrow hk2).snoc (x := x) ((HT3.out.below b4).kept hgrow hk2)
      rw [← HT.out] at hr5
      have hB5 : Below w.heap.size w w5 := Below.grown (Below.alloc HB3.out s3 _) hgrow (by simp; omega) (fun g e => (H3.out.lt g e).1)
      have HH5 := Lib.hid hr5
      have HO5 := Lib.hid hown5
      clear hgrow hk2 b4 hown5 hr5 H3 HR3 HT3 GR HB3 HW3 IL
      go_wp2_with fail
      go_roundw
      case rel => exact ⟨k + 1, _, by go_num, by omega, HO5.out, HH5.out, hB5⟩
      case measure => simp [intOf]; omega
    · have hlt' : ¬ (k : Int) < (n : Int) := by omega
      obtain rfl : k = n := by omega
      have htk : L.take k = L := by rw [HN.out, List.take_length]
      rw [htk] at hrows
      obtain ⟨A', c', rfl⟩ : ∃ A' c', u3 = .slice A' k c' := by
        rcases hown.2 with ⟨h1, h0⟩ | ⟨g, cap, cur, h1, _⟩
        · exact ⟨none, 0, by rw [h1, h0]⟩
        · exact ⟨_, _, h1⟩
      obtain ⟨_, h1, h2, h3⟩ := Rows5.rs hown hrows
      clear hown hrows hS htk
      go_wp2_with fail
      go_ret
      exact ⟨A', c', rfl, h1, by rw [← HN.out]; exact h2, h3, hB⟩
end Go.Proofs.YtknpkifhkefikaaDoor
