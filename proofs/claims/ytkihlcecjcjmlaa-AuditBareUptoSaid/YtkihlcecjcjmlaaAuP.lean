/-
  The landed Backed of a journal without replies; the walk of AuditBare.
-/
import Derived.Test.YtkihlcecjcjmlaaAuN
import Derived.Test.YtkihlcecjcjmlaaAuI
namespace Go.Proofs.Ytkihlcecjcjmlaa
open Go.RowKit
set_option linter.unusedVariables false
set_option maxRecDepth 100000

theorem info_ev15 : (Try.prog.info? 31).map (fun i => (i.zero, i.size, i.bytes)) = some (some (.agg #[.bool false, .int .i64 0, .int .i64 0, .int .i64 0, .bool false, .int .i64 0, .bool false, .bool false, .bool false, .bool false, .int .i64 0, .slice none 0 0, .slice none 0 0, .slice none 0 0, .slice none 0 0]), 15, 160) := by kernel_rfl
set_option maxHeartbeats 4000000 in
set_option maxRecDepth 100000 in
theorem backed_no (A : Option Addr) (L : List Ev) (n c : Nat) (A2 : Option Addr) (L2 : List Ac) (c2 : Nat) (w : World) (hn : n = L.length) (hS : Evs w A L) (hr : ∀ e ∈ L, e.rep = false) (hm : n ≤ 1000000) (hA : Acs w A2 L2) (hl : L2.length ≤ 1048576) :
    Calls Try.prog 8 #[.slice A n c, .slice A2 L2.length c2] w fun e w' => e = .returned (.bool true) ∧ Below w.heap.size w w' := by
  have HN := Lib.hid hn
  have HS := Lib.hid hS
  have HR := Lib.hid hr
  have NB := Lib.hid (newBacking_any A2 L2 c2 w hA hl)
  obtain ⟨n2, hn2⟩ : ∃ n, n = L2.length := ⟨_, rfl⟩
  rw [← hn2] at NB ⊢
  clear hn hS hr hA hl hn2
  go_enter Try.func8, Try.ntmps8
  go_wp2_with fail
  refine NB.out.mono ?_
  rintro e w1 ⟨⟨mp, rfl⟩, b1⟩
  have B1 : Hid (Below w.heap.size w (w1.alloc (.cells #[.map mp] 45))) := Lib.hid (Below.alloc b1 b1.size _)
  clear NB b1
  go_wp2_with fail
  go_loopw [13] (fun v13 wr => ∃ k : Nat, v13 = .int .i64 k ∧ k ≤ n ∧ Hid (Below w.heap.size w wr)) (fun v13 _ => n - (intOf v13).toNat)
  case atStart => exact ⟨0, rfl, by omega, B1⟩
  case round =>
    obtain ⟨k, rfl, hk, HB⟩ := hrel
    rename World => wr
    clear B1
    by_cases hlt : k < n
    · have hlt' : (k : Int) < (n : Int) := by omega
      have kL : k < L.length := by have := HN.out; omega
      obtain ⟨g1, o1, rfl, hc1⟩ := id HS.out (by omega)
      obtain ⟨v, E1, R1⟩ := hc1 k kL
      have R1' := range_on R1 HB.out
      have hrep := HR.out L[k] (List.getElem_mem kL)
      obtain ⟨x, hx⟩ : ∃ x, x = L[k] := ⟨_, rfl⟩
      rw [← hx] at R1' hrep
      have hsz := HB.out.size
      have i1 : Hid ((Try.prog.info? 31).map (·.size) = some (evC x v).size) := Lib.hid info_ev
      have j1 : Hid ((Try.prog.info? 31).map (·.size) = some (evL x v).length) := Lib.hid info_ev
      have one1 := Lib.hid (ev_one x v)
      have z1 : Hid ((#[.bool false, .int .i64 0, .int .i64 0, .int .i64 0, .bool false, .int .i64 0, .bool false, .bool false, .bool false, .bool false, .int .i64 0, .slice none 0 0, .slice none 0 0, .slice none 0 0, .slice none 0 0] : Array Value).size = (evC x v).size) := Lib.hid rfl
      have rZ := row_new (w := wr) (k := wr.heap.size) (.cells #[.bool false, .int .i64 0, .int .i64 0, .int .i64 0, .bool false, .int .i64 0, .bool false, .bool false, .bool false, .bool false, .int .i64 0, .slice none 0 0, .slice none 0 0, .slice none 0 0, .slice none 0 0] 31 (0, 0)) rfl
      have r5 := setRow_heap _ _ _ (evC x v) _ _ rZ
      have q1 : Below wr.heap.size wr ((wr.alloc (.cells #[.bool false, .int .i64 0, .int .i64 0, .int .i64 0, .bool false, .int .i64 0, .bool false, .bool false, .bool false, .bool false, .int .i64 0, .slice none 0 0, .slice none 0 0, .slice none 0 0, .slice none 0 0] 31 (0, 0))).setRow wr.heap.size (evC x v)) := Below.setRow (Below.alloc (Below.refl _ _) (Nat.le_refl _) _) (Nat.le_refl _) _
      obtain ⟨W1, hW1⟩ : ∃ W1, W1 = (wr.alloc (.cells #[.bool false, .int .i64 0, .int .i64 0, .int .i64 0, .bool false, .int .i64 0, .bool false, .bool false, .bool false, .bool false, .int .i64 0, .slice none 0 0, .slice none 0 0, .slice none 0 0, .slice none 0 0] 31 (0, 0))).setRow wr.heap.size (evC x v) := ⟨_, rfl⟩
      rw [← hW1] at r5 q1
      obtain ⟨c0, -, -, -⟩ := ev_cell r5
      rw [hrep] at c0
      have HW1 := Lib.hid hW1
      have B2 := Lib.hid (Below.trans HB.out (q1.mono hsz))
      obtain ⟨C, hC⟩ : ∃ C, C = evC x v := ⟨_, rfl⟩
      obtain ⟨l1, hl1⟩ : ∃ l1, l1 = evL x v := ⟨_, rfl⟩
      have hCl : C = l1.toArray := by rw [hC, hl1]; rfl
      rw [← hl1] at R1' j1
      rw [← hC] at i1 one1 z1 HW1
      have HCL := Lib.hid hCl
      clear hc1 E1 R1 r5 q1 hW1 hC hl1 hCl hx HB hrep
      go_wp2_with (first
        | (refine wpList_load_mid rfl 31 (.tmp 15) rfl g1 (o1 + k * 15) rfl l1 _ R1' Try.underlying31 rfl j1.out ?_; rw [← HCL.out])
        | (refine wpList_store_row rfl 31 (.tmp 7) (.tmp 16) rfl wr.heap.size C rfl rfl 31 _ rZ i1.out (by first | exact z1.out | exact z1.out.symm) one1.out ?_; rw [← HW1.out])
        | fail)
      go_roundw
      case rel => exact ⟨k + 1, by go_num, by omega, B2⟩
      case measure => simp [intOf]; omega
    · have hlt' : ¬ (k : Int) < (n : Int) := by omega
      go_wp2_with fail
      go_ret
      exact ⟨rfl, HB.out⟩

/-- An event as a query. -/
def unrep (e : Ev) : Ev := ⟨false, e.st, e.tm, e.h, e.q⟩
theorem unrep_set (e : Ev) (v : EV) : (evC e v).setIfInBounds 0 (.bool false) = evC (unrep e) v := rfl
/-- Rows of events, laid end to end; their lists in old memory. -/
def RowsEv (w : World) (xs : List Value) (M : List Ev) : Prop := xs.length = M.length * 15 ∧ ∀ j (h : j < M.length), ∃ v, EvAt w M[j] v ∧ ∀ i, i < 15 → xs[j * 15 + i]? = (evL M[j] v)[i]?
theorem RowsEv.nil (w : World) : RowsEv w [] [] := ⟨rfl, fun j h => absurd h (by simp)⟩
theorem RowsEv.snoc {w : World} {xs : List Value} {M : List Ev} {x : Ev} {v : EV} (h : RowsEv w xs M) (hd : EvAt w x v) : RowsEv w (xs ++ evL x v) (M ++ [x]) := by
  refine ⟨by rw [List.length_append, List.length_append, h.1]; simp [evL, Nat.add_mul], fun j hj => ?_⟩
  rw [List.length_append] at hj
  by_cases hjl : j < M.length
  · obtain ⟨v', h1, h2⟩ := h.2 j hjl
    rw [List.getElem_append_left hjl]
    refine ⟨v', h1, fun i hi => ?_⟩
    rw [List.getElem?_append_left (by rw [h.1]; omega)]
    exact h2 i hi
  · have : j = M.length := by simp at hj; omega
    subst this
    rw [List.getElem_append_right (Nat.le_refl _)]
    simp only [Nat.sub_self, List.getElem_cons_zero]
    refine ⟨v, hd, fun i hi => ?_⟩
    rw [List.getElem?_append_right (by rw [h.1]; omega), h.1]
    congr 1
    omega
theorem RowsEv.evs {w w' : World} {B n : Nat} {v : Value} {xs : List Value} {M : List Ev} (h : RowsEv w xs M) (ho : w'.ownsRow B 31 15 v n xs) (hn : n = M.length) (hB : Below w.heap.size w w') : ∃ A c, v = .slice A n c ∧ Evs w' A M := by
  subst hn
  rcases ho.2 with ⟨h4, h5⟩ | ⟨g, cap, cur, h4, hb, hh, hc, hm, hsz, ht⟩
  · exact ⟨none, 0, by rw [h4, h5], fun h0 => by omega⟩
  · refine ⟨_, cap, h4, fun h0 => ⟨g, 0, rfl, fun j hj => ?_⟩⟩
    obtain ⟨u, h1, h2⟩ := h.2 j hj
    refine ⟨u, h1.on hB, fun i x hi => ?_⟩
    have hi15 : i < 15 := (List.getElem?_eq_some_iff.1 hi).1
    have h3 := h2 i hi15
    rw [Nat.zero_add, cell_of_row _ g (j * 15 + i) _ _ _ hh]
    rw [hi, ← ht, List.getElem?_take_of_lt (by have := Nat.mul_le_mul_right 15 (show j + 1 ≤ M.length by omega); omega)] at h3
    simpa using h3
theorem unpaired {M : List Ev} (h : ∀ e ∈ M, e.rep = false) : pairedP M = true := by
  rw [pairedP_iff]
  intro i hi
  unfold okE
  rw [h _ (List.getElem_mem hi)]
  rfl
def quP (L : List Ev) (k : Nat) : List Ev := (L.take (min k 40)).map unrep
theorem quP_rep {L : List Ev} {k : Nat} : ∀ e ∈ quP L k, e.rep = false := fun e he => by
  obtain ⟨x, _, rfl⟩ := List.mem_map.1 he
  rfl
theorem quP_snoc {L : List Ev} {k : Nat} (h : k < L.length) (h40 : k < 40) : quP L (k + 1) = quP L k ++ [unrep L[k]] := by
  unfold quP
  rw [show min (k + 1) 40 = k + 1 by omega, show min k 40 = k by omega, List.take_succ_eq_append_getElem h, List.map_append]
  rfl
theorem quP_over {L : List Ev} {k : Nat} (h40 : ¬ k < 40) : quP L (k + 1) = quP L k := by
  unfold quP
  rw [show min (k + 1) 40 = 40 by omega, show min k 40 = 40 by omega]
theorem quP_len {L : List Ev} {k : Nat} (h : k ≤ L.length) : (quP L k).length = min k 40 := by
  unfold quP
  rw [List.length_map, List.length_take]
  omega
set_option maxHeartbeats 4000000 in
set_option maxRecDepth 100000 in
theorem AuditBare_any (A : Option Addr) (L : List Ev) (c : Nat) (A2 : Option Addr) (L2 : List Ac) (c2 : Nat) (w : World) (hS : Evs w A L) (hm : L.length ≤ 9223372036854775807) (hA : Acs w A2 L2) (hl : L2.length ≤ 1048576) :
    Calls Try.prog 4 #[.slice A L.length c, .slice A2 L2.length c2] w fun e w' => e = .returned (.bool true) ∧ Below w.heap.size w w' := by
  obtain ⟨n, hn⟩ : ∃ n, n = L.length := ⟨_, rfl⟩
  rw [← hn]
  rw [← hn] at hm
  have HN := Lib.hid hn
  have HS := Lib.hid hS
  have HA := Lib.hid hA
  have HL := Lib.hid hl
  obtain ⟨n2, hn2⟩ : ∃ n, n = L2.length := ⟨_, rfl⟩
  have BK := Lib.hid (fun (A1 : Option Addr) (M : List Ev) (n1 c1 : Nat) (W : World) (e : n1 = M.length) (h1 : Evs W A1 M) (h2 : ∀ e ∈ M, e.rep = false) (h3 : n1 ≤ 1000000) (h4 : Acs W A2 L2) => backed_no A1 M n1 c1 A2 L2 c2 W e h1 h2 h3 h4 hl)
  rw [← hn2] at BK ⊢
  obtain ⟨i0, hi, hy0, hy1, hy2⟩ := info_parts info_ev15
  clear hn hS hA hl hn2
  go_enter Try.func4, Try.ntmps4
  go_wp2_with fail
  go_loopw [5, 10] (fun v5 v10 wr => ∃ (k : Nat) (xs : List Value), v10 = .int .i64 k ∧ k ≤ n ∧ Hid (wr.ownsRow w.heap.size 31 15 v5 (min k 40) xs) ∧ Hid (RowsEv w xs (quP L k)) ∧ Hid (Below w.heap.size w wr)) (fun _ v10 _ => n - (intOf v10).toNat)
  case atStart => exact ⟨0, [], rfl, by omega, Lib.hid (World.ownsRow_nil _ _ _ _), Lib.hid (RowsEv.nil _), Lib.hid (Below.refl _ _)⟩
  case round =>
    obtain ⟨k, xs, rfl, hk, HO, HX, HB⟩ := hrel
    rename World => wr
    by_cases hlt : k < n
    · have hlt' : (k : Int) < (n : Int) := by omega
      have kL : k < L.length := by have := HN.out; omega
      obtain ⟨g1, o1, rfl, hc1⟩ := id HS.out (by omega)
      obtain ⟨v, E1, R1⟩ := hc1 k kL
      have R1' := range_on R1 HB.out
      have QS := Lib.hid (fun h => quP_snoc kL h)
      have QO := Lib.hid (fun h => @quP_over L k h)
      obtain ⟨x, hx⟩ : ∃ x, x = L[k] := ⟨_, rfl⟩
      rw [← hx] at R1' QS E1
      have hsz := HB.out.size
      have i1 : Hid ((Try.prog.info? 31).map (·.size) = some (evC x v).size) := Lib.hid info_ev
      have j1 : Hid ((Try.prog.info? 31).map (·.size) = some (evL x v).length) := Lib.hid info_ev
      have one1 := Lib.hid (ev_one x v)
      have z1 : Hid ((#[.bool false, .int .i64 0, .int .i64 0, .int .i64 0, .bool false, .int .i64 0, .bool false, .bool false, .bool false, .bool false, .int .i64 0, .slice none 0 0, .slice none 0 0, .slice none 0 0, .slice none 0 0] : Array Value).size = (evC x v).size) := Lib.hid rfl
      have rZ := row_new (w := wr) (k := wr.heap.size) (.cells #[.bool false, .int .i64 0, .int .i64 0, .int .i64 0, .bool false, .int .i64 0, .bool false, .bool false, .bool false, .bool false, .int .i64 0, .slice none 0 0, .slice none 0 0, .slice none 0 0, .slice none 0 0] 31 (0, 0)) rfl
      have r5 := setRow_heap _ _ _ (evC x v) _ _ rZ
      have q1 : Below wr.heap.size wr ((wr.alloc (.cells #[.bool false, .int .i64 0, .int .i64 0, .int .i64 0, .bool false, .int .i64 0, .bool false, .bool false, .bool false, .bool false, .int .i64 0, .slice none 0 0, .slice none 0 0, .slice none 0 0, .slice none 0 0] 31 (0, 0))).setRow wr.heap.size (evC x v)) := Below.setRow (Below.alloc (Below.refl _ _) (Nat.le_refl _) _) (Nat.le_refl _) _
      obtain ⟨W1, hW1⟩ : ∃ W1, W1 = (wr.alloc (.cells #[.bool false, .int .i64 0, .int .i64 0, .int .i64 0, .bool false, .int .i64 0, .bool false, .bool false, .bool false, .bool false, .int .i64 0, .slice none 0 0, .slice none 0 0, .slice none 0 0, .slice none 0 0] 31 (0, 0))).setRow wr.heap.size (evC x v) := ⟨_, rfl⟩
      rw [← hW1] at r5 q1
      obtain ⟨c0, -, -, -⟩ := ev_cell r5
      have f0 : W1.frozen? ⟨wr.heap.size, 0, none⟩ = false := frozen_of_row _ _ 0 _ _ r5
      have r6 := row_set (i := 0) (.bool false) r5
      rw [unrep_set] at r6
      have q2 : Below wr.heap.size wr (W1.setCell ⟨wr.heap.size, 0, none⟩ (.bool false)) := Below.setCell q1 (Nat.le_refl _) _
      obtain ⟨W2, hW2⟩ : ∃ W2, W2 = W1.setCell ⟨wr.heap.size, 0, none⟩ (.bool false) := ⟨_, rfl⟩
      rw [← hW2] at r6 q2
      have E2 : EvAt w (unrep x) v := ⟨E1.q, E1.l, E1.m, E1.ok.st, E1.ok.i, E1.ok.o, E1.ok.q⟩
      have q3 : Below wr.heap.size wr (W2.alloc (.cells (evC (unrep x) v) 31 (0, 0))) := Below.alloc q2 q2.size _
      have O3 := Lib.hid (ownsRow_below HO.out q3 (Nat.le_refl _))
      have N3 := Lib.hid (World.news_of_block (row_new (w := W2) (.cells (evC (unrep x) v) 31 (0, 0)) rfl))
      have B3 := Lib.hid (Below.trans HB.out (q3.mono hsz))
      have O1 := Lib.hid (ownsRow_below HO.out q1 (Nat.le_refl _))
      have B1 := Lib.hid (Below.trans HB.out (q1.mono hsz))
      have X3 := Lib.hid (HX.out.snoc E2)
      have i6 : Hid ((Try.prog.info? 31).map (·.size) = some (evC (unrep x) v).size) := Lib.hid info_ev
      have HW1 := Lib.hid hW1
      have HW2 := Lib.hid hW2
      have R6 := Lib.hid r6
      have hev1 : ∀ u ∈ evL (unrep x) v, u.oneCell' = true := by
        intro u hu
        have := ev_one (unrep x) v
        rw [Array.all_eq_true_iff_forall_mem] at this
        exact this u (by simpa [evC] using hu)
      have HE1 := Lib.hid hev1
      have hU : evC (unrep x) v = #[.bool false, .int .i64 x.st, .int .i64 x.tm, .int .i64 x.h.i, .bool x.h.r, .int .i64 x.h.o, .bool x.h.aa, .bool x.h.tc, .bool x.h.rd, .bool x.h.ra, .int .i64 x.h.c, .slice v.aq x.q.length v.cq, .slice v.a1 v.n1 v.c1, .slice v.a2 v.n2 v.c2, .slice v.a3 v.n3 v.c3] := rfl
      rw [hU] at O3 N3 B3 i6 R6
      obtain ⟨C, hC⟩ : ∃ C, C = evC x v := ⟨_, rfl⟩
      obtain ⟨l1, hl1⟩ : ∃ l1, l1 = evL x v := ⟨_, rfl⟩
      have hCl : C = l1.toArray := by rw [hC, hl1]; rfl
      rw [← hl1] at R1' j1
      rw [← hC] at i1 one1 z1 HW1
      have HCL := Lib.hid hCl
      have hmn : min k 40 ≤ 40 := by omega
      clear hc1 E1 E2 R1 r5 r6 q1 q2 q3 hW1 hW2 hC hl1 hCl hx HB HO hU hev1
      by_cases h40 : k < 40
      · have h40' : (k : Int) < 40 := by omega
        have HQ := Lib.hid (QS.out h40)
        have O3' : Hid ((W2.alloc (.cells #[.bool false, .int .i64 x.st, .int .i64 x.tm, .int .i64 x.h.i, .bool x.h.r, .int .i64 x.h.o, .bool x.h.aa, .bool x.h.tc, .bool x.h.rd, .bool x.h.ra, .int .i64 x.h.c, .slice v.aq x.q.length v.cq, .slice v.a1 v.n1 v.c1, .slice v.a2 v.n2 v.c2, .slice v.a3 v.n3 v.c3] 31 (0, 0))).ownsRow w.heap.size 31 15 u5 k xs) := Lib.hid (by
          have := O3.out
          rw [show min k 40 = k by omega] at this
          exact this)
        have hm1 : min (k + 1) 40 = k + 1 := by omega
        have HM1 := Lib.hid hm1
        have SZ3 := Lib.hid B3.out.size
        rw [← HQ.out] at X3
        clear QS QO O1 B1 O3 HX HQ hm1 hm
        obtain ⟨xl, hxl⟩ : ∃ l, l = evL (unrep x) v := ⟨_, rfl⟩
        rw [← hxl] at X3 HE1
        have NW := Lib.hid (show ∀ j u, xl[j]? = some u → _ from by rw [hxl]; exact N3.out)
        have HXL : Hid (xl.length = 1 * 15) := Lib.hid (by rw [hxl]; rfl)
        clear hxl N3
        go_wp2_with (first
          | (refine wpList_load_mid rfl 31 (.tmp 13) rfl g1 (o1 + k * 15) rfl l1 _ R1' Try.underlying31 rfl j1.out ?_; rw [← HCL.out])
          | (refine wpList_store_row rfl 31 (.tmp 7) (.tmp 14) rfl wr.heap.size C rfl rfl 31 _ rZ i1.out (by first | exact z1.out | exact z1.out.symm) one1.out ?_; rw [← HW1.out])
          | (rw [← HW2.out]; refine wpList_load_row rfl 31 (.tmp 7) rfl wr.heap.size rfl 31 _ (0, 0) _ R6.out Try.underlying31 rfl i6.out ?_)
          | (at_builtin; refine wpList_append_at rfl (.tmp 18) (.tmp 20) 22 rfl w.heap.size 31 i0 (.agg #[.bool false, .int .i64 0, .int .i64 0, .int .i64 0, .bool false, .int .i64 0, .bool false, .bool false, .bool false, .bool false, .int .i64 0, .slice none 0 0, .slice none 0 0, .slice none 0 0, .slice none 0 0]) 15 160 Try.underlying22 hi hy0 hy1 hy2 rfl (by decide) _ k xs rfl O3'.out ⟨W2.heap.size, 0, none⟩ 1 1 xl rfl HXL.out NW.out HE1.out (by unfold maxLen; omega) (by omega) SZ3.out ?_)
          | fail)
        intro v9 w9 own9 hg9 hf9
        have O9 : Hid (w9.ownsRow w.heap.size 31 15 v9 (min (k + 1) 40) (xs ++ xl)) := Lib.hid (by rw [HM1.out]; exact own9)
        have B9 := Lib.hid (Below.grown B3.out hg9 B3.out.size (fun i hi => (O3'.out.lt i hi).1))
        clear own9 hg9 hf9 O3' B3 NW HW2 R6 HW1
        go_wp2_with fail
        go_roundw
        case rel => exact ⟨k + 1, xs ++ xl, by go_num, by omega, O9, X3, B9⟩
        case measure => simp [intOf]; omega
      · have h40' : ¬ (k : Int) < 40 := by omega
        have HX2 : Hid (RowsEv w xs (quP L (k + 1))) := Lib.hid (by rw [QO.out h40]; exact HX.out)
        have O2 : Hid (W1.ownsRow w.heap.size 31 15 u5 (min (k + 1) 40) xs) := Lib.hid (by
          have := O1.out
          rw [show min k 40 = 40 by omega] at this
          rw [show min (k + 1) 40 = 40 by omega]
          exact this)
        clear QS QO O1 O3 N3 B3 R6 HW2 X3 HX
        go_wp2_with (first
          | (refine wpList_load_mid rfl 31 (.tmp 13) rfl g1 (o1 + k * 15) rfl l1 _ R1' Try.underlying31 rfl j1.out ?_; rw [← HCL.out])
          | (refine wpList_store_row rfl 31 (.tmp 7) (.tmp 14) rfl wr.heap.size C rfl rfl 31 _ rZ i1.out (by first | exact z1.out | exact z1.out.symm) one1.out ?_; rw [← HW1.out])
          | fail)
        go_roundw
        case rel => exact ⟨k + 1, xs, by go_num, by omega, O2, HX2, B1⟩
        case measure => simp [intOf]; omega
    · have hlt' : ¬ (k : Int) < (n : Int) := by omega
      have hql : (quP L k).length = min k 40 := quP_len (by have := HN.out; omega)
      obtain ⟨A5, c5, rfl, ev5⟩ := HX.out.evs HO.out hql.symm HB.out
      have EV := Lib.hid ev5
      have HQL := Lib.hid hql
      have h40 : min k 40 ≤ 40 := by omega
      obtain ⟨q, hq⟩ : ∃ q, q = min k 40 := ⟨_, rfl⟩
      obtain ⟨M, hM⟩ : ∃ M, M = quP L k := ⟨_, rfl⟩
      have hrp : ∀ e ∈ M, e.rep = false := by rw [hM]; exact quP_rep
      have HRP := Lib.hid hrp
      rw [← hM] at EV HQL
      rw [← hq] at HQL h40 ⊢
      have H40 := Lib.hid h40
      have UN := Lib.hid (unpaired hrp)
      clear hql ev5 hq hM hrp h40 HO HX
      go_wp2_with fail
      refine (paired_w A5 M q c5 _ true HQL.out.symm EV.out (by have := HQL.out; have := H40.out; omega) UN.out).mono ?_
      rintro e w1 ⟨rfl, b1⟩
      have B1 := Lib.hid (Below.trans HB.out (b1.mono HB.out.size))
      have EV1 := Lib.hid (EV.out.on b1)
      clear b1
      go_wp2_with fail
      refine (BK.out A5 M q c5 _ HQL.out.symm EV1.out HRP.out (by have := H40.out; omega) (HA.out.on B1.out)).mono ?_
      rintro e w2 ⟨rfl, b2⟩
      have B2 := Lib.hid (Below.trans B1.out (b2.mono B1.out.size))
      clear b2
      go_wp2_with fail
      go_ret
      exact ⟨rfl, B2.out⟩
end Go.Proofs.Ytkihlcecjcjmlaa
