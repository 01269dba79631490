/-
  The document's net: Dial, Drop, Conns.
-/
import Derived.Test.YtabclpffjpcejaaNvC
namespace Go.Proofs.Ytabclpffjpcejaa
open Go.RowKit Go.Maps
set_option linter.unusedVariables false
set_option maxRecDepth 100000

noncomputable def appC (v u : Value) (ty : TypeId) (w : World) : Result Next := ((Builtin.append_ #[26, 26] ty #[v, u]).run Try.prog w).andThen fun a w' => .ok (.value a) w'
theorem exec_appC (ev : Operand → Value) (d : Option Tmp) (x y : Operand) (t : TypeId) (p : String) (f : Array Edge) (w : World) : (execOp ev { dst := d, op := .call { callee := .builtin .append, args := #[x, y], argTypes := #[26, 26] }, type := t, pos := p, after := f, guard := none }).run Try.prog w = appC (ev x) (ev y) t w := by
  unfold execOp appC
  simp only [resolve, invoke, builtin, Sem.run_bind, Sem.run_pure, Result.andThen_ok, List.map_toArray, List.map_cons, List.map_nil]
attribute [local go_sem ↓] exec_appC
theorem info_cn : (Try.prog.info? 86).map (fun i => (i.zero, i.size, i.bytes)) = some (some (.agg #[.int .i64 0, .int .i64 0, .slice none 0 0]), 3, 40) := by kernel_rfl
theorem run_app_c {w : World} {B : Nat} {v : Value} {L : List Cr} (ty : TypeId) (hown : w.ownsRow B 86 3 v L.length (cRow L)) (ad : Addr) (c m : Nat) (M : List Cr) (hm : m = M.length) (hM : ∀ j u, (cRow M)[j]? = some u → w.cell? (ad.add j) = some u) (hv : ∀ q ∈ M, ∃ a n k, q.v = .slice a n k)
    (hlen : L.length + M.length ≤ 1000000) (hbase : B ≤ w.heap.size) :
    ∃ v' w', appC v (.slice (some ad) m c) ty w = .ok (.value v') w' ∧ w'.ownsRow B 86 3 v' (L ++ M).length (cRow (L ++ M)) ∧ w.grownBy w' v.ownBlock ∧ (∀ k, v'.ownBlock = some k → v.ownBlock = some k ∨ w.heap.size ≤ k) := by
  obtain ⟨i0, hi, hz0, hz1, hz2⟩ := info_parts info_cn
  subst hm
  obtain ⟨v', w', hr, h3, h4, -, h6⟩ := run_append_own_at (P := Try.prog) w B 26 ty 86 i0 (.agg #[.int .i64 0, .int .i64 0, .slice none 0 0]) 3 40 Try.underlying26 hi hz0 hz1 hz2 rfl (by decide) v L.length (cRow L) hown ad M.length c (cRow M) (cRow_len M) hM (fun u hu => by
    unfold cRow at hu
    obtain ⟨q, hq, hu⟩ := List.mem_flatMap.1 hu
    obtain ⟨a, n, k, hs⟩ := hv q hq
    simp [cL] at hu
    rcases hu with rfl | rfl | rfl
    · rfl
    · rfl
    · rw [hs]; rfl) (by unfold maxLen; omega) (by omega) hbase
  refine ⟨v', w', by unfold appC; rw [hr]; rfl, by rw [List.length_append, cRow_append]; exact h3, h4, fun k hk => ?_⟩
  rcases h6 with e | e
  · exact .inl (by rw [← e]; exact hk)
  · rw [e] at hk; injection hk with hk; exact .inr (by omega)
section
variable {B x last : Nat} {v : Value} {L : List Cr}
theorem DialR_no (w : World) (a : Int) (hr : a < 0 ∨ 4294967295 < a) :
    Calls Try.prog 14 #[.pointer (some ⟨x, 0, none⟩), .int .i64 a] w fun e w' => e = .returned (.tuple #[.int .i64 0, .int .i64 1]) ∧ w' = w := by
  by_cases h0 : a < 0
  · clear hr
    go_enter Try.func14, Try.ntmps14
    go_wp2_with fail
    go_ret2
    exact ⟨rfl, rfl⟩
  · have h1 : 4294967296 ≤ a := by omega
    have h2 : 0 ≤ a := by omega
    clear hr h0
    go_enter Try.func14, Try.ntmps14
    go_wp2_with fail
    go_ret2
    exact ⟨rfl, rfl⟩
set_option maxHeartbeats 2000000 in
theorem DialR_yes (w : World) (h : RefS B x last v L w) (hBw : B ≤ w.heap.size) (hl : L.length ≤ 1000) (hla : last ≤ 1000000) (a : Nat) (ha : a ≤ 4294967295) :
    Calls Try.prog 14 #[.pointer (some ⟨x, 0, none⟩), .int .i64 a] w fun e w' => e = .returned (.tuple #[.int .i64 ((last : Int) + 1), .int .i64 0]) ∧ ∃ v', RefS B x (last + 1) v' (L ++ [⟨last + 1, a, .slice none 0 0, []⟩]) w' ∧ Mod (FootV x v) w w' ∧ (∀ k, v'.ownBlock = some k → v.ownBlock = some k ∨ w.heap.size ≤ k) := by
  have c1 := h.cell.2
  have z1 := h.thaw 1
  obtain ⟨w1, hw1⟩ : ∃ w1, w1 = w.setCell ⟨x, 1, none⟩ (.int .i64 ((last : Int) + 1)) := ⟨_, rfl⟩
  have hM1 : Mod (fun k => k = x) w w1 := by rw [hw1]; exact ⟨rfl, rfl, rfl, by simp, fun i _ hn => Below.heap_setCell _ _ _ _ hn⟩
  have hz : w1.heap.size = w.heap.size := by rw [hw1]; simp
  have hd1 : w1.heap[x]? = some (.cells #[v, .int .i64 ((last : Int) + 1)] 28 (0, 0)) := by rw [hw1, row_set _ h.head]; rfl
  have hrow1 : w1.ownsRow B 86 3 v L.length (cRow L) := vrow_block h.row fun k e => hM1.block k (h.lt (.inr e)) (fun e' => h.xv (e' ▸ e))
  obtain ⟨W2, hW2⟩ : ∃ W2, W2 = (w1.alloc (.cells #[.int .i64 ((last : Int) + 1), .int .i64 a, .slice none 0 0] 86)).drew := ⟨_, rfl⟩
  have hB2 : Below w1.heap.size w1 W2 := by rw [hW2]; exact Below.drew (Below.alloc (Below.refl _ _) (Nat.le_refl _) _)
  have hz2 : W2.heap.size = w1.heap.size + 1 := by rw [hW2]; show (w1.alloc _).heap.size = _; simp
  have hrow2 : W2.ownsRow B 86 3 v L.length (cRow L) := vrow_block hrow1 fun k e => hB2.block k (by obtain ⟨_, cur, hc⟩ := vrow_lt hrow1 e; exact (Array.getElem?_eq_some_iff.1 hc).1)
  have hd2 : W2.heap[x]? = some (.cells #[v, .int .i64 ((last : Int) + 1)] 28 (0, 0)) := (hB2.block _ (Array.getElem?_eq_some_iff.1 hd1).1).trans hd1
  have hnew : W2.heap[w1.heap.size]? = some (.cells #[.int .i64 ((last : Int) + 1), .int .i64 a, .slice none 0 0] 86 (0, 0)) := by rw [hW2]; exact row_new _ rfl
  obtain ⟨v', W3, ap3, own3, g3, f3⟩ := run_app_c 26 hrow2 ⟨w1.heap.size, 0, none⟩ 1 1 [⟨last + 1, a, .slice none 0 0, []⟩] rfl (fun j u hj => by
    rw [cRow_one] at hj
    match j, hj with
    | 0, hj => injection hj with hj; subst hj; exact (cell_of_row _ _ 0 _ _ _ hnew).trans (by simp)
    | 1, hj => injection hj with hj; subst hj; exact (cell_of_row _ _ 1 _ _ _ hnew).trans (by simp)
    | 2, hj => injection hj with hj; subst hj; exact (cell_of_row _ _ 2 _ _ _ hnew).trans (by simp)) (fun q hq => by simp at hq; subst hq; exact ⟨_, _, _, rfl⟩) (by simp; omega) (by omega)
  have hxlt : x < w.heap.size := h.lt (.inl rfl)
  have hd3 : W3.heap[x]? = some (.cells #[v, .int .i64 ((last : Int) + 1)] 28 (0, 0)) := (g3.block _ (by omega) (fun e => h.xv e.symm)).trans hd2
  have hM3 : Mod (FootV x v) w W3 := (((hM1.wide (fun i e => .inl e)).then hB2).trans (Mod.grown (S := FootV x v) g3 (fun k e => .inr e)) (fun i e => .inl e))
  have hfr : ∀ k, v'.ownBlock = some k → v.ownBlock = some k ∨ w.heap.size ≤ k := fun k e => by
    rcases f3 k e with h | h
    · exact .inl h
    · exact .inr (by omega)
  have hne : ∀ k, v'.ownBlock = some k → k ≠ x := fun k e e' => by
    rcases hfr k e with h5 | h5
    · exact h.xv (e' ▸ h5)
    · omega
  have hM4 : Mod (FootV x v) w (W3.setCell ⟨x, 0, none⟩ v') := hM3.trans (S' := fun k => k = x) ⟨rfl, rfl, rfl, by simp, fun i _ hn => Below.heap_setCell _ _ _ _ hn⟩ (fun i e => .inl (.inl e))
  have hR : RefS B x (last + 1) v' (L ++ [⟨last + 1, a, .slice none 0 0, []⟩]) (W3.setCell ⟨x, 0, none⟩ v') := by
    refine ⟨(row_set v' hd3).trans (by simp), vrow_block own3 fun k e => Below.heap_setCell _ _ _ _ (hne k e), fun q hq => ?_, fun q hq => ?_, ?_⟩
    · rw [List.mem_append, List.mem_singleton] at hq
      rcases hq with hq | rfl
      · exact own_mod (h.bv q hq) hM4 (fun k hk hf => h.type hq hk hf)
      · exact World.ownsRow_nil _ _ _ _
    · rw [List.mem_append, List.mem_singleton] at hq
      rcases hq with hq | rfl
      · have := h.le q hq; omega
      · exact Nat.le_refl _
    · rw [List.map_append, List.pairwise_append]
      refine ⟨h.rise, by simp, fun b hb c hc => ?_⟩
      rw [List.mem_map] at hb
      obtain ⟨q, hq, rfl⟩ := hb
      have := h.le q hq
      simp at hc
      omega
  obtain ⟨va, vc, hvs, -, -, -, -⟩ := h.slice
  obtain ⟨v'a, v'c, hv's, -⟩ := hR.slice
  have x1 := (cell_of_row _ _ 0 _ _ _ hd1).trans rfl
  have x1' := (cell_of_row _ _ 1 _ _ _ hd1).trans rfl
  have x2 := (cell_of_row _ _ 0 _ _ _ hd2).trans rfl
  have x2' := (cell_of_row _ _ 1 _ _ _ hd2).trans rfl
  have x3 := (cell_of_row _ _ 0 _ _ _ hd3).trans rfl
  have x4' : (W3.setCell ⟨x, 0, none⟩ v').cell? ⟨x, 1, none⟩ = some (.int .i64 ((last : Int) + 1)) := hR.cell.2
  have z3 : W3.frozen? ⟨x, 0, none⟩ = false := frozen_of_row _ _ _ _ _ hd3
  have FIN : Hid (∃ u, RefS B x (last + 1) u (L ++ [⟨last + 1, a, .slice none 0 0, []⟩]) (W3.setCell ⟨x, 0, none⟩ v') ∧ Mod (FootV x v) w (W3.setCell ⟨x, 0, none⟩ v') ∧ (∀ k, u.ownBlock = some k → v.ownBlock = some k ∨ w.heap.size ≤ k)) := Lib.hid ⟨v', hR, hM4, hfr⟩
  have hg : decide ((4294967296 : Int) ≤ (a : Int)) = false := by simp; omega
  have hg0 : decide ((a : Int) < 0) = false := by simp
  have hlw : wrap64 ((last : Int) + 1) = (last : Int) + 1 := by unfold wrap64; omega
  obtain ⟨n, hn⟩ : ∃ n, n = L.length := ⟨_, rfl⟩
  obtain ⟨ln, hln⟩ : ∃ n, n = (L ++ [(⟨last + 1, a, .slice none 0 0, []⟩ : Cr)]).length := ⟨_, rfl⟩
  rw [← hn] at hvs
  rw [← hln] at hv's
  have HW1 := Lib.hid hw1
  rw [hW2] at x2 x2' ap3
  clear h hM1 hz hd1 hrow1 hB2 hz2 hrow2 hd2 hnew own3 g3 f3 hxlt hd3 hM3 hfr hne hM4 hR hw1 hW2 hn hln hl hla hBw ha
  subst hvs hv's
  go_enter Try.func14, Try.ntmps14
  go_wp2_with fail
  rw [← HW1.out]
  go_region
  all_goals (go_wp2_with fail; go_ret2; exact ⟨rfl, FIN.out⟩)
theorem DropR_no (w : World) (h : RefS B x last v L w) (hl : L.length ≤ 1000) (a : Int) (ha : ∀ c ∈ L, (c.id : Int) ≠ a) :
    Calls Try.prog 21 #[.pointer (some ⟨x, 0, none⟩), .int .i64 a] w fun e w' => e = .returned (.int .i64 150) ∧ Below w.heap.size w w' := by
  have PL := Lib.hid (placeN_any w h hl a)
  have HA := Lib.hid ha
  clear h ha
  go_enter Try.func21, Try.ntmps21
  go_wp2_with fail
  refine PL.out.mono ?_
  rintro e w1 ⟨⟨i, hi, hid, rfl⟩ | ⟨hno, rfl⟩, b1⟩
  · exact absurd hid (HA.out _ (List.getElem_mem hi))
  · have B1 := Lib.hid b1
    clear b1 hno PL
    go_wp2_with fail
    go_ret
    exact ⟨rfl, B1.out⟩
/-- What a part of a row reads as. -/
theorem part_cells {w : World} {B g n c : Nat} {L : List Cr} (h : w.ownsRow B 86 3 (.slice (some ⟨g, 0, none⟩) n c) n (cRow L)) (hn : n = L.length) (k : Nat) (M : List Cr) (hM : ∀ j, j < M.length → k + j < L.length ∧ L[k + j]? = M[j]?) :
    ∀ j u, (cRow M)[j]? = some u → w.cell? ((⟨g, k * 3, none⟩ : Addr).add j) = some u := by
  rcases h.2 with ⟨hv, _⟩ | ⟨g', cap, cur, hv, _, hh, hc, hm, hsz, ht⟩
  · cases hv
  · injection hv with h1 h2 h3
    injection h1 with h1
    injection h1 with h1
    subst h1
    intro j u hj
    have hjl : j < M.length * 3 := by rw [← cRow_len]; exact (List.getElem?_eq_some_iff.1 hj).1
    have hq : j / 3 < M.length := by omega
    obtain ⟨hk1, hk2⟩ := hM (j / 3) hq
    have e1 : j = j / 3 * 3 + j % 3 := by omega
    have e2 : k * 3 + j = (k + j / 3) * 3 + j % 3 := by omega
    rw [e1, cRow_get M (j / 3) hq (j % 3) (by omega)] at hj
    have hLM : L[k + j / 3] = M[j / 3] := by
      rw [List.getElem?_eq_getElem hk1, List.getElem?_eq_getElem hq] at hk2
      exact Option.some.inj hk2
    rw [Addr.add_lit, cell_of_row _ _ _ _ _ _ hh]
    have e := congrArg (fun l => l[k * 3 + j]?) ht
    rw [List.getElem?_take_of_lt (by omega), e2, cRow_get L (k + j / 3) hk1 (j % 3) (by omega), hLM, hj] at e
    rw [e2]
    simpa using e
set_option maxHeartbeats 2000000 in
theorem DropR_yes (w : World) (h : RefS B x last v L w) (hBw : B ≤ w.heap.size) (hl : L.length ≤ 1000) (i : Nat) (hi : i < L.length) :
    Calls Try.prog 21 #[.pointer (some ⟨x, 0, none⟩), .int .i64 L[i].id] w fun e w' => e = .returned (.int .i64 0) ∧ ∃ v', RefS B x last v' (L.take i ++ L.drop (i + 1)) w' ∧ Mod (FootV x v) w w' ∧ (∀ k, v'.ownBlock = some k → w.heap.size ≤ k) := by
  have PL := Lib.hid (placeN_any w h hl L[i].id)
  have H := Lib.hid h
  have HBB := Lib.hid hBw
  clear h hBw
  go_enter Try.func21, Try.ntmps21
  go_wp2_with fail
  refine PL.out.mono ?_
  rintro e w1 ⟨⟨j, hj, hid, rfl⟩ | ⟨hno, rfl⟩, b1⟩
  · obtain rfl : j = i := placed H.out.rise hj hi hid
    have h1 := H.out.below b1
    obtain ⟨g, c, rfl, hc1, hc2, -, -, -, -⟩ := h1.cells hi
    obtain ⟨nn, hnn⟩ : ∃ n, n = L.length := ⟨_, rfl⟩
    have c0 := h1.cell.1
    have hb1s : B ≤ w1.heap.size := Nat.le_trans HBB.out b1.size
    obtain ⟨W2, hW2⟩ : ∃ W2, W2 = (w1.alloc (.cells #[] 86)).drew := ⟨_, rfl⟩
    have hB2 : Below w1.heap.size w1 W2 := by rw [hW2]; exact Below.drew (Below.alloc (Below.refl _ _) (Nat.le_refl _) _)
    have hz2 : W2.heap.size = w1.heap.size + 1 := by rw [hW2]; show (w1.alloc _).heap.size = _; simp
    have hrow2 : W2.ownsRow B 86 3 (.slice (some ⟨w1.heap.size, 0, none⟩) 0 0) ([] : List Cr).length (cRow []) := ⟨rfl, .inr ⟨w1.heap.size, 0, #[], rfl, hb1s, by rw [hW2]; exact row_new _ rfl, Nat.le_refl _, Nat.zero_le _, rfl, by simp [cRow]⟩⟩
    have hsl : ∀ q ∈ L, ∃ a n k, q.v = .slice a n k := fun q hq => by obtain ⟨a, k, e, _⟩ := row_slice (h1.bv q hq); exact ⟨a, _, k, e⟩
    have rowA : ∀ W, Below w1.heap.size w1 W → W.ownsRow B 86 3 (.slice (some ⟨g, 0, none⟩) nn c) nn (cRow L) := fun W hB => by rw [hnn]; exact (h1.below hB).row
    obtain ⟨v3, W3, ap3, own3, g3, f3⟩ := run_app_c 26 hrow2 ⟨g, 0, none⟩ c j (L.take j) (by simp; omega) (by
      have := part_cells (rowA W2 hB2) hnn 0 (L.take j) (fun i hi' => by
        rw [List.length_take] at hi'
        refine ⟨by omega, ?_⟩
        rw [Nat.zero_add, List.getElem?_take_of_lt (by omega)])
      simpa using this) (fun q hq => hsl q (List.mem_of_mem_take hq)) (by simp; omega) (by omega)
    rw [List.nil_append] at own3
    have ob2 : (Value.slice (some ⟨w1.heap.size, 0, none⟩) 0 0).ownBlock = some w1.heap.size := rfl
    have hB3 : Below w1.heap.size w1 W3 := Below.grown hB2 g3 (by omega) (fun k e => by rw [ob2] at e; injection e with e; omega)
    have hv3 : ∀ k, v3.ownBlock = some k → w1.heap.size ≤ k := fun k e => by
      rcases f3 k e with h | h
      · rw [ob2] at h; injection h with h; omega
      · omega
    obtain ⟨ad, had⟩ : ∃ ad : Addr, ad = if c = j + 1 then ⟨g, 0, none⟩ else ⟨g, (j + 1) * 3, none⟩ := ⟨_, rfl⟩
    have hpart : ∀ jj u, (cRow (L.drop (j + 1)))[jj]? = some u → W3.cell? (ad.add jj) = some u := by
      have hp := part_cells (rowA W3 hB3) hnn (j + 1) (L.drop (j + 1)) (fun i hi' => by
        rw [List.length_drop] at hi'
        refine ⟨by omega, ?_⟩
        rw [List.getElem?_drop])
      by_cases hc : c = j + 1
      · intro jj u hu
        have : L.drop (j + 1) = [] := List.drop_eq_nil_of_le (by omega)
        rw [this] at hu
        simp [cRow] at hu
      · rw [had, if_neg hc]; exact hp
    obtain ⟨v4, W4, ap4, own4, g4, f4⟩ := run_app_c 26 own3 ad (c - (j + 1)) (nn - (j + 1)) (L.drop (j + 1)) (by rw [List.length_drop, hnn]) hpart (fun q hq => hsl q (List.mem_of_mem_drop hq)) (by simp; omega) (by have := hB3.size; omega)
    have hB4 : Below w1.heap.size w1 W4 := Below.grown hB3 g4 hB3.size (fun k e => hv3 k e)
    have hv4 : ∀ k, v4.ownBlock = some k → w1.heap.size ≤ k := fun k e => by
      rcases f4 k e with h | h
      · exact hv3 k h
      · have := hB3.size; omega
    have h4 := h1.below hB4
    have hxlt : x < w1.heap.size := h1.lt (.inl rfl)
    have hM4 : Mod (FootV x (.slice (some ⟨g, 0, none⟩) L.length c)) w (W4.setCell ⟨x, 0, none⟩ v4) := (Mod.below (Below.trans b1 (hB4.mono b1.size))).trans (S' := fun k => k = x) ⟨rfl, rfl, rfl, by simp, fun i _ hn => Below.heap_setCell _ _ _ _ hn⟩ (fun i e => .inl (.inl e))
    have hR : RefS B x last v4 (L.take j ++ L.drop (j + 1)) (W4.setCell ⟨x, 0, none⟩ v4) := by
      have hsub : ∀ q ∈ L.take j ++ L.drop (j + 1), q ∈ L := fun q hq => by
        rcases List.mem_append.1 hq with h | h
        · exact List.mem_of_mem_take h
        · exact List.mem_of_mem_drop h
      refine ⟨(row_set v4 h4.head).trans (by simp), vrow_block own4 fun k e => Below.heap_setCell _ _ _ _ (fun e' => by have := hv4 k e; have e'' : k = x := e'; omega), fun q hq => ?_, fun q hq => h1.le q (hsub q hq), ?_⟩
      · exact own_mod (h4.bv q (hsub q hq)) (S := fun k => k = x) ⟨rfl, rfl, rfl, by simp, fun i _ hn => Below.heap_setCell _ _ _ _ hn⟩ (fun k hk e => h4.type (hsub q hq) hk (.inl e))
      · rw [List.map_append]
        have := h1.rise
        rw [← List.take_append_drop j (L.map fun c => (c.id : Int)), List.pairwise_append] at this
        obtain ⟨p1, p2, p3⟩ := this
        rw [List.pairwise_append]
        rw [List.map_take, List.map_drop]
        refine ⟨p1, ?_, fun a ha b hb => p3 a ha b ?_⟩
        · have : List.drop (j + 1) (L.map fun c => (c.id : Int)) = (List.drop j (L.map fun c => (c.id : Int))).tail := by simp
          rw [this]; exact p2.tail
        · have : List.drop (j + 1) (L.map fun c => (c.id : Int)) = (List.drop j (L.map fun c => (c.id : Int))).tail := by simp
          rw [this] at hb; exact List.mem_of_mem_tail hb
    obtain ⟨v3a, v3c, hv3s, -⟩ : ∃ a c, v3 = .slice a j c ∧ True := by
      have hl3 : (L.take j).length = j := by simp; omega
      rw [hl3] at own3
      rcases own3.2 with ⟨e, h0⟩ | ⟨g9, cap9, cur9, e, _⟩
      · exact ⟨none, 0, by rw [e, h0], trivial⟩
      · exact ⟨_, _, e, trivial⟩
    obtain ⟨v4a, v4c, hv4s, -, -, -, -⟩ := hR.slice
    obtain ⟨ln, hln⟩ : ∃ n, n = (L.take j ++ L.drop (j + 1)).length := ⟨_, rfl⟩
    rw [← hln] at hv4s
    have FIN : Hid (∃ u, RefS B x last u (L.take j ++ L.drop (j + 1)) (W4.setCell ⟨x, 0, none⟩ v4) ∧ Mod (FootV x (.slice (some ⟨g, 0, none⟩) L.length c)) w (W4.setCell ⟨x, 0, none⟩ v4) ∧ (∀ k, u.ownBlock = some k → w.heap.size ≤ k)) := Lib.hid ⟨v4, hR, hM4, fun k e => Nat.le_trans b1.size (hv4 k e)⟩
    have k2 := (h1.below hB2).cell.1
    have k3 := (h1.below hB3).cell.1
    have k4 := h4.cell.1
    have z4 := h4.thaw 0
    rw [← hnn] at c0 hc1 k2 k3 k4
    have hin : (j : Int) < (nn : Int) := by omega
    have hin0 : (0 : Int) ≤ (j : Int) := by omega
    have hnc : c ≤ 9223372036854775807 := by unfold maxLen at hc2; omega
    have hjc : j ≤ c := by omega
    have hjc1 : j + 1 ≤ c := by omega
    have hjn1 : j + 1 ≤ nn := by omega
    have hlw : wrap64 ((j : Int) + 1) = (j : Int) + 1 := by unfold wrap64; omega
    rw [hW2] at k2 ap3
    clear h1 hc2 hnn b1 PL hid H hb1s hW2 hB2 hz2 hrow2 hsl rowA own3 g3 f3 ob2 hB3 hv3 hpart own4 g4 f4 hB4 hv4 h4 hxlt hM4 hR hln hl
    subst hv3s hv4s
    by_cases hcj : c = j + 1
    · rw [if_pos hcj] at had
      subst had
      subst hcj
      rw [Nat.sub_self, show nn - (j + 1) = 0 by omega] at ap4
      go_wp2_with fail
      go_region
      all_goals (go_wp2_with fail; go_ret; exact ⟨rfl, FIN.out⟩)
    · rw [if_neg hcj] at had
      subst had
      go_wp2_with fail
      go_region
      all_goals (go_wp2_with fail; go_ret; exact ⟨rfl, FIN.out⟩)
  · exact absurd rfl (hno _ (List.getElem_mem hi))
end
end Go.Proofs.Ytabclpffjpcejaa
