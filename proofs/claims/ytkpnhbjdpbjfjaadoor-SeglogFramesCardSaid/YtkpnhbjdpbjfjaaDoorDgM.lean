/-
  The document's eight words behind a block.
-/
import Derived.Test.YtkpnhbjdpbjfjaaDoorDgG
import Derived.StillTailTactics
namespace Go.Proofs.YtkpnhbjdpbjfjaaDoor
open Go.RowKit
set_option linter.unusedVariables false
set_option maxRecDepth 100000

set_option maxHeartbeats 2000000 in
set_option maxRecDepth 100000 in
/-- right, as a quiet callee. -/
theorem docRight_q (x n : Nat) (w : World) (hx : x < 4294967296) (h0 : 1 ≤ n) (h1 : n ≤ 31) : Calls Tryd.prog 25 #[.int .u32 x, .int .i64 n] w fun e w' => e = .returned (.int .u32 (rotr x n)) ∧ ∃ m, w' = w.drewN m := by
  have hr : ((x : Int) / 2 ^ n) = ((x >>> n : Nat) : Int) := by rw [Nat.shiftRight_eq_div_pow, Int.natCast_ediv, Int.natCast_pow]; rfl
  have hl1 : ((x : Int) * 2 ^ (32 - n)) % 4294967296 = ((x <<< (32 - n) % 4294967296 : Nat) : Int) := by rw [Nat.shiftLeft_eq, Int.natCast_emod, Int.natCast_mul, Int.natCast_pow]; rfl
  have lr : x >>> n < 4294967296 := by rw [Nat.shiftRight_eq_div_pow]; have := Nat.div_le_self x (2 ^ n); omega
  have ll : x <<< (32 - n) % 4294967296 < 4294967296 := Nat.mod_lt _ (by decide)
  have HO : Hid (bits .or .u32 ((x : Int) / 2 ^ n) ((x : Int) * 2 ^ (32 - n) % 4294967296) = ((rotr x n : Nat) : Int)) := Lib.hid (by rw [hr, hl1, or_u32 _ _ lr ll]; rfl)
  clear hr hl1 lr ll
  have hn : (0 : Int) ≤ 32 - (n : Int) := by omega
  have hk : (32 - (n : Int)).toNat = 32 - n := by omega
  go_enter Tryd.func25, Tryd.ntmps25
  go_wp2_with fail
  go_quiet (fail)
  go_wp2_with fail
  go_ret
  exact ⟨congrArg (fun t => Ending.returned (.int .u32 t)) HO.out, nq, rfl⟩
theorem some_lt' {w : World} {k : Nat} {o : Obj} (h : w.heap[k]? = some o) : k < w.heap.size := (Array.getElem?_eq_some_iff.1 h).1
/-- Eight words that the call made. -/
def S8 (w : World) (base : Nat) (v : Value) (V : V8) : Prop := w.ownsRow base 25 1 v 8 (V.list.map u32V)
theorem S8.at {w : World} {base : Nat} {v : Value} {V : V8} (h : S8 w base v V) : ∃ g c, v = .slice (some ⟨g, 0, none⟩) 8 c ∧ base ≤ g ∧ g < w.heap.size ∧ 8 ≤ c ∧ c ≤ 9223372036854775807 ∧ ∀ j, j < 8 → w.cell? ⟨g, j, none⟩ = some (.int .u32 (V.list.getD j 0 : Nat)) := by
  obtain ⟨g, c, h1, h2, _, h3, h4, h5⟩ := own_u32 h (by omega)
  refine ⟨g, c, h1, h2, ?_, h3, by unfold maxLen at h4; omega, h5⟩
  exact (h.lt g (by rw [h1]; rfl)).2
theorem S8.new {w : World} {base : Nat} (V : V8) (hb : base ≤ w.heap.size) : S8 (w.alloc (.cells #[.int .u32 V.a, .int .u32 V.b, .int .u32 V.c, .int .u32 V.d, .int .u32 V.e, .int .u32 V.f, .int .u32 V.g, .int .u32 V.h] 25)) base (.slice (some ⟨w.heap.size, 0, none⟩) 8 8) V :=
  ⟨rfl, .inr ⟨_, 8, _, rfl, hb, row_new _ rfl, Nat.le_refl _, by unfold maxLen; omega, rfl, rfl⟩⟩

theorem and_lt32 {a b : Nat} (ha : a < 4294967296) : a &&& b < 4294967296 := Nat.lt_of_le_of_lt Nat.and_le_left ha
theorem xor_lt32 {a b : Nat} (ha : a < 4294967296) (hb : b < 4294967296) : a ^^^ b < 4294967296 := Nat.xor_lt_two_pow (n := 32) ha hb
theorem t1_eq {ex f gx hx kx wx : Nat} (le : ex < 4294967296) (lf : f < 4294967296) (lg : gx < 4294967296) :
    ((((hx : Int) + bits .xor .u32 (bits .xor .u32 ((rotr ex 6 : Nat) : Int) ((rotr ex 11 : Nat) : Int)) ((rotr ex 25 : Nat) : Int) + bits .xor .u32 (bits .and .u32 (ex : Int) (f : Int)) (bits .and .u32 (bits .xor .u32 (if IntKind.u32.signed = true then -1 else IntKind.u32.max) (ex : Int)) (gx : Int)) + kx) % 4294967296 + wx) % 4294967296) = (((hx + bigS1 ex + cho ex f gx + kx + wx) % 4294967296 : Nat) : Int) := by
  rw [show (if IntKind.u32.signed = true then -1 else IntKind.u32.max) = ((4294967295 : Nat) : Int) from rfl]
  rw [xor_u32 _ _ (rotr_lt le) (rotr_lt le), xor_u32 _ _ (xor_lt32 (rotr_lt le) (rotr_lt le)) (rotr_lt le), and_u32 _ _ le lf, xor_u32 _ _ (by omega) le, and_u32 _ _ (xor_lt32 (by omega) le) lg, xor_u32 _ _ (and_lt32 le) (and_lt32 (xor_lt32 (by omega) le))]
  unfold bigS1 cho
  omega
theorem t2_eq {a b cx : Nat} (la : a < 4294967296) (lb : b < 4294967296) (lc : cx < 4294967296) :
    ((bits .xor .u32 (bits .xor .u32 ((rotr a 2 : Nat) : Int) ((rotr a 13 : Nat) : Int)) ((rotr a 22 : Nat) : Int) + bits .xor .u32 (bits .xor .u32 (bits .and .u32 (a : Int) (b : Int)) (bits .and .u32 (a : Int) (cx : Int))) (bits .and .u32 (b : Int) (cx : Int))) % 4294967296) = (((bigS0 a + maj a b cx) % 4294967296 : Nat) : Int) := by
  rw [xor_u32 _ _ (rotr_lt la) (rotr_lt la), xor_u32 _ _ (xor_lt32 (rotr_lt la) (rotr_lt la)) (rotr_lt la), and_u32 _ _ la lb, and_u32 _ _ la lc, and_u32 _ _ lb lc, xor_u32 _ _ (and_lt32 la) (and_lt32 la), xor_u32 _ _ (xor_lt32 (and_lt32 la) (and_lt32 la)) (and_lt32 lb)]
  unfold bigS0 maj
  omega
theorem next_eq (a b cx d ex f gx hx kx wx : Nat) : (V8.mk a b cx d ex f gx hx).next kx wx = ⟨((hx + bigS1 ex + cho ex f gx + kx + wx) % 4294967296 + (bigS0 a + maj a b cx) % 4294967296) % 4294967296, a, b, cx, (d + (hx + bigS1 ex + cho ex f gx + kx + wx) % 4294967296) % 4294967296, ex, f, gx⟩ := by
  simp only [V8.next, V8.mk.injEq, and_true, true_and]
  constructor <;> omega
def mixL (U V : V8) (j : Nat) : List Nat := (U.add V).list.take j ++ U.list.drop j
theorem mixL_zero (U V : V8) : mixL U V 0 = U.list := by simp [mixL]
theorem mixL_end (U V : V8) : mixL U V 8 = (U.add V).list := by simp [mixL, V8.list]
theorem mixL_len (U V : V8) {j : Nat} (h : j ≤ 8) : (mixL U V j).length = 8 := by simp [mixL, V8.list]; omega
theorem mixL_at (U V : V8) {j : Nat} (h : j < 8) : (mixL U V j).getD j 0 = U.list.getD j 0 := by
  match j, h with
  | 0, _ => rfl
  | 1, _ => rfl
  | 2, _ => rfl
  | 3, _ => rfl
  | 4, _ => rfl
  | 5, _ => rfl
  | 6, _ => rfl
  | 7, _ => rfl
theorem mixL_next (U V : V8) {j : Nat} (h : j < 8) : (mixL U V j).set j ((U.list.getD j 0 + V.list.getD j 0) % 4294967296) = mixL U V (j + 1) := by
  match j, h with
  | 0, _ => rfl
  | 1, _ => rfl
  | 2, _ => rfl
  | 3, _ => rfl
  | 4, _ => rfl
  | 5, _ => rfl
  | 6, _ => rfl
  | 7, _ => rfl
theorem row_set32 {w : World} {base n c g : Nat} {l : List Nat} (h : w.ownsRow base 25 1 (.slice (some ⟨g, 0, none⟩) n c) n (l.map u32V)) (j : Nat) (x : Nat) (hj : j < n) : (w.setCell ⟨g, j, none⟩ (.int .u32 x)).ownsRow base 25 1 (.slice (some ⟨g, 0, none⟩) n c) n ((l.set j x).map u32V) := by
  refine ⟨by have := h.1; simpa using this, ?_⟩
  rcases h.2 with ⟨h1, h2⟩ | ⟨g', cap, cur, hv, hb, hh, hc, hmx, hsz, ht⟩
  · omega
  · right
    injection hv with e1 e2 e3
    injection e1 with e1
    injection e1 with e1
    subst e1 e3
    refine ⟨g, c, _, rfl, hb, row_set _ hh, hc, hmx, by simp [hsz], ?_⟩
    rw [List.map_set, ← ht, Array.toList_setIfInBounds, List.take_set]
    rfl
theorem row_thaw32 {w : World} {base n c g : Nat} {xs : List Value} (h : w.ownsRow base 25 1 (.slice (some ⟨g, 0, none⟩) n c) n xs) (hn : 0 < n) (j : Nat) : w.frozen? ⟨g, j, none⟩ = false := by
  rcases h.2 with ⟨h1, h2⟩ | ⟨g', cap, cur, hv, hb, hh, hc, hmx, hsz, ht⟩
  · omega
  · injection hv with e1 e2 e3
    injection e1 with e1
    injection e1 with e1
    subst e1
    exact frozen_of_row _ _ _ _ _ hh
attribute [local go_sem ↓] exec_append32
set_option maxHeartbeats 4000000 in
set_option maxRecDepth 100000 in
theorem docBlock_any (vh : Value) (V : V8) (hV : V.Ok) (A : Option Addr) (l : Bs) (c : Nat) (W : World) (hh : S8 W 0 vh V) (hS : Bys W A l) (hl : l.length = 64) (hc : 64 ≤ c) (hcm : c ≤ 9223372036854775807) :
    Calls Tryd.prog 16 #[vh, .slice A 64 c] W fun e w' => (∃ v, e = .returned v ∧ S8 w' W.heap.size v (compress V l)) ∧ Below W.heap.size W w' := by
  obtain ⟨gh, ch, rfl, _, hgh, hch, hcm2, hcell⟩ := hh.at
  have C1 := Lib.hid (by have := docSchedule_any A l c W hS hl hc hcm; rw [hl] at this; exact this)
  have C2 := Lib.hid (fun w => docRounds_any w)
  obtain ⟨i0, hi, hz0, hz1, hz2⟩ := info_parts32 info_u32
  have HH := Lib.hid (fun w (hB : Below W.heap.size W w) => (show w.ownsRow 0 25 1 _ 8 (V.list.map u32V) from dgOwn_below hh hB (Nat.le_refl _)))
  clear hh hS hl hcell
  go_enter Tryd.func16, Tryd.ntmps16
  go_wp2_with fail
  refine C1.out.mono ?_
  rintro e w1 ⟨⟨vw, rfl, how⟩, b1⟩
  go_wp2_with fail
  refine (C2.out _).mono ?_
  rintro e w2 ⟨⟨vk, rfl, gk, ck, rfl, hgk, rk⟩, b2⟩
  rw [show roundKs.length = 64 from rfl]
  have how2 := dgOwn_below how b2 (Nat.le_refl _)
  obtain ⟨hB2, hs2⟩ := dgNext b1 b1.size b2
  clear how b1 b2
  have hB3 : Below W.heap.size W (w2.alloc (.cells #[] 25)) := Below.alloc hB2 hs2 _
  have hh3 := HH.out _ hB3
  have he3 : (w2.alloc (.cells #[] 25)).ownsRow W.heap.size 25 1 (.slice (some ⟨w2.heap.size, 0, none⟩) 0 0) 0 [] := ⟨rfl, .inr ⟨_, 0, #[], rfl, hs2, row_new _ rfl, Nat.le_refl _, by unfold maxLen; omega, rfl, rfl⟩⟩
  obtain ⟨v3, w3, hrun, hown3, hgrow, _, hat⟩ := run_append_own_at (P := Tryd.prog) (w2.alloc (.cells #[] 25)) W.heap.size 36 36 25 i0 (.int .u32 0) 1 4 Tryd.underlying36 hi hz0 hz1 hz2 rfl (by decide) _ 0 [] he3 ⟨gh, 0, none⟩ 8 ch (V.list.map u32V) rfl (hh3.cells (g := gh) rfl) (by simp [V8.list, u32V, Value.oneCell']) (by unfold maxLen; omega) (by omega) (by simp; omega)
  have hap := append32_of hrun
  have hv3 : S8 w3 W.heap.size v3 V := hown3
  have hg3 : w2.grownBy w3 none := ⟨hgrow.os, hgrow.tape, hgrow.output, Nat.le_trans (by simp) hgrow.size, fun k hk _ => (hgrow.block k (by simp; omega) (by simp [Value.ownBlock]; omega)).trans (Below.heap_alloc w2 _ k hk)⟩
  have hb3 : Below w2.heap.size w2 w3 := Below.grown (Below.refl _ _) hg3 (Nat.le_refl _) (fun k e => by cases e)
  have how3 := dgOwn_below how2 hb3 (Nat.le_refl _)
  have rk3 := (hb3.block gk (some_lt' rk)).trans rk
  obtain ⟨hBB3, hs3⟩ := dgNext hB2 hs2 hb3
  clear hrun hown3 hgrow hat hg3 hb3 how2 rk hB2 hs2 hh3 he3 hB3
  go_wp2_with fail
  obtain ⟨gw, cw, rfl, hgw, hnl, hcw, hcwm, hws⟩ := own_u32 how3 (by omega)
  have wlt := words_lt l 64
  have HW : Hid (compress V l = (roundsOf V (words l 64) 64).add V) := Lib.hid rfl
  generalize words l 64 = ws at *
  have hgw3 : gw < w3.heap.size := (how3.lt gw rfl).2
  have hcwm2 : cw ≤ 9223372036854775807 := by unfold maxLen at hcwm; omega
  have HWS := Lib.hid (fun w (hB : Below w3.heap.size w3 w) j (hj : j < 64) => (show w.cell? ⟨gw, j, none⟩ = some (.int .u32 (ws.getD j 0 : Nat)) from (World.cell?_of_block (a := ⟨gw, j, none⟩) (hB.block gw hgw3)).trans (hws j hj)))
  have HKS := Lib.hid (fun w (hB : Below w3.heap.size w3 w) j (hj : j < 64) => (show w.cell? ⟨gk, j, none⟩ = some (.int .u32 (roundKs.getD j 0 : Nat)) from (cell_of_row _ _ _ _ _ _ ((hB.block gk (some_lt' rk3)).trans rk3)).trans (by
    have hj : j < roundKs.length := hj
    simp [hj, u32V])))
  have HWL : Hid (∀ j, ws.getD j 0 < 4294967296) := Lib.hid (fun j => by
    rw [List.getD_eq_getElem?_getD]
    cases h : ws[j]? with
    | none => decide
    | some v => exact wlt v (List.mem_of_getElem? h))
  have HB3 := Lib.hid hBB3
  have HV := Lib.hid hV
  clear how3 hws hnl wlt hap rk3 hcwm hBB3 C1 C2 hV hgk
  go_loopw [20, 7] (fun v u wr => ∃ i : Nat, v = .int .i64 i ∧ i ≤ 64 ∧ S8 wr W.heap.size u (roundsOf V ws i) ∧ Below w3.heap.size w3 wr) (fun v _ _ => 64 - (intOf v).toNat)
  case atStart => exact ⟨0, rfl, by omega, hv3, Below.refl _ _⟩
  case round =>
    clear hv3
    obtain ⟨i, rfl, hi64, hU, hB⟩ := hrel
    by_cases hlt : i < 64
    · have hti : (i : Int) < 64 := by omega
      have hok := roundsOf_ok HV.out ws i
      obtain ⟨g, cc, rfl, hg1, hg2, hg8, hgm, hc8⟩ := hU.at
      have HN : Hid (roundsOf V ws (i + 1) = (roundsOf V ws i).next (roundKs.getD i 0) (ws.getD i 0)) := Lib.hid rfl
      have yk := HKS.out _ hB i hlt
      have yw := HWS.out _ hB i hlt
      have lk : roundKs.getD i 0 < 4294967296 := by
        rw [List.getD_eq_getElem?_getD]
        cases h : roundKs[i]? with
        | none => decide
        | some v => exact (by decide : ∀ x ∈ roundKs, x < 4294967296) v (List.mem_of_getElem? h)
      have lw := HWL.out i
      have y0 : wr.cell? ⟨g, 0, none⟩ = some (.int .u32 ((roundsOf V ws i).a : Nat)) := hc8 0 (by omega)
      have y1 : wr.cell? ⟨g, 1, none⟩ = some (.int .u32 ((roundsOf V ws i).b : Nat)) := hc8 1 (by omega)
      have y2 : wr.cell? ⟨g, 2, none⟩ = some (.int .u32 ((roundsOf V ws i).c : Nat)) := hc8 2 (by omega)
      have y3 : wr.cell? ⟨g, 3, none⟩ = some (.int .u32 ((roundsOf V ws i).d : Nat)) := hc8 3 (by omega)
      have y4 : wr.cell? ⟨g, 4, none⟩ = some (.int .u32 ((roundsOf V ws i).e : Nat)) := hc8 4 (by omega)
      have y5 : wr.cell? ⟨g, 5, none⟩ = some (.int .u32 ((roundsOf V ws i).f : Nat)) := hc8 5 (by omega)
      have y6 : wr.cell? ⟨g, 6, none⟩ = some (.int .u32 ((roundsOf V ws i).g : Nat)) := hc8 6 (by omega)
      have y7 : wr.cell? ⟨g, 7, none⟩ = some (.int .u32 ((roundsOf V ws i).h : Nat)) := hc8 7 (by omega)
      generalize roundKs.getD i 0 = kx at *
      generalize ws.getD i 0 = wx at *
      generalize roundsOf V ws i = U at *
      obtain ⟨a, b, cx, d, ex, f, gx, hx⟩ := U
      obtain ⟨la, lb, lc, ld, le, lf, lg, lh⟩ := hok
      dsimp only at y0 y1 y2 y3 y4 y5 y6 y7 la lb lc ld le lf lg lh
      clear hc8 hU
      have E6 : Hid (∀ W, Calls Tryd.prog 25 #[.int .u32 ex, .int .i64 6] W fun e w' => e = .returned (.int .u32 (rotr ex 6)) ∧ ∃ m, w' = W.drewN m) := Lib.hid (fun W => docRight_q ex 6 W le (by omega) (by omega))
      have E11 : Hid (∀ W, Calls Tryd.prog 25 #[.int .u32 ex, .int .i64 11] W fun e w' => e = .returned (.int .u32 (rotr ex 11)) ∧ ∃ m, w' = W.drewN m) := Lib.hid (fun W => docRight_q ex 11 W le (by omega) (by omega))
      have E25 : Hid (∀ W, Calls Tryd.prog 25 #[.int .u32 ex, .int .i64 25] W fun e w' => e = .returned (.int .u32 (rotr ex 25)) ∧ ∃ m, w' = W.drewN m) := Lib.hid (fun W => docRight_q ex 25 W le (by omega) (by omega))
      have A2 : Hid (∀ W, Calls Tryd.prog 25 #[.int .u32 a, .int .i64 2] W fun e w' => e = .returned (.int .u32 (rotr a 2)) ∧ ∃ m, w' = W.drewN m) := Lib.hid (fun W => docRight_q a 2 W la (by omega) (by omega))
      have A13 : Hid (∀ W, Calls Tryd.prog 25 #[.int .u32 a, .int .i64 13] W fun e w' => e = .returned (.int .u32 (rotr a 13)) ∧ ∃ m, w' = W.drewN m) := Lib.hid (fun W => docRight_q a 13 W la (by omega) (by omega))
      have A22 : Hid (∀ W, Calls Tryd.prog 25 #[.int .u32 a, .int .i64 22] W fun e w' => e = .returned (.int .u32 (rotr a 22)) ∧ ∃ m, w' = W.drewN m) := Lib.hid (fun W => docRight_q a 22 W la (by omega) (by omega))
      go_wp2_with fail
      go_quiet (fail)
      have y0 : (wr.drewN nq).cell? ⟨g, 0, none⟩ = some (.int .u32 (a : Nat)) := y0
      have y1 : (wr.drewN nq).cell? ⟨g, 1, none⟩ = some (.int .u32 (b : Nat)) := y1
      have y2 : (wr.drewN nq).cell? ⟨g, 2, none⟩ = some (.int .u32 (cx : Nat)) := y2
      have y3 : (wr.drewN nq).cell? ⟨g, 3, none⟩ = some (.int .u32 (d : Nat)) := y3
      have y4 : (wr.drewN nq).cell? ⟨g, 4, none⟩ = some (.int .u32 (ex : Nat)) := y4
      have y5 : (wr.drewN nq).cell? ⟨g, 5, none⟩ = some (.int .u32 (f : Nat)) := y5
      have y6 : (wr.drewN nq).cell? ⟨g, 6, none⟩ = some (.int .u32 (gx : Nat)) := y6
      have y7 : (wr.drewN nq).cell? ⟨g, 7, none⟩ = some (.int .u32 (hx : Nat)) := y7
      have yk : (wr.drewN nq).cell? ⟨gk, i, none⟩ = some (.int .u32 (kx : Nat)) := yk
      have yw : (wr.drewN nq).cell? ⟨gw, i, none⟩ = some (.int .u32 (wx : Nat)) := yw
      have hB : Below w3.heap.size w3 (wr.drewN nq) := below_drewN hB nq
      generalize wr.drewN nq = wa at *
      go_wp2_with fail
      go_quiet ((first | (go_at_call 25; with_reducible refine Calls.quiet_of (E6.out _)) | (go_at_call 25; with_reducible refine Calls.quiet_of (E11.out _)) | (go_at_call 25; with_reducible refine Calls.quiet_of (E25.out _))))
      rw [(Lib.hid (t1_eq (ex := ex) (f := f) (gx := gx) (hx := hx) (kx := kx) (wx := wx) le lf lg)).out]
      have HN := Lib.hid (HN.out.trans (next_eq a b cx d ex f gx hx kx wx))
      generalize (hx + bigS1 ex + cho ex f gx + kx + wx) % 4294967296 = X1 at *
      clear y7 yk yw E6 E11 E25
      have y0 : (wa.drewN nq).cell? ⟨g, 0, none⟩ = some (.int .u32 (a : Nat)) := y0
      have y1 : (wa.drewN nq).cell? ⟨g, 1, none⟩ = some (.int .u32 (b : Nat)) := y1
      have y2 : (wa.drewN nq).cell? ⟨g, 2, none⟩ = some (.int .u32 (cx : Nat)) := y2
      have y3 : (wa.drewN nq).cell? ⟨g, 3, none⟩ = some (.int .u32 (d : Nat)) := y3
      have y4 : (wa.drewN nq).cell? ⟨g, 4, none⟩ = some (.int .u32 (ex : Nat)) := y4
      have y5 : (wa.drewN nq).cell? ⟨g, 5, none⟩ = some (.int .u32 (f : Nat)) := y5
      have y6 : (wa.drewN nq).cell? ⟨g, 6, none⟩ = some (.int .u32 (gx : Nat)) := y6
      have hB : Below w3.heap.size w3 (wa.drewN nq) := below_drewN hB nq
      generalize wa.drewN nq = wb at *
      go_wp2_with fail
      go_quiet ((first | (go_at_call 25; with_reducible refine Calls.quiet_of (A2.out _)) | (go_at_call 25; with_reducible refine Calls.quiet_of (A13.out _)) | (go_at_call 25; with_reducible refine Calls.quiet_of (A22.out _))))
      rw [(Lib.hid (t2_eq (a := a) (b := b) (cx := cx) la lb lc)).out]
      generalize (bigS0 a + maj a b cx) % 4294967296 = X2 at *
      clear A2 A13 A22
      have y0 : (wb.drewN nq).cell? ⟨g, 0, none⟩ = some (.int .u32 (a : Nat)) := y0
      have y1 : (wb.drewN nq).cell? ⟨g, 1, none⟩ = some (.int .u32 (b : Nat)) := y1
      have y2 : (wb.drewN nq).cell? ⟨g, 2, none⟩ = some (.int .u32 (cx : Nat)) := y2
      have y3 : (wb.drewN nq).cell? ⟨g, 3, none⟩ = some (.int .u32 (d : Nat)) := y3
      have y4 : (wb.drewN nq).cell? ⟨g, 4, none⟩ = some (.int .u32 (ex : Nat)) := y4
      have y5 : (wb.drewN nq).cell? ⟨g, 5, none⟩ = some (.int .u32 (f : Nat)) := y5
      have y6 : (wb.drewN nq).cell? ⟨g, 6, none⟩ = some (.int .u32 (gx : Nat)) := y6
      have hB : Below w3.heap.size w3 (wb.drewN nq) := below_drewN hB nq
      generalize wb.drewN nq = wc at *
      go_wp2_with fail
      have hz1 : IntKind.u32.wrap ((X1 : Int) + X2) = (((X1 + X2) % 4294967296 : Nat) : Int) := by rw [IntKind.wrap_u32]; omega
      have hz2 : IntKind.u32.wrap ((d : Int) + X1) = (((d + X1) % 4294967296 : Nat) : Int) := by rw [IntKind.wrap_u32]; omega
      generalize (X1 + X2) % 4294967296 = Z1 at *
      generalize (d + X1) % 4294967296 = Z2 at *
      have hs4 : W.heap.size ≤ wc.heap.size := Nat.le_trans hs3 hB.size
      have hgl : g < wc.heap.size := World.block_lt_of_cell? wc _ y0
      have hnew := S8.new (w := wc) ⟨Z1, a, b, cx, Z2, ex, f, gx⟩ hs4
      go_region_held3 (fun w' => w'.cell? ⟨g, 0, none⟩ = some (.int .u32 (a : Nat)) ∧ w'.cell? ⟨g, 1, none⟩ = some (.int .u32 (b : Nat)) ∧ w'.cell? ⟨g, 2, none⟩ = some (.int .u32 (cx : Nat)) ∧ w'.cell? ⟨g, 3, none⟩ = some (.int .u32 (d : Nat)) ∧ w'.cell? ⟨g, 4, none⟩ = some (.int .u32 (ex : Nat)) ∧ w'.cell? ⟨g, 5, none⟩ = some (.int .u32 (f : Nat)) ∧ w'.cell? ⟨g, 6, none⟩ = some (.int .u32 (gx : Nat)))
        (first | (refine ⟨?_, ?_, ?_, ?_, ?_, ?_, ?_⟩ <;> first | assumption | go_keep))
        (first | fail)
      go_wp2_with fail
      go_roundw
      case rel => exact ⟨i + 1, by go_num, by omega, by rw [HN.out]; exact hnew.drew, Below.drew (Below.alloc hB hB.size _)⟩
      case measure => simp [intOf]; omega
    · have HI : Hid (i = 64) := Lib.hid (by omega)
      have gi : (64 : Int) ≤ i := by omega
      rw [HI.out] at hU
      have hok := roundsOf_ok HV.out ws 64
      clear hi64 hlt HI
      obtain ⟨g, cc, rfl, hg1, hg2, hg8, hgm, _⟩ := hU.at
      generalize roundsOf V ws 64 = U at *
      have hBW : Below W.heap.size W wr := Below.trans HB3.out (hB.mono hs3)
      have hmix : wr.ownsRow W.heap.size 25 1 (.slice (some ⟨g, 0, none⟩) 8 cc) 8 ((mixL U V 0).map u32V) := by rw [mixL_zero]; exact hU
      clear hU hB HKS HWS HWL HB3
      go_wp2_with fail
      go_loopw [122] (fun v wq => ∃ j : Nat, v = .int .i64 j ∧ j ≤ 8 ∧ wq.ownsRow W.heap.size 25 1 (.slice (some ⟨g, 0, none⟩) 8 cc) 8 ((mixL U V j).map u32V) ∧ Below W.heap.size W wq) (fun v _ => 8 - (intOf v).toNat)
      case atStart => exact ⟨0, rfl, by omega, hmix, hBW⟩
      case round =>
        clear hmix hBW gi
        obtain ⟨j, rfl, hj8, hM, hB⟩ := hrel
        by_cases hlt : j < 8
        · have hti : (j : Int) < 8 := by omega
          obtain ⟨g', c', e, -, -, -, -, hcell⟩ := own_u32 hM (by omega)
          injection e with e1 e2 e3
          injection e1 with e1
          injection e1 with e1
          subst e1 e3
          have yv := hcell j hlt
          rw [mixL_at U V hlt] at yv
          obtain ⟨g'', c'', e, -, -, -, -, hcell2⟩ := own_u32 (HH.out _ hB) (by omega)
          injection e with e1 e2 e3
          injection e1 with e1
          injection e1 with e1
          subst e1 e3
          have yh := hcell2 j hlt
          have zf := row_thaw32 hM (by omega) j
          have hset := row_set32 hM j ((U.list.getD j 0 + V.list.getD j 0) % 4294967296) hlt
          rw [mixL_next U V hlt] at hset
          have hz : IntKind.u32.wrap (((U.list.getD j 0 : Nat) : Int) + ((V.list.getD j 0 : Nat) : Int)) = (((U.list.getD j 0 + V.list.getD j 0) % 4294967296 : Nat) : Int) := by rw [IntKind.wrap_u32]; omega
          generalize U.list.getD j 0 = uj at *
          generalize V.list.getD j 0 = vj at *
          generalize (uj + vj) % 4294967296 = xj at *
          have HS := Lib.hid hset
          have HB := Lib.hid (Below.setCell hB (p := ⟨g, j, none⟩) hg1 (.int .u32 (xj : Nat)))
          clear hcell hcell2 hset hM hB
          go_wp2_with fail
          go_still_tail 12, (by kernel_rfl)
          change wpList _ _ _ _ _ wr.drew
          go_wp2_with fail
          go_roundw
          case rel => exact ⟨j + 1, by go_num, by omega, HS.out.drew, Below.drew HB.out⟩
          case measure => simp [intOf]; omega
        · obtain rfl : j = 8 := by omega
          have hS8 : S8 wr W.heap.size (.slice (some ⟨g, 0, none⟩) 8 cc) (compress V l) := by
            unfold S8
            rw [HW.out, ← mixL_end U V]
            exact hM
          clear hM
          go_wp2_with fail
          go_ret
          exact ⟨⟨_, rfl, hS8⟩, hB⟩
end Go.Proofs.YtkpnhbjdpbjfjaaDoor
