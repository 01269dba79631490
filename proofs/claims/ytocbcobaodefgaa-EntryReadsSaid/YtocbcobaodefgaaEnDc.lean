/-
  The landed reader: what stands behind the key.
-/
import Derived.Test.YtocbcobaodefgaaEnDb
import Derived.Test.YtocbcobaodefgaaQj
namespace Go.Proofs.Ytocbcobaodefgaa
open Go.RowKit
set_option linter.unusedVariables false
set_option maxRecDepth 100000

/-- Blocks that stay, but for two. -/
structure Kp (g q : Nat) (w w' : World) : Prop where
  size : w.heap.size ≤ w'.heap.size
  blk : ∀ k, k < w.heap.size → k ≠ g → k ≠ q → w'.heap[k]? = w.heap[k]?
theorem Kp.refl (g q : Nat) (w : World) : Kp g q w w := ⟨Nat.le_refl _, fun _ _ _ _ => rfl⟩
theorem Kp.trans {g q : Nat} {a b c : World} (h : Kp g q a b) (k : Kp g q b c) : Kp g q a c := ⟨Nat.le_trans h.size k.size, fun i hi h1 h2 => (k.blk i (Nat.lt_of_lt_of_le hi h.size) h1 h2).trans (h.blk i hi h1 h2)⟩
theorem Kp.gr1 {g q : Nat} {w w' : World} (h : w.grownBy w' (some g)) : Kp g q w w' := ⟨h.size, fun k hk h1 _ => h.block k hk (fun e => by injection e with e; exact h1 e)⟩
theorem Kp.gr2 {g q : Nat} {w w' : World} (h : w.grownBy w' (some q)) : Kp g q w w' := ⟨h.size, fun k hk _ h1 => h.block k hk (fun e => by injection e with e; exact h1 e)⟩
theorem Kp.below {g q : Nat} {w w' : World} (h : Below w.heap.size w w') : Kp g q w w' := ⟨h.size, fun k hk _ _ => h.block k hk⟩
theorem set_row {w : World} {q i : Nat} {C : Array Value} {T : TypeId} (v : Value) (h : w.heap[q]? = some (.cells C T (0, 0))) : w.grownBy (w.setCell ⟨q, i, none⟩ v) (some q) ∧ (w.setCell ⟨q, i, none⟩ v).heap[q]? = some (.cells (C.setIfInBounds i v) T (0, 0)) ∧ w.frozen? ⟨q, i, none⟩ = false := by
  refine ⟨?_, row_set v h, frozen_of_row _ _ i _ _ h⟩
  have := grownBy_setCells q [v] i w
  simpa [World.setCells] using this
theorem ML_prt (r : Rst) (wd : Nat) (hw : wd ≤ 2) : (prt ML r wd).length ≤ 65535 := by
  have h1 := ML_le (ML.R r wd) (num ML r wd)
  have h2 := num_bd r wd hw
  have : prt ML r wd = ML.O (ML.R r wd) (num ML r wd) := rfl
  rw [this]; omega

/-- What the operations of a round of rest yield. -/
def RL (W0 : World) (g q B : Nat) (T : TypeId) (sl : Value) (x : Bs) (ds : List Bs) (rn : Rst) : Nat → Value → World → Prop
  | 0, v, _ => v = .pointer (some ⟨q, 1, none⟩)
  | 1, v, _ => v = .pointer (some ⟨q, 1, none⟩)
  | 2, v, _ => v = .pointer (some ⟨q, 1, none⟩)
  | 3, v, _ => v = .pointer (some ⟨q, 8, none⟩)
  | 4, v, _ => v = sl
  | 5, v, _ => v = .pointer (some ⟨g, 0, none⟩)
  | 6, v, w => (∃ A c, v = .slice A x.length c ∧ Sl W0 A c x) ∧ RDx W0 g T w rn
  | 7, v, w => (∃ A c, v = .slice A x.length c) ∧ OwnB w B v x ∧ (v.ownBlock = none ∨ v.ownBlock ≠ sl.ownBlock)
  | 8, v, w => ∃ p y, v = .slice (some ⟨p, 0, none⟩) 1 1 ∧ w.heap[p]? = some (.cells #[y] 22 (0, 0)) ∧ B ≤ p ∧ sl.ownBlock ≠ some p ∧ y.oneCell' = true ∧ OwnB w B y x ∧ (y.ownBlock = none ∨ y.ownBlock ≠ sl.ownBlock)
  | 9, v, w => ∃ xs, w.ownsRow B 22 1 v (ds.length + 1) xs ∧ RowsO w B v.ownBlock xs (ds ++ [x])
  | 10, v, _ => v = .pointer (some ⟨q, 1, none⟩)
  | 11, v, _ => v = .pointer (some ⟨q, 8, none⟩)
  | _, _, _ => True
def RelL (g : Nat) (sl : Value) (j : Nat) (w w' : World) : Prop := if j = 6 then w.grownBy w' (some g) else if j = 9 then w.grownBy w' sl.ownBlock else Below w.heap.size w w'
def FL (we : World) (Mx : Nat) (W0 : World) (g q B : Nat) (T : TypeId) (sl : Value) (C : Array Value) (ds : List Bs) (rk : Rst) : Nat → World → Prop
  | 0, w => RDx W0 g T w rk
  | 1, w => ∃ xs, w.ownsRow B 22 1 sl ds.length xs ∧ RowsO w B sl.ownBlock xs ds
  | 2, w => w.heap[q]? = some (.cells C 28 (0, 0)) ∧ B ≤ w.heap.size ∧ Mx ≤ w.heap.size
  | 3, w => Kp g q we w
  | _, _ => True
def killL (m : Nat) : Nat := if m = 0 then 6 else if m = 1 then 9 else 100
def dL (i : Nat) : Nat := 33 + i

theorem OwnB.gr {w w' : World} {B r : Nat} {v : Value} {x : Bs} (h : OwnB w B v x) (hg : w.grownBy w' (some r)) (hr : r < B) : OwnB w' B v x := h.kept hg (by
  cases hv : v.ownBlock with
  | none => exact .inl rfl
  | some k => exact .inr (fun e => by injection e with e; have := (h.lt k hv).1; omega))
theorem RL_st {W0 : World} {g q B : Nat} {T : TypeId} {sl : Value} {x : Bs} {ds : List Bs} {rn : Rst} (hgB : g < B) (hgq : ∀ k, sl.ownBlock = some k → W0.heap.size ≤ k ∧ k ≠ g) (i j : Nat) (v : Value) (w w' : World) (hij : i ≠ j) (hr : RelL g sl j w w') (h : RL W0 g q B T sl x ds rn i v w) : RL W0 g q B T sl x ds rn i v w' := by
  unfold RelL at hr
  match i, h with
  | 0, h => exact h
  | 1, h => exact h
  | 2, h => exact h
  | 3, h => exact h
  | 4, h => exact h
  | 5, h => exact h
  | 10, h => exact h
  | 11, h => exact h
  | _ + 12, _ => trivial
  | 6, ⟨h1, h2⟩ =>
    refine ⟨h1, ?_⟩
    rw [if_neg (by omega)] at hr
    split at hr
    · cases hs : sl.ownBlock with
      | none => rw [hs] at hr; exact h2.on ⟨hr.os, hr.tape, hr.output, hr.size, fun k hk => hr.block k hk (by simp)⟩
      | some k => rw [hs] at hr; exact h2.other hr (hgq k hs).1 (hgq k hs).2
    · exact h2.on hr
  | 7, ⟨h1, h2, h3⟩ =>
    refine ⟨h1, ?_, h3⟩
    split at hr
    · exact h2.gr hr hgB
    split at hr
    · exact h2.kept hr h3
    · exact h2.below hr (Nat.le_refl _)
  | 8, ⟨p, y, h1, h2, h3, h4, h5, h6, h7⟩ =>
    have hp := (Array.getElem?_eq_some_iff.1 h2).1
    split at hr
    · exact ⟨p, y, h1, (hr.block p hp (fun e => by injection e with e; omega)).trans h2, h3, h4, h5, h6.gr hr hgB, h7⟩
    split at hr
    · exact ⟨p, y, h1, (hr.block p hp (fun e => h4 e.symm)).trans h2, h3, h4, h5, h6.kept hr h7, h7⟩
    · exact ⟨p, y, h1, (hr.block p hp).trans h2, h3, h4, h5, h6.below hr (Nat.le_refl _), h7⟩
  | 9, ⟨xs, h1, h2⟩ =>
    split at hr
    · refine ⟨xs, h1.kept hr ?_, h2.far hr (fun k e => by injection e with e; omega)⟩
      cases hv : v.ownBlock with
      | none => exact .inl rfl
      | some k => exact .inr (fun e => by injection e with e; have := (h1.lt k hv).1; omega)
    rw [if_neg (by omega)] at hr
    exact ⟨xs, ownsRow_below h1 hr (Nat.le_refl _), h2.below hr⟩
theorem FL_st {we : World} {Mx : Nat} {W0 : World} {g q B : Nat} {T : TypeId} {sl : Value} {C : Array Value} {ds : List Bs} {rk : Rst} (hgB : g < B) (hgne : q ≠ g) (hgq : ∀ k, sl.ownBlock = some k → W0.heap.size ≤ k ∧ k ≠ g ∧ k ≠ q ∧ we.heap.size ≤ k) (m j : Nat) (w w' : World) (hm : j ≠ killL m) (hr : RelL g sl j w w') (h : FL we Mx W0 g q B T sl C ds rk m w) : FL we Mx W0 g q B T sl C ds rk m w' := by
  unfold RelL at hr
  match m, h with
  | 0, h =>
    rw [if_neg (by simpa [killL] using hm)] at hr
    split at hr
    · cases hs : sl.ownBlock with
      | none => rw [hs] at hr; exact RDx.on h ⟨hr.os, hr.tape, hr.output, hr.size, fun k hk => hr.block k hk (by simp)⟩
      | some k => rw [hs] at hr; exact RDx.other h hr (hgq k hs).1 (hgq k hs).2.1
    · exact RDx.on h hr
  | 1, ⟨xs, h1, h2⟩ =>
    split at hr
    · refine ⟨xs, h1.kept hr ?_, h2.far hr (fun k e => by injection e with e; omega)⟩
      cases hv : sl.ownBlock with
      | none => exact .inl rfl
      | some k => exact .inr (fun e => by injection e with e; have := (h1.lt k hv).1; omega)
    rw [if_neg (by simpa [killL] using hm)] at hr
    exact ⟨xs, ownsRow_below h1 hr (Nat.le_refl _), h2.below hr⟩
  | 2, ⟨h1, h2, h3⟩ =>
    have hq := (Array.getElem?_eq_some_iff.1 h1).1
    split at hr
    · exact ⟨(hr.block q hq (fun e => by injection e with e; exact hgne e)).trans h1, Nat.le_trans h2 hr.size, Nat.le_trans h3 hr.size⟩
    split at hr
    · exact ⟨(hr.block q hq (fun e => (hgq q e.symm).2.2.1 rfl)).trans h1, Nat.le_trans h2 hr.size, Nat.le_trans h3 hr.size⟩
    · exact ⟨(hr.block q hq).trans h1, Nat.le_trans h2 hr.size, Nat.le_trans h3 hr.size⟩
  | 3, h =>
    split at hr
    · exact Kp.trans h (Kp.gr1 hr)
    split at hr
    · refine ⟨Nat.le_trans h.size hr.size, fun k hk h1 h2 => (hr.block k (Nat.lt_of_lt_of_le hk h.size) (fun e => by have := (hgq k e.symm).2.2.2; omega)).trans (h.blk k hk h1 h2)⟩
    · exact Kp.trans h (Kp.below hr)
  | _ + 4, _ => trivial

theorem RDx.bel {W0 : World} {g : Nat} {T : TypeId} {w : World} {r : Rst} (h : RDx W0 g T w r) : Below W0.heap.size W0 w := by
  obtain ⟨_, _, h⟩ := h
  exact h.bel
theorem getD_un {b : Array Bool} {i : Nat} (h : b.getD i true = false) : b.getD i false = false := by
  rcases Nat.lt_or_ge i b.size with h' | h'
  · simp [h'] at h ⊢; exact h
  · simp [Array.getElem?_eq_none h'] at h ⊢
theorem wp_append_step {o : Oper} {a : Act} {w : World} {K : Act → World → Prop} {Q : Exit → Act → World → Prop} (x y : Operand) (ts : Array TypeId) (ho : o.op = .call { callee := .builtin .append, args := #[x, y], argTypes := ts }) (u v : Value) (hs : a.eval x = u) (hx : a.eval y = v) {v' : Value} {w' : World}
    (hr : (Builtin.append_ ts o.type #[u, v]).run Try.prog w = .ok v' w') (h : K (a.put o.dst v') w') : Oper.wp Try.prog o a w K Q := by
  unfold Oper.wp execOp
  simp only [ho, resolve, invoke, builtin, Sem.run_bind, Sem.run_pure, Result.andThen_ok, List.map_toArray, List.map_cons, List.map_nil, hs, hx, hr]
  exact h
def tailR (r : Rst) (nm : Bs) (t c : Int) : St := ⟨nm, t, c, num ML r 1, num ML (ML.R r 1) 1, ML.E (ML.R (ML.R r 1) 1), prt ML (ML.S (ML.R (ML.R r 1) 1)) 1, (lop ML (num ML (prtR ML (ML.S (ML.R (ML.R r 1) 1)) 1) 2) (ML.R (prtR ML (ML.S (ML.R (ML.R r 1) 1)) 1) 2) []).1⟩
def tailZ (r : Rst) : Rst := (lop ML (num ML (prtR ML (ML.S (ML.R (ML.R r 1) 1)) 1) 2) (ML.R (prtR ML (ML.S (ML.R (ML.R r 1) 1)) 1) 2) []).2
def RestP (W0 : World) (g q : Nat) (w : World) (s : St) (r : Rst) (e : Ending) (w' : World) : Prop :=
  e = .returned (.tuple #[]) ∧ (∃ A c, w'.heap[q]? = some (.cells (enC false s A c) 28 (0, 0)) ∧ (∀ kb w'', kb < w.heap.size → w'.grownBy w'' (some kb) → Byss w'' A s.ds) ∧ Byss w' A s.ds ∧ s.ds.length ≤ c ∧ c ≤ 9223372036854775807 ∧ (A = none → c = 0)) ∧ RDx W0 g 61 w' r ∧ Kp g q w w'

set_option maxHeartbeats 8000000 in
set_option maxRecDepth 100000 in
theorem rest_any (W0 : World) (g q : Nat) (w : World) (r : Rst) (nm : Bs) (t c : Int) (h : RDx W0 g 61 w r) (hgq : q ≠ g) (hq0 : W0.heap.size ≤ q)
    (hrow : w.heap[q]? = some (.cells (enC false ⟨nm, t, c, 0, 0, 0, [], []⟩ none 0) 28 (0, 0))) :
    Calls Try.prog 38 #[.pointer (some ⟨g, 0, none⟩), .pointer (some ⟨q, 1, none⟩)] w (RestP W0 g q w (tailR r nm t c) (tailZ r)) := by
  have N1 := Lib.hid (number_small W0 g w r 1 h (by omega))
  unfold tailR tailZ
  obtain ⟨rk, hrk⟩ : ∃ n, n = num ML r 1 := ⟨_, rfl⟩
  obtain ⟨rE, hrE⟩ : ∃ x, x = ML.R r 1 := ⟨_, rfl⟩
  rw [← hrE, ← hrk] at N1
  rw [← hrE, ← hrk]
  obtain ⟨kd, hkd⟩ : ∃ n, n = num ML rE 1 := ⟨_, rfl⟩
  obtain ⟨rF, hrF⟩ : ∃ x, x = ML.R rE 1 := ⟨_, rfl⟩
  rw [← hkd, ← hrF]
  have N2 := Lib.hid (fun W (h : RDx W0 g 61 W rE) => number_small W0 g W rE 1 h (by omega))
  rw [← hkd, ← hrF] at N2
  obtain ⟨ex, hex⟩ : ∃ n, n = ML.E rF := ⟨_, rfl⟩
  obtain ⟨rG, hrG⟩ : ∃ x, x = ML.S rF := ⟨_, rfl⟩
  rw [← hex, ← hrG]
  have N3 : Hid (∀ W, RDx W0 g 61 W rF → Calls Try.prog 36 #[.pointer (some ⟨g, 0, none⟩), .int .i64 8] W (NumP W0 g 61 W (ML.E rF) (ML.S rF))) := Lib.hid (fun W h => number_any W0 g W rF 8 h (by omega))
  rw [← hex, ← hrG] at N3
  obtain ⟨z, hz⟩ : ∃ n, n = prt ML rG 1 := ⟨_, rfl⟩
  obtain ⟨rH, hrH⟩ : ∃ x, x = prtR ML rG 1 := ⟨_, rfl⟩
  rw [← hz, ← hrH]
  have N4 := Lib.hid (fun W (h : RDx W0 g 61 W rG) => part_any W0 g W rG 1 h (by omega))
  rw [← hz, ← hrH] at N4
  obtain ⟨n, hn⟩ : ∃ n, n = num ML rH 2 := ⟨_, rfl⟩
  obtain ⟨rI, hrI⟩ : ∃ x, x = ML.R rH 2 := ⟨_, rfl⟩
  have hnb := num_bd rH 2 (by omega)
  rw [← hn, ← hrI]
  rw [← hn] at hnb
  have N5 := Lib.hid (fun W (h : RDx W0 g 61 W rH) => number_small W0 g W rH 2 h (by omega))
  rw [← hn, ← hrI] at N5
  clear hrk hrE hkd hrF hex hrG hz hrH hn hrI h
  have HR := Lib.hid hrow
  go_enter Try.func38, Try.ntmps38
  go_wp2_with fail
  refine N1.out.mono ?_
  rintro e w1 ⟨rfl, h1, g1⟩
  have hq := (Array.getElem?_eq_some_iff.1 hrow).1
  have r1 := (g1.block q hq (fun e => by injection e with e; exact hgq e)).trans hrow
  have k1 : Kp g q w w1 := Kp.gr1 g1
  obtain ⟨gs, r2, fz⟩ := set_row (i := 4) (.int .i64 (rk : Nat)) r1
  have there : w1.cell? ⟨q, 4, none⟩ = some (.int .i64 0) := (cell_of_row _ _ 4 _ _ _ r1).trans rfl
  have h2 := Lib.hid (h1.other gs hq0 hgq)
  have k2 := Lib.hid (k1.trans (Kp.gr2 gs))
  have R2 := Lib.hid r2
  clear N1 HR h1 g1 hq r1 k1 gs r2 hrow
  go_wp2_with fail
  refine (N2.out _ h2.out).mono ?_
  rintro e w3 ⟨rfl, h3, g3⟩
  have hq := (Array.getElem?_eq_some_iff.1 R2.out).1
  have r1 := (g3.block q hq (fun e => by injection e with e; exact hgq e)).trans R2.out
  have k1 := k2.out.trans (Kp.gr1 g3)
  obtain ⟨gs, r2, fz⟩ := set_row (i := 5) (.int .i64 (kd : Nat)) r1
  have there : w3.cell? ⟨q, 5, none⟩ = some (.int .i64 0) := (cell_of_row _ _ 5 _ _ _ r1).trans rfl
  replace h2 := Lib.hid (h3.other gs hq0 hgq)
  replace k2 := Lib.hid (k1.trans (Kp.gr2 gs))
  replace R2 := Lib.hid r2
  clear h3 g3 hq r1 k1 gs r2
  go_wp2_with fail
  refine (N3.out _ h2.out).mono ?_
  rintro e w5 ⟨rfl, h3, g3⟩
  have hq := (Array.getElem?_eq_some_iff.1 R2.out).1
  have r1 := (g3.block q hq (fun e => by injection e with e; exact hgq e)).trans R2.out
  have k1 := k2.out.trans (Kp.gr1 g3)
  obtain ⟨gs, r2, fz⟩ := set_row (i := 6) (.int .i64 ex) r1
  have there : w5.cell? ⟨q, 6, none⟩ = some (.int .i64 0) := (cell_of_row _ _ 6 _ _ _ r1).trans rfl
  replace h2 := Lib.hid (h3.other gs hq0 hgq)
  replace k2 := Lib.hid (k1.trans (Kp.gr2 gs))
  replace R2 := Lib.hid r2
  clear h3 g3 hq r1 k1 gs r2
  go_wp2_with fail
  refine (N4.out _ h2.out).mono ?_
  rintro e w7 ⟨A5, c5, rfl, hs5, h3, g3⟩
  have cv := string_bys A5 z c5 w7 (hs5.bys.on h3.bel)
  have hq := (Array.getElem?_eq_some_iff.1 R2.out).1
  have r1 := (g3.block q hq (fun e => by injection e with e; exact hgq e)).trans R2.out
  have k1 := k2.out.trans (Kp.gr1 g3)
  obtain ⟨gs, r2, fz⟩ := set_row (i := 7) (.string (bs z)) r1
  have there : w7.cell? ⟨q, 7, none⟩ = some (.string ⟨#[]⟩) := (cell_of_row _ _ 7 _ _ _ r1).trans rfl
  replace h2 := Lib.hid (h3.other gs hq0 hgq)
  replace k2 := Lib.hid (k1.trans (Kp.gr2 gs))
  replace R2 := Lib.hid r2
  clear h3 g3 hq r1 k1 gs r2 hs5
  go_wp2_with fail
  refine (N5.out _ h2.out).mono ?_
  rintro e w9 ⟨rfl, h3, g3⟩
  have hq := (Array.getElem?_eq_some_iff.1 R2.out).1
  have r1 := (g3.block q hq (fun e => by injection e with e; exact hgq e)).trans R2.out
  have k1 := k2.out.trans (Kp.gr1 g3)
  have R9 : Hid (w9.heap[q]? = some (.cells (enC false ⟨nm, t, c, rk, kd, ex, z, []⟩ none 0) 28 (0, 0))) := Lib.hid r1
  have H9 := Lib.hid h3
  have K9 := Lib.hid k1
  have sz9 : w.heap.size ≤ w9.heap.size := k1.size
  have qlt : q < w9.heap.size := (Array.getElem?_eq_some_iff.1 r1).1
  have glt : g < w9.heap.size := by obtain ⟨_, _, h⟩ := h3; exact (Array.getElem?_eq_some_iff.1 h.row).1
  have W0le : W0.heap.size ≤ w9.heap.size := h3.bel.size
  have P := Lib.hid (fun W rr (h : RDx W0 g 61 W rr) => part_any W0 g W rr 2 h (by omega))
  have HE : Hid (lop ML n rI [] = lop ML (n - 0) rI []) := Lib.hid rfl
  clear h3 g3 hq r1 k1 h2 k2 R2 N2 N3 N4 N5
  go_wp2_with fail
  go_loopw [27] (fun i wr => ∃ (k : Nat) (ds : List Bs) (A : Option Addr) (cc : Nat) (rr : Rst) (xs : List Value), i = .int .i64 k ∧ k ≤ n ∧ wr.heap[q]? = some (.cells (enC false ⟨nm, t, c, rk, kd, ex, z, ds⟩ A cc) 28 (0, 0)) ∧ wr.ownsRow w9.heap.size 22 1 (.slice A ds.length cc) ds.length xs ∧ RowsO wr w9.heap.size (Value.slice A ds.length cc).ownBlock xs ds ∧ RDx W0 g 61 wr rr ∧ Hid (lop ML n rI [] = lop ML (n - k) rr ds) ∧ Kp g q w wr ∧ ds.length ≤ k ∧ w9.heap.size ≤ wr.heap.size) (fun i _ => n - (intOf i).toNat)
  case atStart => exact ⟨0, [], none, 0, rI, [], rfl, by omega, R9.out, World.ownsRow_nil _ _ _ _, RowsO.nil, H9.out, HE, K9.out, by simp, Nat.le_refl _⟩
  case round =>
    obtain ⟨k, ds, A, cc, rr, xs, rfl, hk, hr, hown, hrows, hR, hT, hK, hdk, hsz⟩ := hrel
    clear HE R9 H9 K9
    by_cases hlt : k < n
    · have hlt' : (k : Int) < (n : Int) := by omega
      have hsucc : n - k = (n - (k + 1)) + 1 := by omega
      have g1c : wr.cell? ⟨g, 1, none⟩ = some (.bool rr.sh) := by obtain ⟨_, _, h⟩ := hR; exact (cell_of_row _ _ 1 _ _ _ h.row).trans rfl
      cases hsh : rr.sh with
      | true =>
        rw [hsh] at g1c
        have hfin : lop ML n rI [] = (ds, rr) := by rw [hT.out, hsucc, lop, hsh, if_pos rfl]
        have hfar : ∀ kb w'', kb < w.heap.size → wr.grownBy w'' (some kb) → Byss w'' A ds := fun kb w'' hkb hg => by
          have o3 := hown.kept hg (by
            cases hv : (Value.slice A ds.length cc).ownBlock with
            | none => exact .inl rfl
            | some j => exact .inr (fun e => by injection e with e; have := (hown.lt j hv).1; omega))
          obtain ⟨-, A', c', hv, hby, -⟩ := RowsO.byss o3 (hrows.far hg (fun j e => by injection e with e; omega))
          injection hv with e1 e2 e3
          subst e1
          exact hby
        obtain ⟨-, A', c', hv, hby, hc1, hc2, hc3⟩ := RowsO.byss hown hrows
        injection hv with e1 e2 e3
        subst e1 e3
        have HP : Hid (RestP W0 g q w ⟨nm, t, c, rk, kd, ex, z, (lop ML n rI []).1⟩ (lop ML n rI []).2 (.returned (.tuple #[])) wr) := Lib.hid ⟨rfl, ⟨A, cc, by rw [hfin]; exact hr, by rw [hfin]; exact hfar, by rw [hfin]; exact hby, by rw [hfin]; exact hc1, hc2, hc3⟩, by rw [hfin]; exact hR, hK⟩
        clear hr hown hrows hR hT hK hfin hby hc1 hc3 hfar hsh hsucc
        go_wp2_with fail
        go_end0
        exact HP.out
      | false =>
        rw [hsh] at g1c
        have hT2 : Hid (lop ML n rI [] = lop ML (n - (k + 1)) (prtR ML rr 2) (ds ++ [prt ML rr 2])) := Lib.hid (by rw [hT.out, hsucc, lop, hsh, if_neg (by decide)])
        have hxl := ML_prt rr 2 (by omega)
        clear hT hsucc hsh
        obtain ⟨x, hx⟩ : ∃ x, x = prt ML rr 2 := ⟨_, rfl⟩
        obtain ⟨rn, hrn⟩ : ∃ x, x = prtR ML rr 2 := ⟨_, rfl⟩
        have PP := Lib.hid (fun W (h : RDx W0 g 61 W rr) => P.out W rr h)
        rw [← hx, ← hrn] at hT2 PP
        rw [← hx] at hxl
        have hslk : ∀ k, (Value.slice A ds.length cc).ownBlock = some k → w9.heap.size ≤ k ∧ k < wr.heap.size := hown.lt
        have hsl1 : ∀ k, (Value.slice A ds.length cc).ownBlock = some k → W0.heap.size ≤ k ∧ k ≠ g := fun k hk => by have := hslk k hk; omega
        have hsl2 : ∀ k, (Value.slice A ds.length cc).ownBlock = some k → W0.heap.size ≤ k ∧ k ≠ g ∧ k ≠ q ∧ w.heap.size ≤ k := fun k hk => by have := hslk k hk; omega
        obtain ⟨sl, hsl⟩ : ∃ v, v = Value.slice A ds.length cc := ⟨_, rfl⟩
        rw [← hsl] at hslk hsl1 hsl2 hown hrows
        have HSL := Lib.hid hsl
        clear hx hrn hsl
        go_wp2_with fail
        refine wp_region_lane 12 (by kernel_rfl) (by kernel_rfl) (by kernel_rfl) rfl (d := dL) (R := RL W0 g q w9.heap.size 61 sl x ds rn) (F := FL w wr.heap.size W0 g q w9.heap.size 61 sl (enC false ⟨nm, t, c, rk, kd, ex, z, ds⟩ A cc) ds rr) (kill := killL) (Rel := RelL g sl) (fun i j hi hj e => ?_) (fun i hi => ?_) (fun i j v a b hij hr h => RL_st glt hsl1 i j v a b hij hr h) (fun m j a b hm hr h => FL_st glt hgq hsl2 m j a b hm hr h) (fun m => ?_) (fun i hi b a' w' un hrd => ?_) (fun V w2 hV hF => ?_)
        · unfold dL at e; omega
        · unfold dL; simp; omega
        · match m with
          | 0 => exact RDx.on hR (Below.drew (Below.refl _ _))
          | 1 => exact ⟨xs, hown, hrows.below (Below.drew (Below.refl _ _))⟩
          | 2 => exact ⟨hr, hsz, Nat.le_refl _⟩
          | 3 => exact hK.trans (Kp.below (Below.drew (Below.refl _ _)))
          | _ + 4 => trivial
        · obtain ⟨hu, o, ho, hall⟩ := mem_ready.1 hrd
          have t1 : (a'.tmps[1]?).getD undef = .pointer (some ⟨q, 1, none⟩) := slot_of ((un.old 1 (fun i _ => by unfold dL; omega)).trans rfl)
          have t0 : (a'.tmps[0]?).getD undef = .pointer (some ⟨g, 0, none⟩) := slot_of ((un.old 0 (fun i _ => by unfold dL; omega)).trans rfl)
          have hne : b.getD 100 false = false := by simp [un.size]
          obtain ⟨hrow, hbg, hmx⟩ : w'.heap[q]? = some (.cells (enC false ⟨nm, t, c, rk, kd, ex, z, ds⟩ A cc) 28 (0, 0)) ∧ w9.heap.size ≤ w'.heap.size ∧ wr.heap.size ≤ w'.heap.size := un.fact 2 hne
          have bel : ∀ {w'' : World} (j : Nat), j ≠ 6 → j ≠ 9 → Below w'.heap.size w' w'' → RelL g sl j w' w'' := fun j h1 h2 h => by unfold RelL; rw [if_neg h1, if_neg h2]; exact h
          match i, hi with
          | 0, _ =>
            refine ⟨_, rfl, rfl, ?_⟩
            clear ho hall hrd un
            unfold Oper.wp
            go_simp
            exact ⟨_, rfl, rfl, bel 0 (by omega) (by omega) (Below.refl _ _)⟩
          | 1, _ =>
            refine ⟨_, rfl, rfl, ?_⟩
            clear ho hall hrd un
            unfold Oper.wp
            go_simp
            exact ⟨_, rfl, rfl, bel 1 (by omega) (by omega) (Below.refl _ _)⟩
          | 2, _ =>
            obtain rfl := Option.some.inj ho
            have h1 := getD_both_true (hall ⟨1, .data⟩ (by simp) rfl)
            obtain ⟨v1, hv1, rfl⟩ := un.got 1 (by simp) h1
            have s1 := slot_of (j := 34) hv1
            refine ⟨_, rfl, rfl, ?_⟩
            clear ho hall hrd un
            unfold Oper.wp
            go_simp
            exact ⟨_, rfl, rfl, bel 2 (by omega) (by omega) (Below.refl _ _)⟩
          | 3, _ =>
            obtain rfl := Option.some.inj ho
            have h2 := getD_both_true (hall ⟨2, .data⟩ (by simp) rfl)
            obtain ⟨v2, hv2, rfl⟩ := un.got 2 (by simp) h2
            have s2 := slot_of (j := 35) hv2
            refine ⟨_, rfl, rfl, ?_⟩
            clear ho hall hrd un
            unfold Oper.wp
            go_simp
            exact ⟨_, rfl, rfl, bel 3 (by omega) (by omega) (Below.refl _ _)⟩
          | 4, _ =>
            obtain rfl := Option.some.inj ho
            have h3 := getD_both_true (hall ⟨3, .data⟩ (by simp) rfl)
            obtain ⟨v3, hv3, rfl⟩ := un.got 3 (by simp) h3
            have s3 := slot_of (j := 36) hv3
            have c8 : w'.cell? ⟨q, 8, none⟩ = some sl := (cell_of_row _ _ 8 _ _ _ hrow).trans (by rw [HSL.out]; rfl)
            refine ⟨_, rfl, rfl, ?_⟩
            clear ho hall hrd un
            unfold Oper.wp
            go_simp
            exact ⟨_, rfl, rfl, bel 4 (by omega) (by omega) (Below.refl _ _)⟩
          | 5, _ =>
            refine ⟨_, rfl, rfl, ?_⟩
            clear ho hall hrd un
            unfold Oper.wp
            go_simp
            exact ⟨_, rfl, rfl, bel 5 (by omega) (by omega) (Below.refl _ _)⟩
          | 6, _ =>
            obtain rfl := Option.some.inj ho
            have h5 := getD_both_true (hall ⟨5, .data⟩ (by simp) rfl)
            obtain ⟨v5, hv5, rfl⟩ := un.got 5 (by simp) h5
            have s5 := slot_of (j := 38) hv5
            have hRw : RDx W0 g 61 w' rr := un.fact 0 (getD_un hu)
            refine ⟨_, rfl, rfl, ?_⟩
            clear ho hall hrd un hv5
            unfold Oper.wp
            go_simp
            refine (PP.out _ hRw).mono ?_
            rintro e w2 ⟨A1, c1, rfl, hs, hR2, hG⟩
            exact ⟨_, rfl, ⟨⟨A1, c1, rfl, hs⟩, hR2⟩, by unfold RelL; rw [if_pos rfl]; exact hG⟩
          | 7, _ =>
            obtain rfl := Option.some.inj ho
            have h6 := getD_both_true (hall ⟨6, .data⟩ (by simp) rfl)
            obtain ⟨v6, hv6, ⟨A1, c1, rfl, hs⟩, hR6⟩ := un.got 6 (by simp) h6
            have s6 := slot_of (j := 39) hv6
            have hby := hs.bys.on hR6.bel
            have CL := Lib.hid (CloneB_any A1 x x.length c1 w' hby rfl (by omega) hby.inside)
            refine ⟨_, rfl, rfl, ?_⟩
            clear ho hall hrd un hv6
            unfold Oper.wp
            go_simp
            refine CL.out.mono ?_
            rintro e w2 ⟨v, rfl, hov, hB2⟩
            obtain ⟨A7, c7, hv7, -, -, -⟩ := hov.bys
            refine ⟨_, rfl, ⟨⟨A7, c7, hv7⟩, hov.mono hbg, ?_⟩, bel 7 (by omega) (by omega) hB2⟩
            cases hvo : v.ownBlock with
            | none => exact .inl rfl
            | some k =>
              refine .inr fun e => ?_
              have := (hov.lt k hvo).1
              have := (hslk k e.symm).2
              omega
          | 8, _ =>
            obtain rfl := Option.some.inj ho
            have h7 := getD_both_true (hall ⟨7, .data⟩ (by simp) rfl)
            obtain ⟨v7, hv7, ⟨A7, c7, rfl⟩, ho7, hn7⟩ := un.got 7 (by simp) h7
            have s7 := slot_of (j := 40) hv7
            refine ⟨_, rfl, rfl, ?_⟩
            clear ho hall hrd un hv7
            unfold Oper.wp
            go_simp
            exact ⟨_, rfl, ⟨_, _, rfl, row_new _ rfl, hbg, (fun e => by have := (hslk _ e).2; omega), rfl, ho7.alloc _, hn7⟩, bel 8 (by omega) (by omega) (Below.alloc (Below.refl _ _) (Nat.le_refl _) _)⟩
          | 9, _ =>
            obtain rfl := Option.some.inj ho
            have h8 := getD_both_true (hall ⟨8, .data⟩ (by simp) rfl)
            obtain ⟨v8, hv8, p, y, rfl, hp, hpB, hps, hy1, hoy, hny⟩ := un.got 8 (by simp) h8
            have s8 := slot_of (j := 41) hv8
            have h4 := getD_both_true (hall ⟨4, .data⟩ (by simp) rfl)
            obtain ⟨v4, hv4, rfl⟩ := un.got 4 (by simp) h4
            have s4 := slot_of (j := 37) hv4
            obtain ⟨xs', hown', hrows'⟩ : ∃ xs, w'.ownsRow w9.heap.size 22 1 v4 ds.length xs ∧ RowsO w' w9.heap.size v4.ownBlock xs ds := un.fact 1 (getD_un hu)
            obtain ⟨i0, hi0, hz0, hz1, hz2⟩ := info_parts info_slb
            obtain ⟨v', w2, hrun, o2, g2, -, f2⟩ := run_append_own_at (P := Try.prog) w' w9.heap.size 24 24 22 i0 (.slice none 0 0) 1 24 Try.underlying24 hi0 hz0 hz1 hz2 rfl (by decide) v4 ds.length xs' hown' ⟨p, 0, none⟩ 1 1 [y] rfl (fun j u hj => by
              match j, hj with
              | 0, hj => rw [Addr.add_lit]; exact (cell_of_row _ _ 0 _ _ _ hp).trans hj) (fun u hu => by rw [List.mem_singleton.1 hu]; exact hy1) (by unfold maxLen; omega) (by omega) hbg
            refine ⟨_, rfl, rfl, ?_⟩
            have e1 : a'.eval (.tmp 37) = v4 := by simpa [Act.eval] using s4
            have e2 : a'.eval (.tmp 41) = .slice (some ⟨p, 0, none⟩) 1 1 := by simpa [Act.eval] using s8
            refine wp_append_step (.tmp 37) (.tmp 41) _ rfl _ _ e1 e2 hrun ⟨v', rfl, ⟨_, o2, ?_⟩, by unfold RelL; rw [if_neg (by omega), if_pos rfl]; exact g2⟩
            exact (hrows'.snoc hoy hny).step g2 f2
          | 10, _ =>
            obtain rfl := Option.some.inj ho
            have h0 := getD_both_true (hall ⟨0, .data⟩ (by simp) rfl)
            obtain ⟨v0, hv0, rfl⟩ := un.got 0 (by simp) h0
            have s0 := slot_of (j := 33) hv0
            refine ⟨_, rfl, rfl, ?_⟩
            clear ho hall hrd un
            unfold Oper.wp
            go_simp
            exact ⟨_, rfl, rfl, bel 10 (by omega) (by omega) (Below.refl _ _)⟩
          | 11, _ =>
            obtain rfl := Option.some.inj ho
            have h10 := getD_both_true (hall ⟨10, .data⟩ (by simp) rfl)
            obtain ⟨v10, hv10, rfl⟩ := un.got 10 (by simp) h10
            have s10 := slot_of (j := 43) hv10
            refine ⟨_, rfl, rfl, ?_⟩
            clear ho hall hrd un
            unfold Oper.wp
            go_simp
            exact ⟨_, rfl, rfl, bel 11 (by omega) (by omega) (Below.refl _ _)⟩
        · obtain ⟨hrow, hbg, hmx⟩ : w2.heap[q]? = some (.cells (enC false ⟨nm, t, c, rk, kd, ex, z, ds⟩ A cc) 28 (0, 0)) ∧ w9.heap.size ≤ w2.heap.size ∧ wr.heap.size ≤ w2.heap.size := hF 2 (by simp [killL])
          have hK2 : Kp g q w w2 := hF 3 (by simp [killL])
          have u0 : V 0 = .pointer (some ⟨q, 1, none⟩) := hV 0 (by omega)
          have u1 : V 1 = .pointer (some ⟨q, 1, none⟩) := hV 1 (by omega)
          have u2 : V 2 = .pointer (some ⟨q, 1, none⟩) := hV 2 (by omega)
          have u3 : V 3 = .pointer (some ⟨q, 8, none⟩) := hV 3 (by omega)
          have u4 : V 4 = sl := hV 4 (by omega)
          have u5 : V 5 = .pointer (some ⟨g, 0, none⟩) := hV 5 (by omega)
          obtain ⟨-, hR2⟩ : (∃ A c, V 6 = .slice A x.length c ∧ Sl W0 A c x) ∧ RDx W0 g 61 w2 rn := hV 6 (by omega)
          obtain ⟨xs2, o2, rows2⟩ : ∃ xs, w2.ownsRow w9.heap.size 22 1 (V 9) (ds.length + 1) xs ∧ RowsO w2 w9.heap.size (V 9).ownBlock xs (ds ++ [x]) := hV 9 (by omega)
          have u10 : V 10 = .pointer (some ⟨q, 1, none⟩) := hV 10 (by omega)
          have u11 : V 11 = .pointer (some ⟨q, 8, none⟩) := hV 11 (by omega)
          obtain ⟨hlen, A2, c2, u9, -⟩ := RowsO.byss o2 rows2
          simp only [putAll, dL, Act.put, u0, u1, u2, u3, u4, u5, u9, u10, u11, Nat.reduceEqDiff, Nat.reduceAdd, if_false, if_true, List.setIfInBounds_toArray, List.set_cons_succ, List.set_cons_zero, List.drop_succ_cons, List.drop_zero]
          rw [u9] at o2 rows2
          obtain ⟨gs, r2, fz⟩ := set_row (i := 8) (.slice A2 (ds ++ [x]).length c2) hrow
          have there : w2.cell? ⟨q, 8, none⟩ = some sl := (cell_of_row _ _ 8 _ _ _ hrow).trans (by rw [HSL.out]; rfl)
          have o3 := o2.kept gs (by
            cases hv : (Value.slice A2 (ds ++ [x]).length c2).ownBlock with
            | none => exact .inl rfl
            | some k => exact .inr (fun e => by injection e with e; have := (o2.lt k hv).1; omega))
          have rows3 := rows2.far gs (fun k e => by injection e with e; omega)
          have hR3 := Lib.hid (hR2.other gs hq0 hgq)
          have hK3 := Lib.hid (hK2.trans (Kp.gr2 gs))
          have R3 : Hid ((w2.setCell ⟨q, 8, none⟩ (.slice A2 (ds ++ [x]).length c2)).heap[q]? = some (.cells (enC false ⟨nm, t, c, rk, kd, ex, z, ds ++ [x]⟩ A2 c2) 28 (0, 0))) := Lib.hid r2
          have sz3 : w9.heap.size ≤ (w2.setCell ⟨q, 8, none⟩ (.slice A2 (ds ++ [x]).length c2)).heap.size := by simpa using hbg
          have O3 : Hid ((w2.setCell ⟨q, 8, none⟩ (.slice A2 (ds ++ [x]).length c2)).ownsRow w9.heap.size 22 1 (.slice A2 (ds ++ [x]).length c2) (ds ++ [x]).length xs2) := Lib.hid (by rw [hlen] at o3; exact o3)
          have W3 := Lib.hid rows3
          have hdk2 : (ds ++ [x]).length ≤ k + 1 := by simp; omega
          generalize ds ++ [x] = ds2 at *
          generalize hnl : ds2.length = n2 at *
          have HNL := Lib.hid hnl
          clear hV hF u0 u1 u2 u3 u4 u5 u9 u10 u11 hrow hK2 hR2 o2 rows2 gs r2 o3 rows3 hr hown hrows hR hK PP hxl hslk hsl1 hsl2 HSL hbg hmx hnl g1c
          go_wp2_with fail
          go_roundw
          case rel => exact ⟨k + 1, ds2, A2, c2, rn, xs2, by go_num, by omega, R3.out, by rw [HNL.out]; exact O3.out, by rw [HNL.out]; exact W3.out, hR3.out, hT2, hK3.out, by rw [HNL.out]; exact hdk2, sz3⟩
          case measure => simp [intOf]; omega
    · have hlt' : ¬ (k : Int) < (n : Int) := by omega
      obtain rfl : k = n := by omega
      have hfin : lop ML k rI [] = (ds, rr) := by rw [hT.out, Nat.sub_self, lop]
      have hfar : ∀ kb w'', kb < w.heap.size → wr.grownBy w'' (some kb) → Byss w'' A ds := fun kb w'' hkb hg => by
        have o3 := hown.kept hg (by
          cases hv : (Value.slice A ds.length cc).ownBlock with
          | none => exact .inl rfl
          | some j => exact .inr (fun e => by injection e with e; have := (hown.lt j hv).1; omega))
        obtain ⟨-, A', c', hv, hby, -⟩ := RowsO.byss o3 (hrows.far hg (fun j e => by injection e with e; omega))
        injection hv with e1 e2 e3
        subst e1
        exact hby
      obtain ⟨-, A', c', hv, hby, hc1, hc2, hc3⟩ := RowsO.byss hown hrows
      injection hv with e1 e2 e3
      subst e1 e3
      have HP : Hid (RestP W0 g q w ⟨nm, t, c, rk, kd, ex, z, (lop ML k rI []).1⟩ (lop ML k rI []).2 (.returned (.tuple #[])) wr) := Lib.hid ⟨rfl, ⟨A, cc, by rw [hfin]; exact hr, by rw [hfin]; exact hfar, by rw [hfin]; exact hby, by rw [hfin]; exact hc1, hc2, hc3⟩, by rw [hfin]; exact hR, hK⟩
      clear hr hown hrows hR hT hK hfin hby hc1 hc3 hfar
      go_wp2_with fail
      go_end0
      exact HP.out
end Go.Proofs.Ytocbcobaodefgaa
