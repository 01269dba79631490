/-
  The document's Decode.
-/
import Derived.Test.YtocbcobaodefgaaEnDd
import Derived.Test.YtocbcobaodefgaaEnDe
import Derived.Test.YtocbcobaodefgaaEnR
import Derived.Deep.CutBlock
import Derived.Deep.DeepCutAuto
namespace Go.Proofs.Ytocbcobaodefgaa
open Go.RowKit
set_option linter.unusedVariables false
set_option maxRecDepth 100000
attribute [local go_sem ↓] exec_loadEn

theorem results_decD {c : Value} {tmps : Array Value} {W : World} {g : Nat} {cs : Array Value} (h2 : tmps.getD 2 undef = .pointer (some ⟨g, 0, none⟩)) (h3 : tmps.getD 3 undef = c)
    (r2 : W.heap[g]? = some (.cells cs 28 (0, 0))) (hs : cs.size = 9) :
    (results Try.f12 tmps).run Try.prog W = .ok (.tuple #[.agg cs, c]) W := by
  have q0 : (loadVar 28 ⟨g, 0, none⟩).run Try.prog W = .ok (.agg cs) W := run_loadVar_row W g 28 28 cs (0, 0) _ r2 Try.underlying28 rfl (by rw [hs]; exact info_en)
  subst h3
  have h2' : tmps[2]?.getD undef = .pointer (some ⟨g, 0, none⟩) := by simpa using h2
  simp [results, Try.results12, asAddr, h2', q0]
/-- Ahead of the last test: the entry, and what is left. -/
def MidD (w : World) (dl : Bool) (se : St) (re : Rst) (W : World) : Prop := ∃ (A : Option Addr) (c : Nat), W.heap[w.heap.size]? = some (.cells #[.bool false, .string ⟨#[]⟩, .int .i64 0, .int .i64 0, .int .i64 0, .int .i64 0, .int .i64 0, .string ⟨#[]⟩, .slice none 0 0] 28 (0, 0)) ∧ W.heap[w.heap.size + 1 + 1]? = some (.cells (enC dl se A c) 28 (0, 0)) ∧ (∀ w'', W.grownBy w'' (some w.heap.size) → Byss w'' A se.ds) ∧ Byss W A se.ds ∧ se.ds.length ≤ c ∧ c ≤ 9223372036854775807 ∧ (A = none → c = 0) ∧ RDx w (w.heap.size + 1) 69 W re ∧ se.ds.length ≤ 65535

set_option maxHeartbeats 8000000 in
set_option maxRecDepth 100000 in
theorem dDec_any (A : Option Addr) (b : Bs) (c : Nat) (w : World) (hb : Sl w A c b) : Calls Try.prog 12 #[.slice A b.length c] w (DecP MR w b) := by
  have rwP0 := row_new (w := w) (k := w.heap.size) (.cells #[.bool false, .string ⟨#[]⟩, .int .i64 0, .int .i64 0, .int .i64 0, .int .i64 0, .int .i64 0, .string ⟨#[]⟩, .slice none 0 0] 28 (0, 0)) rfl
  have bA : Below (w.heap.size + 1) (w.alloc (.cells #[.bool false, .string ⟨#[]⟩, .int .i64 0, .int .i64 0, .int .i64 0, .int .i64 0, .int .i64 0, .string ⟨#[]⟩, .slice none 0 0] 28 (0, 0))) (((w.alloc (.cells #[.bool false, .string ⟨#[]⟩, .int .i64 0, .int .i64 0, .int .i64 0, .int .i64 0, .int .i64 0, .string ⟨#[]⟩, .slice none 0 0] 28 (0, 0))).alloc (.cells #[.slice A b.length c, .bool false] 69 (0, 0))).alloc (.cells #[.bool false, .string ⟨#[]⟩, .int .i64 0, .int .i64 0, .int .i64 0, .int .i64 0, .int .i64 0, .string ⟨#[]⟩, .slice none 0 0] 28 (0, 0))) := Below.alloc (Below.alloc (Below.refl _ _) (by simp) _) (by simp) _
  have rwP := (bA.block w.heap.size (by omega)).trans rwP0
  have rwR := row_new (w := (w.alloc (.cells #[.bool false, .string ⟨#[]⟩, .int .i64 0, .int .i64 0, .int .i64 0, .int .i64 0, .int .i64 0, .string ⟨#[]⟩, .slice none 0 0] 28 (0, 0)))) (k := w.heap.size + 1) (.cells #[.slice A b.length c, .bool false] 69 (0, 0)) (by simp)
  have bB : Below (w.heap.size + 1 + 1) ((w.alloc (.cells #[.bool false, .string ⟨#[]⟩, .int .i64 0, .int .i64 0, .int .i64 0, .int .i64 0, .int .i64 0, .string ⟨#[]⟩, .slice none 0 0] 28 (0, 0))).alloc (.cells #[.slice A b.length c, .bool false] 69 (0, 0))) (((w.alloc (.cells #[.bool false, .string ⟨#[]⟩, .int .i64 0, .int .i64 0, .int .i64 0, .int .i64 0, .int .i64 0, .string ⟨#[]⟩, .slice none 0 0] 28 (0, 0))).alloc (.cells #[.slice A b.length c, .bool false] 69 (0, 0))).alloc (.cells #[.bool false, .string ⟨#[]⟩, .int .i64 0, .int .i64 0, .int .i64 0, .int .i64 0, .int .i64 0, .string ⟨#[]⟩, .slice none 0 0] 28 (0, 0))) := Below.alloc (Below.refl _ _) (by simp) _
  have rwG := (bB.block (w.heap.size + 1) (by omega)).trans rwR
  have rwQ := row_new (w := ((w.alloc (.cells #[.bool false, .string ⟨#[]⟩, .int .i64 0, .int .i64 0, .int .i64 0, .int .i64 0, .int .i64 0, .string ⟨#[]⟩, .slice none 0 0] 28 (0, 0))).alloc (.cells #[.slice A b.length c, .bool false] 69 (0, 0)))) (k := w.heap.size + 1 + 1) (.cells #[.bool false, .string ⟨#[]⟩, .int .i64 0, .int .i64 0, .int .i64 0, .int .i64 0, .int .i64 0, .string ⟨#[]⟩, .slice none 0 0] 28 (0, 0)) (by simp)
  have bZ : Below w.heap.size w (((w.alloc (.cells #[.bool false, .string ⟨#[]⟩, .int .i64 0, .int .i64 0, .int .i64 0, .int .i64 0, .int .i64 0, .string ⟨#[]⟩, .slice none 0 0] 28 (0, 0))).alloc (.cells #[.slice A b.length c, .bool false] 69 (0, 0))).alloc (.cells #[.bool false, .string ⟨#[]⟩, .int .i64 0, .int .i64 0, .int .i64 0, .int .i64 0, .int .i64 0, .string ⟨#[]⟩, .slice none 0 0] 28 (0, 0))) := Below.alloc (Below.alloc (Below.alloc (Below.refl _ _) (Nat.le_refl _) _) (by simp) _) (by simp; omega) _
  have h1 : RDx w (w.heap.size + 1) 69 (((w.alloc (.cells #[.bool false, .string ⟨#[]⟩, .int .i64 0, .int .i64 0, .int .i64 0, .int .i64 0, .int .i64 0, .string ⟨#[]⟩, .slice none 0 0] 28 (0, 0))).alloc (.cells #[.slice A b.length c, .bool false] 69 (0, 0))).alloc (.cells #[.bool false, .string ⟨#[]⟩, .int .i64 0, .int .i64 0, .int .i64 0, .int .i64 0, .int .i64 0, .string ⟨#[]⟩, .slice none 0 0] 28 (0, 0))) ⟨b, false⟩ := ⟨A, c, rwG, hb, bZ, by omega⟩
  have N1 := Lib.hid (number_ds w (w.heap.size + 1) (((w.alloc (.cells #[.bool false, .string ⟨#[]⟩, .int .i64 0, .int .i64 0, .int .i64 0, .int .i64 0, .int .i64 0, .string ⟨#[]⟩, .slice none 0 0] 28 (0, 0))).alloc (.cells #[.slice A b.length c, .bool false] 69 (0, 0))).alloc (.cells #[.bool false, .string ⟨#[]⟩, .int .i64 0, .int .i64 0, .int .i64 0, .int .i64 0, .int .i64 0, .string ⟨#[]⟩, .slice none 0 0] 28 (0, 0))) ⟨b, false⟩ 1 h1 (by omega))
  have N2 := Lib.hid (fun W (h : RDx w (w.heap.size + 1) 69 W (rA MR b)) => number_ds w (w.heap.size + 1) W (rA MR b) 1 h (by omega))
  have T2 := Lib.hid (fun W (h : RDx w (w.heap.size + 1) 69 W (MR.R (rA MR b) 1)) => take_dp w (w.heap.size + 1) W (rA MR b) 1 (by omega) h)
  have N3 := Lib.hid (fun W (h : RDx w (w.heap.size + 1) 69 W (rB MR b)) => number_ds w (w.heap.size + 1) W (rB MR b) 2 h (by omega))
  have N4 := Lib.hid (fun W (h : RDx w (w.heap.size + 1) 69 W (rC MR b)) => number_ds w (w.heap.size + 1) W (rC MR b) 2 h (by omega))
  have N5 := Lib.hid (fun W (h : RDx w (w.heap.size + 1) 69 W (rD MR b)) => number_ds w (w.heap.size + 1) W (rD MR b) 1 h (by omega))
  have N6 := Lib.hid (fun W (h : RDx w (w.heap.size + 1) 69 W (rE MR b)) => number_ds w (w.heap.size + 1) W (rE MR b) 1 h (by omega))
  have N7 := Lib.hid (fun W (h : RDx w (w.heap.size + 1) 69 W (rF MR b)) => number_dt w (w.heap.size + 1) W (rF MR b) h)
  have N8 := Lib.hid (fun W (h : RDx w (w.heap.size + 1) 69 W (rG MR b)) => number_ds w (w.heap.size + 1) W (rG MR b) 1 h (by omega))
  have T8 := Lib.hid (fun W (h : RDx w (w.heap.size + 1) 69 W (MR.R (rG MR b) 1)) => take_dp w (w.heap.size + 1) W (rG MR b) 1 (by omega) h)
  have N9 := Lib.hid (fun W (h : RDx w (w.heap.size + 1) 69 W (rH MR b)) => number_ds w (w.heap.size + 1) W (rH MR b) 2 h (by omega))
  have NN := Lib.hid (fun W rr (h : RDx w (w.heap.size + 1) 69 W rr) => number_ds w (w.heap.size + 1) W rr 2 h (by omega))
  have TT := Lib.hid (fun W rr (h : RDx w (w.heap.size + 1) 69 W (MR.R rr 2)) => take_dp w (w.heap.size + 1) W rr 2 (by omega) h)
  have eA : num MR ⟨b, false⟩ 1 = doesN MR b := rfl
  have eB : MR.R ⟨b, false⟩ 1 = rA MR b := rfl
  rw [eA, eB] at N1
  have eC : prtR MR (rA MR b) 1 = rB MR b := rfl
  rw [eC] at T2
  have eD : MR.R (rB MR b) 2 = rC MR b := rfl
  rw [eD] at N3
  have eE : MR.R (rC MR b) 2 = rD MR b := rfl
  rw [eE] at N4
  have eF : MR.R (rD MR b) 1 = rE MR b := rfl
  rw [eF] at N5
  have eG : MR.R (rE MR b) 1 = rF MR b := rfl
  rw [eG] at N6
  have eH : MR.S (rF MR b) = rG MR b := rfl
  rw [eH] at N7
  have eI : prtR MR (rG MR b) 1 = rH MR b := rfl
  rw [eI] at T8
  have eJ : MR.R (rH MR b) 2 = rI MR b := rfl
  rw [eJ] at N9
  have HK1 : Hid (doesN MR b = 1 → endR MR b = rD MR b ∧ entR MR b = ⟨prt MR (rA MR b) 1, (num MR (rB MR b) 2 : Nat), (num MR (rC MR b) 2 : Nat), 0, 0, 0, [], []⟩) := Lib.hid (fun h => by unfold endR entR; rw [if_pos h, if_pos h]; exact ⟨rfl, rfl⟩)
  have HK2 : Hid (doesN MR b ≠ 1 → endR MR b = (lop MR (num MR (rH MR b) 2) (rI MR b) []).2 ∧ entR MR b = ⟨prt MR (rA MR b) 1, (num MR (rB MR b) 2 : Nat), (num MR (rC MR b) 2 : Nat), (num MR (rD MR b) 1 : Nat), (num MR (rE MR b) 1 : Nat), MR.E (rF MR b), prt MR (rG MR b) 1, (lop MR (num MR (rH MR b) 2) (rI MR b) []).1⟩) := Lib.hid (fun h => by unfold endR entR; rw [if_neg h, if_neg h]; exact ⟨rfl, rfl⟩)
  have HNO : Hid (noR MR b = (decide (1 < doesN MR b) || ((endR MR b).sh || (decide (0 < (endR MR b).l.length) || !canE (decide (doesN MR b = 1)) (entR MR b))))) := Lib.hid rfl
  have KE := Lib.hid (fun d A c W (hW : Byss W A (entR MR b).ds) hm => dCanE_any d (entR MR b) A c W hW hm)
  have HD : Hid (∀ e w', DecP MR w b e w' ↔ (Below w.heap.size w w' ∧ ((noR MR b = true ∧ e = .returned (.tuple #[.agg #[.bool false, .string ⟨#[]⟩, .int .i64 0, .int .i64 0, .int .i64 0, .int .i64 0, .int .i64 0, .string ⟨#[]⟩, .slice none 0 0], .int .i64 80])) ∨ (noR MR b = false ∧ ∃ A c, e = .returned (.tuple #[.agg (enC (decide (doesN MR b = 1)) (entR MR b) A c), .int .i64 0]) ∧ Byss w' A (entR MR b).ds ∧ (entR MR b).ds.length ≤ c ∧ c ≤ 9223372036854775807 ∧ (A = none → c = 0))))) := Lib.hid (fun _ _ => Iff.rfl)
  have hdb : doesN MR b < 65536 := MR_bd ⟨b, false⟩ 1 (by omega)
  have hnb := MR_bd (rH MR b) 2 (by omega)
  clear eA eB eC eD eE eF eG eH eI eJ
  generalize doesN MR b = dn at *
  generalize entR MR b = se at *
  generalize endR MR b = re at *
  generalize noR MR b = NO at *
  generalize DecP MR w b = QQ at *
  generalize rA MR b = ra at *
  generalize rB MR b = rb at *
  generalize rC MR b = rc at *
  generalize rD MR b = rd at *
  generalize rE MR b = rE at *
  generalize rF MR b = rF at *
  generalize rG MR b = rG' at *
  generalize rH MR b = rH at *
  generalize rI MR b = rI at *
  generalize num MR ra 1 = n1 at *
  generalize prt MR ra 1 = nm at *
  generalize num MR rb 2 = tn at *
  generalize num MR rc 2 = cn at *
  generalize num MR rd 1 = rk at *
  generalize num MR rE 1 = kd at *
  generalize MR.E rF = ex at *
  generalize num MR rG' 1 = n8 at *
  generalize prt MR rG' 1 = z at *
  generalize num MR rH 2 = n at *
  generalize MR.R ra 1 = ra2 at *
  generalize MR.R rG' 1 = rG2 at *
  obtain ⟨dl, hdl⟩ : ∃ x : Bool, x = decide (dn = 1) := ⟨_, rfl⟩
  have hd1 : ((dn : Int) == 1) = dl := by rw [hdl]; cases h : decide (dn = 1) <;> simp at h ⊢ <;> omega
  rw [← hdl] at HNO HD
  have HDL := Lib.hid hdl
  have PP := Lib.hid rwP
  have QE := Lib.hid rwQ
  have hqg : w.heap.size + 1 + 1 ≠ w.heap.size + 1 := by omega
  have hq0 : w.heap.size ≤ w.heap.size + 1 + 1 := by omega
  have hpq : w.heap.size ≠ w.heap.size + 1 + 1 := by omega
  have hpg : w.heap.size ≠ w.heap.size + 1 := by omega
  clear hdl rwP0 bA rwP rwR bB rwG rwQ bZ h1 hb
  go_enter Try.func12, Try.ntmps12
  go_wp2_with fail
  refine N1.out.mono ?_
  rintro e w1 ⟨rfl, hx, gx⟩
  replace PP := Lib.hid ((gx.block w.heap.size (Array.getElem?_eq_some_iff.1 PP.out).1 (fun e => by injection e with e; exact hpg e)).trans PP.out)
  replace QE := Lib.hid ((gx.block (w.heap.size + 1 + 1) (Array.getElem?_eq_some_iff.1 QE.out).1 (fun e => by injection e with e; exact hqg e)).trans QE.out)
  have HR := Lib.hid hx
  clear gx
  have there0 : w1.cell? ⟨w.heap.size + 1 + 1, 0, none⟩ = some (.bool false) := (cell_of_row _ _ 0 _ _ _ QE.out).trans rfl
  have fz0 : w1.frozen? ⟨w.heap.size + 1 + 1, 0, none⟩ = false := frozen_of_row _ _ 0 _ _ QE.out
  obtain ⟨gs, r2, -⟩ := set_row (i := 0) (.bool dl) QE.out
  replace PP := Lib.hid ((gs.block w.heap.size (Array.getElem?_eq_some_iff.1 PP.out).1 (fun e => by injection e with e; exact hpq e)).trans PP.out)
  replace QE := Lib.hid r2
  replace HR := Lib.hid (HR.out.other gs hq0 hqg)
  clear gs r2
  clear hx N1
  go_wp2_with fail
  refine (N2.out _ HR.out).mono ?_
  rintro e w2 ⟨rfl, hx, gx⟩
  clear HR
  replace PP := Lib.hid ((gx.block w.heap.size (Array.getElem?_eq_some_iff.1 PP.out).1 (fun e => by injection e with e; exact hpg e)).trans PP.out)
  replace QE := Lib.hid ((gx.block (w.heap.size + 1 + 1) (Array.getElem?_eq_some_iff.1 QE.out).1 (fun e => by injection e with e; exact hqg e)).trans QE.out)
  have HR := Lib.hid hx
  clear gx
  clear hx N2 there0 fz0
  go_wp2_with fail
  refine (T2.out _ HR.out).mono ?_
  rintro e w3 ⟨A5, c5, rfl, hs5, hx, gx⟩
  clear HR
  replace PP := Lib.hid ((gx.block w.heap.size (Array.getElem?_eq_some_iff.1 PP.out).1 (fun e => by injection e with e; exact hpg e)).trans PP.out)
  replace QE := Lib.hid ((gx.block (w.heap.size + 1 + 1) (Array.getElem?_eq_some_iff.1 QE.out).1 (fun e => by injection e with e; exact hqg e)).trans QE.out)
  have HR := Lib.hid hx
  clear gx
  have there0 : w3.cell? ⟨w.heap.size + 1 + 1, 1, none⟩ = some (.string ⟨#[]⟩) := (cell_of_row _ _ 1 _ _ _ QE.out).trans rfl
  have fz0 : w3.frozen? ⟨w.heap.size + 1 + 1, 1, none⟩ = false := frozen_of_row _ _ 1 _ _ QE.out
  have cv := string_bys A5 nm c5 w3 (hs5.bys.on hx.bel)
  obtain ⟨gs, r2, -⟩ := set_row (i := 1) (.string (bs nm)) QE.out
  replace PP := Lib.hid ((gs.block w.heap.size (Array.getElem?_eq_some_iff.1 PP.out).1 (fun e => by injection e with e; exact hpq e)).trans PP.out)
  replace QE := Lib.hid r2
  replace HR := Lib.hid (HR.out.other gs hq0 hqg)
  clear gs r2
  clear hx hs5 T2
  go_wp2_with fail
  refine (N3.out _ HR.out).mono ?_
  rintro e w4 ⟨rfl, hx, gx⟩
  clear HR
  replace PP := Lib.hid ((gx.block w.heap.size (Array.getElem?_eq_some_iff.1 PP.out).1 (fun e => by injection e with e; exact hpg e)).trans PP.out)
  replace QE := Lib.hid ((gx.block (w.heap.size + 1 + 1) (Array.getElem?_eq_some_iff.1 QE.out).1 (fun e => by injection e with e; exact hqg e)).trans QE.out)
  have HR := Lib.hid hx
  clear gx
  clear hx N3 there0 fz0 cv
  go_wp2_with fail
  refine (N4.out _ HR.out).mono ?_
  rintro e w5 ⟨rfl, hx, gx⟩
  clear HR
  replace PP := Lib.hid ((gx.block w.heap.size (Array.getElem?_eq_some_iff.1 PP.out).1 (fun e => by injection e with e; exact hpg e)).trans PP.out)
  replace QE := Lib.hid ((gx.block (w.heap.size + 1 + 1) (Array.getElem?_eq_some_iff.1 QE.out).1 (fun e => by injection e with e; exact hqg e)).trans QE.out)
  have HR := Lib.hid hx
  clear gx
  have QE0 := QE
  have there0 : w5.cell? ⟨w.heap.size + 1 + 1, 2, none⟩ = some (.int .i64 0) := (cell_of_row _ _ 2 _ _ _ QE.out).trans rfl
  have fz0 : w5.frozen? ⟨w.heap.size + 1 + 1, 2, none⟩ = false := frozen_of_row _ _ 2 _ _ QE.out
  have there1 : w5.cell? ⟨w.heap.size + 1 + 1, 3, none⟩ = some (.int .i64 0) := (cell_of_row _ _ 3 _ _ _ QE.out).trans rfl
  have fz1 : w5.frozen? ⟨w.heap.size + 1 + 1, 3, none⟩ = false := frozen_of_row _ _ 3 _ _ QE.out
  obtain ⟨gs, r2, -⟩ := set_row (i := 2) (.int .i64 (tn : Nat)) QE.out
  replace PP := Lib.hid ((gs.block w.heap.size (Array.getElem?_eq_some_iff.1 PP.out).1 (fun e => by injection e with e; exact hpq e)).trans PP.out)
  replace QE := Lib.hid r2
  replace HR := Lib.hid (HR.out.other gs hq0 hqg)
  clear gs r2
  obtain ⟨gs, r2, -⟩ := set_row (i := 3) (.int .i64 (cn : Nat)) QE.out
  replace PP := Lib.hid ((gs.block w.heap.size (Array.getElem?_eq_some_iff.1 PP.out).1 (fun e => by injection e with e; exact hpq e)).trans PP.out)
  replace QE := Lib.hid r2
  replace HR := Lib.hid (HR.out.other gs hq0 hqg)
  clear gs r2
  have hdc : w5.cell? ⟨w.heap.size + 1 + 1, 0, none⟩ = some (.bool dl) := (cell_of_row _ _ 0 _ _ _ QE0.out).trans rfl
  clear hx N4
  go_upto_if 37 with fail
  clear hdc QE0
  go_cut [] (fun wx => MidD w dl se re wx)
  case first =>
    clear there0 there1 fz0 fz1 HNO HD KE hd1
    cases dl with
    | true =>
      have hk := HK1.out (of_decide_eq_true HDL.out.symm)
      have HM : Hid (MidD w true se re ((w5.setCell ⟨w.heap.size + 1 + 1, 2, none⟩ (.int .i64 (tn : Nat))).setCell ⟨w.heap.size + 1 + 1, 3, none⟩ (.int .i64 (cn : Nat)))) := Lib.hid (by
        rw [hk.1, hk.2]
        exact ⟨none, 0, PP.out, QE.out, fun w'' _ => byss_nil _, byss_nil _, by simp, by omega, fun _ => rfl, HR.out, by simp⟩)
      clear hk HK1 HK2 PP QE HR NN TT N5 N6 N7 N8 T8 N9
      go_wp2_with fail
      go_meet
      exact HM.out
    | false =>
      have hk := HK2.out (of_decide_eq_false HDL.out.symm)
      have HK := Lib.hid hk
      have KK := Lib.hid (Kp.refl (w.heap.size + 1) (w.heap.size + 1 + 1) ((w5.setCell ⟨w.heap.size + 1 + 1, 2, none⟩ (.int .i64 (tn : Nat))).setCell ⟨w.heap.size + 1 + 1, 3, none⟩ (.int .i64 (cn : Nat))))
      clear hk HK1 HK2 HDL
      go_wp2_with fail
      refine (N5.out _ HR.out).mono ?_
      rintro e w6 ⟨rfl, hx, gx⟩
      clear HR
      replace PP := Lib.hid ((gx.block w.heap.size (Array.getElem?_eq_some_iff.1 PP.out).1 (fun e => by injection e with e; exact hpg e)).trans PP.out)
      replace QE := Lib.hid ((gx.block (w.heap.size + 1 + 1) (Array.getElem?_eq_some_iff.1 QE.out).1 (fun e => by injection e with e; exact hqg e)).trans QE.out)
      replace KK := Lib.hid (KK.out.trans (Kp.gr1 gx))
      have HR := Lib.hid hx
      clear gx
      clear hx N5
      go_wp2_with fail
      refine (N6.out _ HR.out).mono ?_
      rintro e w7 ⟨rfl, hx, gx⟩
      clear HR
      replace PP := Lib.hid ((gx.block w.heap.size (Array.getElem?_eq_some_iff.1 PP.out).1 (fun e => by injection e with e; exact hpg e)).trans PP.out)
      replace QE := Lib.hid ((gx.block (w.heap.size + 1 + 1) (Array.getElem?_eq_some_iff.1 QE.out).1 (fun e => by injection e with e; exact hqg e)).trans QE.out)
      replace KK := Lib.hid (KK.out.trans (Kp.gr1 gx))
      have HR := Lib.hid hx
      clear gx
      have there0 : w7.cell? ⟨w.heap.size + 1 + 1, 4, none⟩ = some (.int .i64 0) := (cell_of_row _ _ 4 _ _ _ QE.out).trans rfl
      have fz0 : w7.frozen? ⟨w.heap.size + 1 + 1, 4, none⟩ = false := frozen_of_row _ _ 4 _ _ QE.out
      have there1 : w7.cell? ⟨w.heap.size + 1 + 1, 5, none⟩ = some (.int .i64 0) := (cell_of_row _ _ 5 _ _ _ QE.out).trans rfl
      have fz1 : w7.frozen? ⟨w.heap.size + 1 + 1, 5, none⟩ = false := frozen_of_row _ _ 5 _ _ QE.out
      obtain ⟨gs, r2, -⟩ := set_row (i := 4) (.int .i64 (rk : Nat)) QE.out
      replace PP := Lib.hid ((gs.block w.heap.size (Array.getElem?_eq_some_iff.1 PP.out).1 (fun e => by injection e with e; exact hpq e)).trans PP.out)
      replace QE := Lib.hid r2
      replace HR := Lib.hid (HR.out.other gs hq0 hqg)
      replace KK := Lib.hid (KK.out.trans (Kp.gr2 gs))
      clear gs r2
      obtain ⟨gs, r2, -⟩ := set_row (i := 5) (.int .i64 (kd : Nat)) QE.out
      replace PP := Lib.hid ((gs.block w.heap.size (Array.getElem?_eq_some_iff.1 PP.out).1 (fun e => by injection e with e; exact hpq e)).trans PP.out)
      replace QE := Lib.hid r2
      replace HR := Lib.hid (HR.out.other gs hq0 hqg)
      replace KK := Lib.hid (KK.out.trans (Kp.gr2 gs))
      clear gs r2
      clear hx N6
      go_wp2_with fail
      refine (N7.out _ HR.out).mono ?_
      rintro e w8 ⟨rfl, hx, gx⟩
      clear HR
      replace PP := Lib.hid ((gx.block w.heap.size (Array.getElem?_eq_some_iff.1 PP.out).1 (fun e => by injection e with e; exact hpg e)).trans PP.out)
      replace QE := Lib.hid ((gx.block (w.heap.size + 1 + 1) (Array.getElem?_eq_some_iff.1 QE.out).1 (fun e => by injection e with e; exact hqg e)).trans QE.out)
      replace KK := Lib.hid (KK.out.trans (Kp.gr1 gx))
      have HR := Lib.hid hx
      clear gx
      clear there0 there1 fz0 fz1
      have there0 : w8.cell? ⟨w.heap.size + 1 + 1, 6, none⟩ = some (.int .i64 0) := (cell_of_row _ _ 6 _ _ _ QE.out).trans rfl
      have fz0 : w8.frozen? ⟨w.heap.size + 1 + 1, 6, none⟩ = false := frozen_of_row _ _ 6 _ _ QE.out
      obtain ⟨gs, r2, -⟩ := set_row (i := 6) (.int .i64 ex) QE.out
      replace PP := Lib.hid ((gs.block w.heap.size (Array.getElem?_eq_some_iff.1 PP.out).1 (fun e => by injection e with e; exact hpq e)).trans PP.out)
      replace QE := Lib.hid r2
      replace HR := Lib.hid (HR.out.other gs hq0 hqg)
      replace KK := Lib.hid (KK.out.trans (Kp.gr2 gs))
      clear gs r2
      clear hx N7
      go_wp2_with fail
      refine (N8.out _ HR.out).mono ?_
      rintro e w9 ⟨rfl, hx, gx⟩
      clear HR
      replace PP := Lib.hid ((gx.block w.heap.size (Array.getElem?_eq_some_iff.1 PP.out).1 (fun e => by injection e with e; exact hpg e)).trans PP.out)
      replace QE := Lib.hid ((gx.block (w.heap.size + 1 + 1) (Array.getElem?_eq_some_iff.1 QE.out).1 (fun e => by injection e with e; exact hqg e)).trans QE.out)
      replace KK := Lib.hid (KK.out.trans (Kp.gr1 gx))
      have HR := Lib.hid hx
      clear gx
      clear hx N8 there0 fz0
      go_wp2_with fail
      refine (T8.out _ HR.out).mono ?_
      rintro e w10 ⟨A5, c5, rfl, hs5, hx, gx⟩
      clear HR
      replace PP := Lib.hid ((gx.block w.heap.size (Array.getElem?_eq_some_iff.1 PP.out).1 (fun e => by injection e with e; exact hpg e)).trans PP.out)
      replace QE := Lib.hid ((gx.block (w.heap.size + 1 + 1) (Array.getElem?_eq_some_iff.1 QE.out).1 (fun e => by injection e with e; exact hqg e)).trans QE.out)
      replace KK := Lib.hid (KK.out.trans (Kp.gr1 gx))
      have HR := Lib.hid hx
      clear gx
      have there0 : w10.cell? ⟨w.heap.size + 1 + 1, 7, none⟩ = some (.string ⟨#[]⟩) := (cell_of_row _ _ 7 _ _ _ QE.out).trans rfl
      have fz0 : w10.frozen? ⟨w.heap.size + 1 + 1, 7, none⟩ = false := frozen_of_row _ _ 7 _ _ QE.out
      have cv := string_bys A5 z c5 w10 (hs5.bys.on hx.bel)
      obtain ⟨gs, r2, -⟩ := set_row (i := 7) (.string (bs z)) QE.out
      replace PP := Lib.hid ((gs.block w.heap.size (Array.getElem?_eq_some_iff.1 PP.out).1 (fun e => by injection e with e; exact hpq e)).trans PP.out)
      replace QE := Lib.hid r2
      replace HR := Lib.hid (HR.out.other gs hq0 hqg)
      replace KK := Lib.hid (KK.out.trans (Kp.gr2 gs))
      clear gs r2
      clear hx hs5 T8
      go_wp2_with fail
      refine (N9.out _ HR.out).mono ?_
      rintro e w11 ⟨rfl, hx, gx⟩
      clear HR
      replace PP := Lib.hid ((gx.block w.heap.size (Array.getElem?_eq_some_iff.1 PP.out).1 (fun e => by injection e with e; exact hpg e)).trans PP.out)
      replace QE := Lib.hid ((gx.block (w.heap.size + 1 + 1) (Array.getElem?_eq_some_iff.1 QE.out).1 (fun e => by injection e with e; exact hqg e)).trans QE.out)
      replace KK := Lib.hid (KK.out.trans (Kp.gr1 gx))
      have HR := Lib.hid hx
      clear gx
      clear N9 there0 fz0 cv
      have R9 : Hid (w11.heap[w.heap.size + 1 + 1]? = some (.cells (enC false ⟨nm, tn, cn, rk, kd, ex, z, []⟩ none 0) 28 (0, 0))) := QE
      have H9 := HR
      have K9 := KK
      have P9 := PP
      have qlt : w.heap.size + 1 + 1 < w11.heap.size := (Array.getElem?_eq_some_iff.1 R9.out).1
      have HE : Hid (lop MR n rI [] = lop MR (n - 0) rI []) := Lib.hid rfl
      have SEQ : Hid (∀ ds rr, lop MR n rI [] = (ds, rr) → se = ⟨nm, tn, cn, rk, kd, ex, z, ds⟩ ∧ re = rr) := Lib.hid (fun ds rr h => by have h2 := HK.out; rw [h] at h2; exact ⟨h2.2, h2.1⟩)
      clear HR KK PP QE HK hx
      go_wp2_with fail
      go_loopw [63] (fun i wr => ∃ (k : Nat) (ds : List Bs) (A : Option Addr) (cc : Nat) (rr : Rst) (xs : List Value), i = .int .i64 k ∧ k ≤ n ∧ wr.heap[w.heap.size]? = some (.cells #[.bool false, .string ⟨#[]⟩, .int .i64 0, .int .i64 0, .int .i64 0, .int .i64 0, .int .i64 0, .string ⟨#[]⟩, .slice none 0 0] 28 (0, 0)) ∧ wr.heap[w.heap.size + 1 + 1]? = some (.cells (enC false ⟨nm, tn, cn, rk, kd, ex, z, ds⟩ A cc) 28 (0, 0)) ∧ wr.ownsRow w11.heap.size 22 1 (.slice A ds.length cc) ds.length xs ∧ RowsO wr w11.heap.size (Value.slice A ds.length cc).ownBlock xs ds ∧ RDx w (w.heap.size + 1) 69 wr rr ∧ Hid (lop MR n rI [] = lop MR (n - k) rr ds) ∧ ds.length ≤ k ∧ w11.heap.size ≤ wr.heap.size) (fun i _ => n - (intOf i).toNat)
      case atStart => exact ⟨0, [], none, 0, rI, [], rfl, by omega, P9.out, R9.out, World.ownsRow_nil _ _ _ _, RowsO.nil, H9.out, HE, by simp, Nat.le_refl _⟩
      case round =>
        obtain ⟨k, ds, A, cc, rr, xs, rfl, hk, hp, hr, hown, hrows, hR, hT, hdk, hsz⟩ := hrel
        clear HE R9 H9 K9 P9
        have hfar : Hid (∀ w'', wr.grownBy w'' (some w.heap.size) → Byss w'' A ds) := Lib.hid (fun w'' hg => by
          have o3 := hown.kept hg (by
            cases hv : (Value.slice A ds.length cc).ownBlock with
            | none => exact .inl rfl
            | some j => exact .inr (fun e => by injection e with e; have := (hown.lt j hv).1; omega))
          obtain ⟨-, A', c', hv, hby, -⟩ := RowsO.byss o3 (hrows.far hg (fun j e => by injection e with e; omega))
          injection hv with e1 e2 e3
          subst e1
          exact hby)
        have MID : Hid (lop MR n rI [] = (ds, rr) → MidD w false se re wr) := Lib.hid (fun h => by
          obtain ⟨h1, h2⟩ := SEQ.out ds rr h
          obtain ⟨-, A', c', hv, hby, hc1, hc2, hc3⟩ := RowsO.byss hown hrows
          injection hv with e1 e2 e3
          subst e1 e3
          rw [h1, h2]
          exact ⟨A, cc, hp, hr, hfar.out, hby, hc1, hc2, hc3, hR, by show ds.length ≤ 65535; omega⟩)
        by_cases hlt : k < n
        · have hlt' : (k : Int) < (n : Int) := by omega
          have hsucc : n - k = (n - (k + 1)) + 1 := by omega
          have g1c : wr.cell? ⟨w.heap.size + 1, 1, none⟩ = some (.bool rr.sh) := by obtain ⟨_, _, h⟩ := hR; exact (cell_of_row _ _ 1 _ _ _ h.row).trans rfl
          cases hsh : rr.sh with
          | true =>
            rw [hsh] at g1c
            have HM := Lib.hid (MID.out (by rw [hT.out, hsucc, lop, hsh, if_pos rfl]))
            clear hp hr hown hrows hR hT MID SEQ hfar hsh hsucc NN TT
            go_wp2_with fail
            go_meet
            exact HM.out
          | false =>
            rw [hsh] at g1c
            have hT2 : Hid (lop MR n rI [] = lop MR (n - (k + 1)) (prtR MR rr 2) (ds ++ [prt MR rr 2])) := Lib.hid (by rw [hT.out, hsucc, lop, hsh, if_neg (by decide)])
            have hxl := MR_prt rr 2 (by omega)
            have NP := Lib.hid (fun W h => NN.out W rr h)
            have TP := Lib.hid (fun W h => TT.out W rr h)
            clear hT hsucc hsh hfar MID
            obtain ⟨x, hx⟩ : ∃ x, x = prt MR rr 2 := ⟨_, rfl⟩
            obtain ⟨rn, hrn⟩ : ∃ x, x = prtR MR rr 2 := ⟨_, rfl⟩
            obtain ⟨n2, hn2⟩ : ∃ x, x = num MR rr 2 := ⟨_, rfl⟩
            obtain ⟨r1, hr1⟩ : ∃ x, x = MR.R rr 2 := ⟨_, rfl⟩
            rw [← hx, ← hrn] at hT2 TP
            rw [← hn2, ← hr1] at NP TP
            rw [← hx] at hxl
            have glt : w.heap.size + 1 < wr.heap.size := by omega
            have hWM : w.heap.size ≤ wr.heap.size := by omega
            have hslk : ∀ k, (Value.slice A ds.length cc).ownBlock = some k → w11.heap.size ≤ k ∧ k < wr.heap.size := hown.lt
            have hsl1 : ∀ k, (Value.slice A ds.length cc).ownBlock = some k → w.heap.size ≤ k ∧ k ≠ w.heap.size + 1 ∧ k < wr.heap.size := fun k hk => by have := hslk k hk; omega
            have hsl2 : ∀ k, (Value.slice A ds.length cc).ownBlock = some k → w.heap.size ≤ k ∧ k ≠ w.heap.size + 1 ∧ k ≠ w.heap.size + 1 + 1 ∧ k ≠ w.heap.size := fun k hk => by have := hslk k hk; omega
            obtain ⟨sl, hsl⟩ : ∃ v, v = Value.slice A ds.length cc := ⟨_, rfl⟩
            rw [← hsl] at hslk hsl1 hsl2 hown hrows
            have HSL := Lib.hid hsl
            clear hx hrn hn2 hr1 hsl
            go_wp2_with fail
            refine wp_region_lane2 15 (by kernel_rfl) (by kernel_rfl) (by kernel_rfl) rfl (d := dD) (pre := preD) (S := SD w (w.heap.size + 1) (w.heap.size + 1 + 1) sl x n2) (R := RD2 w (w.heap.size + 1) w11.heap.size wr.heap.size 69 x ds r1 rn) (killR := killRD) (F := FD w.heap.size (.cells #[.bool false, .string ⟨#[]⟩, .int .i64 0, .int .i64 0, .int .i64 0, .int .i64 0, .int .i64 0, .string ⟨#[]⟩, .slice none 0 0] 28 (0, 0)) wr w (w.heap.size + 1) (w.heap.size + 1 + 1) w11.heap.size 69 (enC false ⟨nm, tn, cn, rk, kd, ex, z, ds⟩ A cc) rr) (kill := killD) (Rel := RelD (w.heap.size + 1) wr.heap.size sl) (fun i j hi hj e => ?_) (fun i hi => ?_) (fun i j v a b hij hp hk hr _ h => RD2_st glt hWM hsl1 i j v a b hij hp hk hr h) (fun m j a b hm hp hr h => FD_st glt (by omega) hWM ⟨by omega, hpg⟩ hqg hsl2 m j a b hm hp hr h) (fun m => ?_) (fun i hi b a' w' un hrd => ?_) (fun V w2 hS hV hF => ?_)
            · unfold dD at e; omega
            · unfold dD; simp; omega
            · match m with
              | 0 => exact RDx.on hR (Below.drew (Below.refl _ _))
              | 1 => exact grown_of_below (Below.drew (Below.refl _ _)) _
              | 2 => exact ⟨hr, hsz, Nat.le_refl _⟩
              | 3 => exact hp
              | _ + 4 => trivial
            · obtain ⟨hu, o, ho, hall⟩ := mem_ready.1 hrd
              have t7 : (a'.tmps[7]?).getD undef = .pointer (some ⟨w.heap.size + 1 + 1, 1, none⟩) := slot_of ((un.old 7 (fun i _ => by unfold dD; omega)).trans rfl)
              have t4 : (a'.tmps[4]?).getD undef = .pointer (some ⟨w.heap.size + 1, 0, none⟩) := slot_of ((un.old 4 (fun i _ => by unfold dD; omega)).trans rfl)
              have hne : b.getD 100 false = false := by simp [un.size]
              obtain ⟨hrow, hbg, hmx⟩ : w'.heap[w.heap.size + 1 + 1]? = some (.cells (enC false ⟨nm, tn, cn, rk, kd, ex, z, ds⟩ A cc) 28 (0, 0)) ∧ w11.heap.size ≤ w'.heap.size ∧ wr.heap.size ≤ w'.heap.size := un.fact 2 hne
              have bel : ∀ {w'' : World} (j : Nat), j ≠ 8 → j ≠ 9 → j ≠ 10 → j ≠ 12 → Below w'.heap.size w' w'' → RelD (w.heap.size + 1) wr.heap.size sl j w' w'' := fun j h1 h2 h3 h4 h => by unfold RelD; rw [if_neg (by omega), if_neg h3, if_neg h4]; exact h
              match i, hi with
              | 0, _ =>
                obtain rfl := Option.some.inj ho
                refine ⟨(fun j hj => by simp [preD] at hj), _, rfl, rfl, ?_⟩
                clear ho hall hrd un
                unfold Oper.wp
                go_simp
                exact ⟨_, rfl, rfl, trivial, bel 0 (by omega) (by omega) (by omega) (by omega) (Below.refl _ _)⟩
              | 1, _ =>
                obtain rfl := Option.some.inj ho
                refine ⟨(fun j hj => by simp [preD] at hj), _, rfl, rfl, ?_⟩
                clear ho hall hrd un
                unfold Oper.wp
                go_simp
                exact ⟨_, rfl, rfl, trivial, bel 1 (by omega) (by omega) (by omega) (by omega) (Below.refl _ _)⟩
              | 2, _ =>
                obtain rfl := Option.some.inj ho
                have h1 := getD_both_true (hall ⟨1, .data⟩ (by simp) rfl)
                obtain ⟨v1, hv1, hs1, -⟩ := un.got 1 (by simp) h1
                obtain rfl := hs1
                have s1 := slot_of (j := 70) hv1
                refine ⟨(fun j hj => by simp [preD] at hj), _, rfl, rfl, ?_⟩
                clear ho hall hrd un
                unfold Oper.wp
                go_simp
                exact ⟨_, rfl, rfl, trivial, bel 2 (by omega) (by omega) (by omega) (by omega) (Below.refl _ _)⟩
              | 3, _ =>
                obtain rfl := Option.some.inj ho
                have h2 := getD_both_true (hall ⟨2, .data⟩ (by simp) rfl)
                obtain ⟨v2, hv2, hs2, -⟩ := un.got 2 (by simp) h2
                obtain rfl := hs2
                have s2 := slot_of (j := 71) hv2
                refine ⟨(fun j hj => by simp [preD] at hj), _, rfl, rfl, ?_⟩
                clear ho hall hrd un
                unfold Oper.wp
                go_simp
                exact ⟨_, rfl, rfl, trivial, bel 3 (by omega) (by omega) (by omega) (by omega) (Below.refl _ _)⟩
              | 4, _ =>
                obtain rfl := Option.some.inj ho
                have h3 := getD_both_true (hall ⟨3, .data⟩ (by simp) rfl)
                obtain ⟨v3, hv3, hs3, -⟩ := un.got 3 (by simp) h3
                obtain rfl := hs3
                have s3 := slot_of (j := 72) hv3
                have c8 : w'.cell? ⟨w.heap.size + 1 + 1, 8, none⟩ = some sl := (cell_of_row _ _ 8 _ _ _ hrow).trans (by rw [HSL.out]; rfl)
                refine ⟨(fun j hj => by simp [preD] at hj), _, rfl, rfl, ?_⟩
                clear ho hall hrd un
                unfold Oper.wp
                go_simp
                exact ⟨_, rfl, rfl, trivial, bel 4 (by omega) (by omega) (by omega) (by omega) (Below.refl _ _)⟩
              | 5, _ =>
                refine ⟨(fun j hj => by simp [preD] at hj), _, rfl, rfl, ?_⟩
                clear ho hall hrd un
                unfold Oper.wp
                go_simp
                exact ⟨_, rfl, trivial, OwnB.empty _ _ hmx, bel 5 (by omega) (by omega) (by omega) (by omega) (Below.alloc (Below.refl _ _) (Nat.le_refl _) _)⟩
              | 6, _ =>
                obtain rfl := Option.some.inj ho
                refine ⟨(fun j hj => by simp [preD] at hj), _, rfl, rfl, ?_⟩
                clear ho hall hrd un
                unfold Oper.wp
                go_simp
                exact ⟨_, rfl, rfl, trivial, bel 6 (by omega) (by omega) (by omega) (by omega) (Below.refl _ _)⟩
              | 7, _ =>
                obtain rfl := Option.some.inj ho
                refine ⟨(fun j hj => by simp [preD] at hj), _, rfl, rfl, ?_⟩
                clear ho hall hrd un
                unfold Oper.wp
                go_simp
                exact ⟨_, rfl, rfl, trivial, bel 7 (by omega) (by omega) (by omega) (by omega) (Below.refl _ _)⟩
              | 8, _ =>
                obtain rfl := Option.some.inj ho
                have h7 := getD_both_true (hall ⟨7, .data⟩ (by simp) rfl)
                obtain ⟨v7, hv7, hs7, -⟩ := un.got 7 (by simp) h7
                obtain rfl := hs7
                have s7 := slot_of (j := 76) hv7
                have hRw : RDx w (w.heap.size + 1) 69 w' rr := un.fact 0 (getD_un hu)
                refine ⟨(fun j hj => by simp [preD] at hj), _, rfl, rfl, ?_⟩
                clear ho hall hrd un hv7
                unfold Oper.wp
                go_simp
                refine (NP.out _ hRw).mono ?_
                rintro e w2 ⟨rfl, hR2, hG⟩
                exact ⟨_, rfl, rfl, hR2, by unfold RelD; rw [if_pos (.inl rfl)]; exact hG⟩
              | 9, _ =>
                obtain rfl := Option.some.inj ho
                have h8 := getD_both_true (hall ⟨8, .data⟩ (by simp) rfl)
                obtain ⟨v8, hv8, hs8, hR8⟩ := un.got 8 (by simp) h8
                have h6 := getD_both_true (hall ⟨6, .data⟩ (by simp) rfl)
                obtain ⟨v6, hv6, hs6, -⟩ := un.got 6 (by simp) h6
                obtain rfl := hs8
                obtain rfl := hs6
                have hR1 : RDx w (w.heap.size + 1) 69 w' r1 := hR8 (getD_un hu)
                have s6 := slot_of (j := 75) hv6
                have s8 := slot_of (j := 77) hv8
                refine ⟨(fun j hj => by simp [preD] at hj; rw [hj]; exact h8), _, rfl, rfl, ?_⟩
                clear ho hall hrd un hv8 hv6 hR8 h8 h6
                unfold Oper.wp
                go_simp
                refine (TP.out _ hR1).mono ?_
                rintro e w2 ⟨A1, c1, rfl, hs, hR2, hG⟩
                exact ⟨_, rfl, ⟨A1, c1, rfl, hs⟩, hR2, by unfold RelD; rw [if_pos (.inr rfl)]; exact hG⟩
              | 10, _ =>
                obtain rfl := Option.some.inj ho
                have h9 := getD_both_true (hall ⟨9, .data⟩ (by simp) rfl)
                have h8 := un.closed 9 (by simp) h9 8 (.inl ⟨rfl, rfl⟩)
                obtain ⟨v9, hv9, ⟨A1, c1, rfl, hs⟩, hR9⟩ := un.got 9 (by simp) h9
                have hR9' : RDx w (w.heap.size + 1) 69 w' rn := hR9 hne
                have h5 := getD_both_true (hall ⟨5, .data⟩ (by simp) rfl)
                obtain ⟨v5, hv5, -, hR5⟩ := un.got 5 (by simp) h5
                have ho5 : OwnB w' wr.heap.size v5 [] := hR5 (getD_un hu)
                have s9 := slot_of (j := 78) hv9
                have s5 := slot_of (j := 74) hv5
                obtain ⟨v', w2, hrun, o2, g2⟩ := run_app_sl (w := w') (W0 := w) 22 ho5 hs hR9'.bel (by omega) hmx
                obtain ⟨A2, c2, hv2, -, -⟩ := o2.bys
                refine ⟨(fun j hj => by simp [preD] at hj; rcases hj with rfl | rfl; exact h8; exact h9), _, rfl, rfl, ?_⟩
                have e1 : a'.eval (.tmp 74) = v5 := by simpa [Act.eval] using s5
                have e2 : a'.eval (.tmp 78) = .slice A1 x.length c1 := by simpa [Act.eval] using s9
                exact wp_append_step (.tmp 74) (.tmp 78) _ rfl _ _ e1 e2 hrun ⟨v', rfl, ⟨A2, c2, hv2⟩, o2, by unfold RelD; rw [if_neg (by omega), if_pos rfl]; exact ⟨_, g2, fun k hk => (ho5.lt k hk).1⟩⟩
              | 11, _ =>
                obtain rfl := Option.some.inj ho
                have h10 := getD_both_true (hall ⟨10, .data⟩ (by simp) rfl)
                have h9 := un.closed 10 (by simp) h10 9 (by simp [preD])
                have h8 := un.closed 10 (by simp) h10 8 (by simp [preD])
                obtain ⟨v10, hv10, ⟨A1, c1, rfl⟩, hR10⟩ := un.got 10 (by simp) h10
                have ho10 : OwnB w' wr.heap.size (.slice A1 x.length c1) x := hR10 hne
                have s10 := slot_of (j := 79) hv10
                refine ⟨(fun j hj => by simp [preD] at hj; rcases hj with rfl | rfl | rfl; exact h8; exact h9; exact h10), _, rfl, rfl, ?_⟩
                clear ho hall hrd un hv10 hR10
                unfold Oper.wp
                go_simp
                exact ⟨_, rfl, trivial, ⟨_, _, rfl, row_new _ rfl, hmx, rfl, ho10.alloc _⟩, bel 11 (by omega) (by omega) (by omega) (by omega) (Below.alloc (Below.refl _ _) (Nat.le_refl _) _)⟩
              | 12, _ =>
                obtain rfl := Option.some.inj ho
                have h11 := getD_both_true (hall ⟨11, .data⟩ (by simp) rfl)
                have h10 := un.closed 11 (by simp) h11 10 (by simp [preD])
                have h9 := un.closed 11 (by simp) h11 9 (by simp [preD])
                have h8 := un.closed 11 (by simp) h11 8 (by simp [preD])
                obtain ⟨v11, hv11, -, hR11⟩ := un.got 11 (by simp) h11
                obtain ⟨p, y, rfl, hp2, hpB, hy1, hoy⟩ : ∃ p y, v11 = .slice (some ⟨p, 0, none⟩) 1 1 ∧ w'.heap[p]? = some (.cells #[y] 22 (0, 0)) ∧ wr.heap.size ≤ p ∧ y.oneCell' = true ∧ OwnB w' wr.heap.size y x := hR11 hne
                have h4 := getD_both_true (hall ⟨4, .data⟩ (by simp) rfl)
                obtain ⟨v4, hv4, hs4, -⟩ := un.got 4 (by simp) h4
                obtain rfl := hs4
                have s11 := slot_of (j := 80) hv11
                have s4 := slot_of (j := 73) hv4
                have hG1 : wr.grownBy w' (some (w.heap.size + 1)) := un.fact 1 (getD_un hu)
                have hown' := hown.kept hG1 (by
                  cases hv : v4.ownBlock with
                  | none => exact .inl rfl
                  | some j => exact .inr (fun e => by injection e with e; have := (hsl1 j hv).2.1; omega))
                have hrows' := hrows.far hG1 (fun j e => by injection e with e; omega)
                have hny : y.ownBlock = none ∨ y.ownBlock ≠ v4.ownBlock := by
                  cases hv : y.ownBlock with
                  | none => exact .inl rfl
                  | some j => exact .inr (fun e => by have := (hoy.lt j hv).1; have := (hsl1 j e.symm).2.2; omega)
                obtain ⟨i0, hi0, hz0, hz1, hz2⟩ := info_parts info_slb
                obtain ⟨v', w2, hrun, o2, g2, -, f2⟩ := run_append_own_at (P := Try.prog) w' w11.heap.size 24 24 22 i0 (.slice none 0 0) 1 24 Try.underlying24 hi0 hz0 hz1 hz2 rfl (by decide) v4 ds.length xs hown' ⟨p, 0, none⟩ 1 1 [y] rfl (fun j u hj => by
                  match j, hj with
                  | 0, hj => rw [Addr.add_lit]; exact (cell_of_row _ _ 0 _ _ _ hp2).trans hj) (fun u hu => by rw [List.mem_singleton.1 hu]; exact hy1) (by unfold maxLen; omega) (by omega) hbg
                refine ⟨(fun j hj => by simp [preD] at hj; rcases hj with rfl | rfl | rfl | rfl; exact h8; exact h9; exact h10; exact h11), _, rfl, rfl, ?_⟩
                have e1 : a'.eval (.tmp 73) = v4 := by simpa [Act.eval] using s4
                have e2 : a'.eval (.tmp 80) = .slice (some ⟨p, 0, none⟩) 1 1 := by simpa [Act.eval] using s11
                refine wp_append_step (.tmp 73) (.tmp 80) _ rfl _ _ e1 e2 hrun ⟨v', rfl, trivial, ⟨_, o2, ?_⟩, by unfold RelD; rw [if_neg (by omega), if_neg (by omega), if_pos rfl]; exact g2⟩
                exact (hrows'.snoc (hoy.mono (by omega)) hny).step g2 f2
              | 13, _ =>
                obtain rfl := Option.some.inj ho
                have h0 := getD_both_true (hall ⟨0, .data⟩ (by simp) rfl)
                obtain ⟨v0, hv0, hs0, -⟩ := un.got 0 (by simp) h0
                obtain rfl := hs0
                have s0 := slot_of (j := 69) hv0
                refine ⟨(fun j hj => by simp [preD] at hj), _, rfl, rfl, ?_⟩
                clear ho hall hrd un
                unfold Oper.wp
                go_simp
                exact ⟨_, rfl, rfl, trivial, bel 13 (by omega) (by omega) (by omega) (by omega) (Below.refl _ _)⟩
              | 14, _ =>
                obtain rfl := Option.some.inj ho
                have h13 := getD_both_true (hall ⟨13, .data⟩ (by simp) rfl)
                obtain ⟨v13, hv13, hs13, -⟩ := un.got 13 (by simp) h13
                obtain rfl := hs13
                have s13 := slot_of (j := 82) hv13
                refine ⟨(fun j hj => by simp [preD] at hj), _, rfl, rfl, ?_⟩
                clear ho hall hrd un
                unfold Oper.wp
                go_simp
                exact ⟨_, rfl, rfl, trivial, bel 14 (by omega) (by omega) (by omega) (by omega) (Below.refl _ _)⟩
            · obtain ⟨hrow, hbg, hmx⟩ : w2.heap[w.heap.size + 1 + 1]? = some (.cells (enC false ⟨nm, tn, cn, rk, kd, ex, z, ds⟩ A cc) 28 (0, 0)) ∧ w11.heap.size ≤ w2.heap.size ∧ wr.heap.size ≤ w2.heap.size := hF 2 (by simp [killD])
              have hP2 : w2.heap[w.heap.size]? = some (.cells #[.bool false, .string ⟨#[]⟩, .int .i64 0, .int .i64 0, .int .i64 0, .int .i64 0, .int .i64 0, .string ⟨#[]⟩, .slice none 0 0] 28 (0, 0)) := hF 3 (by simp [killD])
              have u0 : V 0 = .pointer (some ⟨w.heap.size + 1 + 1, 1, none⟩) := hS 0 (by omega)
              have u1 : V 1 = .pointer (some ⟨w.heap.size + 1 + 1, 1, none⟩) := hS 1 (by omega)
              have u2 : V 2 = .pointer (some ⟨w.heap.size + 1 + 1, 1, none⟩) := hS 2 (by omega)
              have u3 : V 3 = .pointer (some ⟨w.heap.size + 1 + 1, 8, none⟩) := hS 3 (by omega)
              have u6 : V 6 = .pointer (some ⟨w.heap.size + 1, 0, none⟩) := hS 6 (by omega)
              have u13 : V 13 = .pointer (some ⟨w.heap.size + 1 + 1, 1, none⟩) := hS 13 (by omega)
              have u14 : V 14 = .pointer (some ⟨w.heap.size + 1 + 1, 8, none⟩) := hS 14 (by omega)
              have hR2 : RDx w (w.heap.size + 1) 69 w2 rn := hV 9 (by omega) (by simp [killRD])
              obtain ⟨xs2, o2, rows2⟩ : ∃ xs, w2.ownsRow w11.heap.size 22 1 (V 12) (ds.length + 1) xs ∧ RowsO w2 w11.heap.size (V 12).ownBlock xs (ds ++ [x]) := hV 12 (by omega) (by simp [killRD])
              obtain ⟨hlen, A2, c2, u12, -⟩ := RowsO.byss o2 rows2
              simp only [putAll, dD, Act.put, u12, u14, Nat.reduceEqDiff, Nat.reduceAdd, if_false, if_true, List.setIfInBounds_toArray, List.set_cons_succ, List.set_cons_zero, List.drop_succ_cons, List.drop_zero]
              generalize V 0 = y0, V 1 = y1, V 2 = y2, V 3 = y3, V 4 = y4, V 5 = y5, V 6 = y6, V 7 = y7, V 8 = y8, V 9 = y9, V 10 = y10, V 11 = y11, V 13 = y13
              rw [u12] at o2 rows2
              obtain ⟨gs, r2, fz⟩ := set_row (i := 8) (.slice A2 (ds ++ [x]).length c2) hrow
              have there : w2.cell? ⟨w.heap.size + 1 + 1, 8, none⟩ = some sl := (cell_of_row _ _ 8 _ _ _ hrow).trans (by rw [HSL.out]; rfl)
              have o3 := o2.kept gs (by
                cases hv : (Value.slice A2 (ds ++ [x]).length c2).ownBlock with
                | none => exact .inl rfl
                | some k => exact .inr (fun e => by injection e with e; have := (o2.lt k hv).1; omega))
              have rows3 := rows2.far gs (fun k e => by injection e with e; omega)
              have hR3 := Lib.hid (hR2.other gs hq0 hqg)
              have hP3 := Lib.hid ((gs.block w.heap.size (Array.getElem?_eq_some_iff.1 hP2).1 (fun e => by injection e with e; exact hpq e)).trans hP2)
              have R3 : Hid ((w2.setCell ⟨w.heap.size + 1 + 1, 8, none⟩ (.slice A2 (ds ++ [x]).length c2)).heap[w.heap.size + 1 + 1]? = some (.cells (enC false ⟨nm, tn, cn, rk, kd, ex, z, ds ++ [x]⟩ A2 c2) 28 (0, 0))) := Lib.hid r2
              have sz3 : w11.heap.size ≤ (w2.setCell ⟨w.heap.size + 1 + 1, 8, none⟩ (.slice A2 (ds ++ [x]).length c2)).heap.size := by simpa using hbg
              have O3 : Hid ((w2.setCell ⟨w.heap.size + 1 + 1, 8, none⟩ (.slice A2 (ds ++ [x]).length c2)).ownsRow w11.heap.size 22 1 (.slice A2 (ds ++ [x]).length c2) (ds ++ [x]).length xs2) := Lib.hid (by rw [hlen] at o3; exact o3)
              have W3 := Lib.hid rows3
              have hdk2 : (ds ++ [x]).length ≤ k + 1 := by simp; omega
              generalize ds ++ [x] = ds2 at *
              generalize hnl : ds2.length = m2 at *
              have HNL := Lib.hid hnl
              clear hV hS hF u0 u1 u2 u3 u6 u12 u13 u14 hrow hR2 hP2 o2 rows2 gs r2 o3 rows3 hr hp hown hrows hR hxl hslk hsl1 hsl2 HSL hbg hmx hnl g1c NP TP
              go_wp2_with fail
              go_roundw
              case rel => exact ⟨k + 1, ds2, A2, c2, rn, xs2, by go_num, by omega, hP3.out, R3.out, by rw [HNL.out]; exact O3.out, by rw [HNL.out]; exact W3.out, hR3.out, hT2, by rw [HNL.out]; exact hdk2, sz3⟩
              case measure => simp [intOf]; omega
        · have hlt' : ¬ (k : Int) < (n : Int) := by omega
          obtain rfl : k = n := by omega
          have HM := Lib.hid (MID.out (by rw [hT.out, Nat.sub_self, lop]))
          clear hp hr hown hrows hR hT MID SEQ hfar NN TT
          go_wp2_with fail
          go_meet
          exact HM.out
  case rest =>
    obtain ⟨A2, c2, hp, hr, hfar, hby, hc1, hc2, hc3, hR, hl5⟩ := hcut
    obtain ⟨D, hD⟩ : ∃ D, D = enC dl se A2 c2 := ⟨_, rfl⟩
    have KX := Lib.hid (KE.out dl A2 c2 wc hby (by omega))
    rw [← hD] at hr KX
    have HDD := Lib.hid hD
    obtain ⟨Ag, cg, hg⟩ := hR
    have g0 : wc.cell? ⟨w.heap.size + 1, 0, none⟩ = some (.slice Ag re.l.length cg) := (cell_of_row _ _ 0 _ _ _ hg.row).trans rfl
    have g1 : wc.cell? ⟨w.heap.size + 1, 1, none⟩ = some (.bool re.sh) := (cell_of_row _ _ 1 _ _ _ hg.row).trans rfl
    have bel := hg.bel
    have IZ : Hid ((Try.prog.info? 28).map (·.size) = some (#[.bool false, .string ⟨#[]⟩, .int .i64 0, .int .i64 0, .int .i64 0, .int .i64 0, .int .i64 0, .string ⟨#[]⟩, .slice none 0 0] : Array Value).size) := Lib.hid info_en
    have OZ : Hid ((#[.bool false, .string ⟨#[]⟩, .int .i64 0, .int .i64 0, .int .i64 0, .int .i64 0, .int .i64 0, .string ⟨#[]⟩, .slice none 0 0] : Array Value).all (·.oneCell') = true) := Lib.hid (by simp [Value.oneCell'])
    have ID : Hid ((Try.prog.info? 28).map (·.size) = some D.size) := Lib.hid (by rw [HDD.out]; exact info_en)
    have OD : Hid (D.all (·.oneCell') = true) := Lib.hid (by rw [HDD.out]; exact en_one _ _ _ _)
    have ZD : Hid ((#[.bool false, .string ⟨#[]⟩, .int .i64 0, .int .i64 0, .int .i64 0, .int .i64 0, .int .i64 0, .string ⟨#[]⟩, .slice none 0 0] : Array Value).size = D.size) := Lib.hid (by rw [HDD.out]; rfl)
    have LD := loadEn_row hr ID.out
    have P9 := Lib.hid hp
    have R9 := Lib.hid hr
    have HBY := Lib.hid hby
    have HFAR := Lib.hid hfar
    have HC3 := Lib.hid hc3
    clear hp hr hg hby hfar hc3 hD KE N5 N6 N7 N8 T8 N9 NN TT HK1 HK2 PP QE HR there0 there1 fz0 fz1 hd1 hnb hdb
    cases hsh : re.sh with
    | true =>
      rw [hsh] at g1
      have hNOt : NO = true := by rw [HNO.out, hsh]; cases decide (1 < dn) <;> rfl
      have rF := setRow_heap _ _ _ #[.bool false, .string ⟨#[]⟩, .int .i64 0, .int .i64 0, .int .i64 0, .int .i64 0, .int .i64 0, .string ⟨#[]⟩, .slice none 0 0] _ _ P9.out
      have hbF := Below.setRow bel (Nat.le_refl w.heap.size) (#[.bool false, .string ⟨#[]⟩, .int .i64 0, .int .i64 0, .int .i64 0, .int .i64 0, .int .i64 0, .string ⟨#[]⟩, .slice none 0 0] : Array Value)
      have HF := Lib.hid ((HD.out (.returned (.tuple #[.agg #[.bool false, .string ⟨#[]⟩, .int .i64 0, .int .i64 0, .int .i64 0, .int .i64 0, .int .i64 0, .string ⟨#[]⟩, .slice none 0 0], .int .i64 80])) (wc.setRow w.heap.size #[.bool false, .string ⟨#[]⟩, .int .i64 0, .int .i64 0, .int .i64 0, .int .i64 0, .int .i64 0, .string ⟨#[]⟩, .slice none 0 0])).2 ⟨hbF, .inl ⟨hNOt, rfl⟩⟩)
      clear hNOt hbF
      go_wp2_with (first
        | (refine wpList_store_row rfl 28 (.tmp 2) (.tmp 106) rfl w.heap.size #[.bool false, .string ⟨#[]⟩, .int .i64 0, .int .i64 0, .int .i64 0, .int .i64 0, .int .i64 0, .string ⟨#[]⟩, .slice none 0 0] rfl rfl 28 _ P9.out IZ.out rfl OZ.out ?_)
        | fail)
      refine bodyPost_ret ?_ ?_ HF.out
      · exact results_decD rfl rfl rF rfl
      · rfl
    | false =>
      rw [hsh] at g1
      by_cases hl : (0 : Int) < (re.l.length : Int)
      · have hl2 : 0 < re.l.length := by omega
        have HSH := Lib.hid hsh
        clear hsh
        have hNOt : NO = true := by rw [HNO.out, decide_eq_true hl2]; cases decide (1 < dn) <;> cases re.sh <;> rfl
        have rF := setRow_heap _ _ _ #[.bool false, .string ⟨#[]⟩, .int .i64 0, .int .i64 0, .int .i64 0, .int .i64 0, .int .i64 0, .string ⟨#[]⟩, .slice none 0 0] _ _ P9.out
        have hbF := Below.setRow bel (Nat.le_refl w.heap.size) (#[.bool false, .string ⟨#[]⟩, .int .i64 0, .int .i64 0, .int .i64 0, .int .i64 0, .int .i64 0, .string ⟨#[]⟩, .slice none 0 0] : Array Value)
        have HF := Lib.hid ((HD.out (.returned (.tuple #[.agg #[.bool false, .string ⟨#[]⟩, .int .i64 0, .int .i64 0, .int .i64 0, .int .i64 0, .int .i64 0, .string ⟨#[]⟩, .slice none 0 0], .int .i64 80])) (wc.setRow w.heap.size #[.bool false, .string ⟨#[]⟩, .int .i64 0, .int .i64 0, .int .i64 0, .int .i64 0, .int .i64 0, .string ⟨#[]⟩, .slice none 0 0])).2 ⟨hbF, .inl ⟨hNOt, rfl⟩⟩)
        clear hNOt hbF
        go_wp2_with (first
          | (refine wpList_store_row rfl 28 (.tmp 2) (.tmp 106) rfl w.heap.size #[.bool false, .string ⟨#[]⟩, .int .i64 0, .int .i64 0, .int .i64 0, .int .i64 0, .int .i64 0, .string ⟨#[]⟩, .slice none 0 0] rfl rfl 28 _ P9.out IZ.out rfl OZ.out ?_)
          | fail)
        refine bodyPost_ret ?_ ?_ HF.out
        · exact results_decD rfl rfl rF rfl
        · rfl
      · have hl2 : ¬ 0 < re.l.length := by omega
        by_cases hgt : (1 : Int) < (dn : Int)
        · have hgn : 1 < dn := by omega
          clear hsh
          have hNOt : NO = true := by rw [HNO.out, decide_eq_true hgn]; rfl
          have rF := setRow_heap _ _ _ #[.bool false, .string ⟨#[]⟩, .int .i64 0, .int .i64 0, .int .i64 0, .int .i64 0, .int .i64 0, .string ⟨#[]⟩, .slice none 0 0] _ _ P9.out
          have hbF := Below.setRow bel (Nat.le_refl w.heap.size) (#[.bool false, .string ⟨#[]⟩, .int .i64 0, .int .i64 0, .int .i64 0, .int .i64 0, .int .i64 0, .string ⟨#[]⟩, .slice none 0 0] : Array Value)
          have HF := Lib.hid ((HD.out (.returned (.tuple #[.agg #[.bool false, .string ⟨#[]⟩, .int .i64 0, .int .i64 0, .int .i64 0, .int .i64 0, .int .i64 0, .string ⟨#[]⟩, .slice none 0 0], .int .i64 80])) (wc.setRow w.heap.size #[.bool false, .string ⟨#[]⟩, .int .i64 0, .int .i64 0, .int .i64 0, .int .i64 0, .int .i64 0, .string ⟨#[]⟩, .slice none 0 0])).2 ⟨hbF, .inl ⟨hNOt, rfl⟩⟩)
          clear hNOt hbF
          go_wp2_with (first
            | (refine wpList_store_row rfl 28 (.tmp 2) (.tmp 106) rfl w.heap.size #[.bool false, .string ⟨#[]⟩, .int .i64 0, .int .i64 0, .int .i64 0, .int .i64 0, .int .i64 0, .string ⟨#[]⟩, .slice none 0 0] rfl rfl 28 _ P9.out IZ.out rfl OZ.out ?_)
            | fail)
          refine bodyPost_ret ?_ ?_ HF.out
          · exact results_decD rfl rfl rF rfl
          · rfl
        · have hgn : ¬ 1 < dn := by omega
          have HSH := Lib.hid hsh
          clear hsh
          go_wp2_with fail
          refine KX.out.mono ?_
          rintro e wA ⟨rfl, qA⟩
          have belA := bel.trans (qA.mono bel.size)
          have PA := Lib.hid ((qA.block w.heap.size (Array.getElem?_eq_some_iff.1 P9.out).1).trans P9.out)
          have RA := Lib.hid ((qA.block (w.heap.size + 1 + 1) (Array.getElem?_eq_some_iff.1 R9.out).1).trans R9.out)
          have LA := loadEn_row RA.out ID.out
          clear LD
          cases hc : canE dl se with
          | false =>
            have hNOt : NO = true := by rw [HNO.out, hc]; cases decide (1 < dn) <;> cases re.sh <;> cases decide (0 < re.l.length) <;> rfl
            have rF := setRow_heap _ _ _ #[.bool false, .string ⟨#[]⟩, .int .i64 0, .int .i64 0, .int .i64 0, .int .i64 0, .int .i64 0, .string ⟨#[]⟩, .slice none 0 0] _ _ PA.out
            have hbF := Below.setRow belA (Nat.le_refl w.heap.size) (#[.bool false, .string ⟨#[]⟩, .int .i64 0, .int .i64 0, .int .i64 0, .int .i64 0, .int .i64 0, .string ⟨#[]⟩, .slice none 0 0] : Array Value)
            have HF := Lib.hid ((HD.out (.returned (.tuple #[.agg #[.bool false, .string ⟨#[]⟩, .int .i64 0, .int .i64 0, .int .i64 0, .int .i64 0, .int .i64 0, .string ⟨#[]⟩, .slice none 0 0], .int .i64 80])) (wA.setRow w.heap.size #[.bool false, .string ⟨#[]⟩, .int .i64 0, .int .i64 0, .int .i64 0, .int .i64 0, .int .i64 0, .string ⟨#[]⟩, .slice none 0 0])).2 ⟨hbF, .inl ⟨hNOt, rfl⟩⟩)
            clear hNOt hbF
            go_wp2_with (first
              | (refine wpList_store_row rfl 28 (.tmp 2) (.tmp 106) rfl w.heap.size #[.bool false, .string ⟨#[]⟩, .int .i64 0, .int .i64 0, .int .i64 0, .int .i64 0, .int .i64 0, .string ⟨#[]⟩, .slice none 0 0] rfl rfl 28 _ PA.out IZ.out rfl OZ.out ?_)
              | fail)
            refine bodyPost_ret ?_ ?_ HF.out
            · exact results_decD rfl rfl rF rfl
            · rfl
          | true =>
            have hNOf : NO = false := by rw [HNO.out, HSH.out, hc, decide_eq_false hl2, decide_eq_false hgn]; rfl
            have rF := setRow_heap _ _ _ D _ _ PA.out
            have hbF := Below.setRow belA (Nat.le_refl w.heap.size) D
            have hBF : Byss (wA.setRow w.heap.size D) A2 se.ds := HFAR.out _ (grown_trans (grown_of_below qA _) (grownBy_setRow D) (fun k hk => .inl hk))
            have HF := Lib.hid ((HD.out (.returned (.tuple #[.agg D, .int .i64 0])) (wA.setRow w.heap.size D)).2 ⟨hbF, .inr ⟨hNOf, A2, c2, by rw [HDD.out], hBF, hc1, hc2, HC3.out⟩⟩)
            have hsD : D.size = 9 := by rw [HDD.out]; rfl
            clear hNOf hbF hBF
            go_wp2_with (first
              | (refine wpList_store_row rfl 28 (.tmp 2) (.tmp 107) rfl w.heap.size D rfl rfl 28 _ PA.out ID.out (by first | exact ZD.out | exact ZD.out.symm) OD.out ?_)
              | fail)
            refine bodyPost_ret ?_ ?_ HF.out
            · exact results_decD rfl rfl rF hsD
            · rfl
end Go.Proofs.Ytocbcobaodefgaa
