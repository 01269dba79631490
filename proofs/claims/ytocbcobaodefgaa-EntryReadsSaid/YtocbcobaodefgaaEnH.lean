/-
  The landed entry: Can.
-/
import Derived.Test.YtocbcobaodefgaaEnG
import Derived.Test.YtocbcobaodefgaaPlB
namespace Go.Proofs.Ytocbcobaodefgaa
open Go.RowKit
set_option linter.unusedVariables false
set_option maxRecDepth 100000

/-- A set loaded whole. -/
noncomputable def loadSt (v : Value) (w : World) : Result Next := ((Instr.loadAt 26 v).run Try.prog w).andThen fun a w' => .ok (.value a) w'
theorem exec_loadSt (ev : Operand → Value) (d : Option Tmp) (x : Operand) (t : TypeId) (p : String) (f : Array Edge) (gd : Option (Nat × Bool)) (w : World) : (execOp ev { dst := d, op := .load 26 x, type := t, pos := p, after := f, guard := gd }).run Try.prog w = loadSt (ev x) w := by
  unfold execOp loadSt
  simp only [Sem.run_bind, Sem.run_pure]
theorem loadSt_row {w1 : World} {g : Nat} {C : Array Value} (h : w1.heap[g]? = some (.cells C 26 (0, 0))) (hC : (Try.prog.info? 26).map (·.size) = some C.size) : loadSt (.pointer (some ⟨g, 0, none⟩)) w1 = .ok (.value (.agg C)) w1 := by
  unfold loadSt
  simp only [Instr.loadAt, Instr.sureAddr, Sem.run_bind, Sem.run_pure, Result.andThen_ok, run_loadVar_row w1 g 26 26 C (0, 0) _ h Try.underlying26 rfl hC]
theorem loadSt_st {w1 : World} {g : Nat} {s : St} {A : Option Addr} {c : Nat} (h : w1.heap[g]? = some (.cells (stC s A c) 26 (0, 0))) : loadSt (.pointer (some ⟨g, 0, none⟩)) w1 = .ok (.value (.agg (stC s A c))) w1 := loadSt_row h info_st
theorem loadSt_mid {w1 : World} {g o : Nat} {s : St} {A : Option Addr} {c : Nat} (h : w1.rangeAt g o (stL s A c)) : loadSt (.pointer (some ⟨g, o, none⟩)) w1 = .ok (.value (.agg (stC s A c))) w1 := by
  unfold loadSt
  rw [run_loadAt_mid w1 g o 26 (stL s A c) _ h Try.underlying26 rfl info_st]
  rfl
attribute [local go_sem ↓] exec_loadSt

structure Sized (s : St) : Prop where
  n : s.n.length ≤ 140737488355328
  z : s.z.length ≤ 140737488355328
  d : ∀ x ∈ s.ds, x.length ≤ 140737488355328
  l : s.ds.length ≤ 9223372036854775806
theorem kindS_0 {s : St} (h : s.kd = 0) : kindS s = (s.t != 0 && (s.z.isEmpty && dataS s)) := by unfold kindS; rw [if_pos h]
theorem kindS_1 {s : St} (h : s.kd = 1) : kindS s = (s.t != 0 && soaS s) := by unfold kindS; rw [if_neg (by omega), if_pos h]
theorem kindS_2 {s : St} (h : s.kd = 2) : kindS s = (s.t == 0 && soaS s) := by unfold kindS; rw [if_neg (by omega), if_neg (by omega), if_pos h]
theorem kindS_n {s : St} (h0 : s.kd ≠ 0) (h1 : s.kd ≠ 1) (h2 : s.kd ≠ 2) : kindS s = false := by unfold kindS; rw [if_neg h0, if_neg h1, if_neg h2]

set_option maxHeartbeats 4000000 in
set_option maxRecDepth 100000 in
theorem Can8_any (s : St) (A : Option Addr) (c : Nat) (w : World) (hS : Byss w A s.ds) (hz : Sized s) : Calls Try.prog 48 #[.agg (stC s A c)] w fun e w' => e = .returned (.bool (canS s)) ∧ Below w.heap.size w w' := by
  have r1 := row_new (w := w) (k := w.heap.size) (.cells (stC s A c) 26 (0, 0)) rfl
  have b0 : Below w.heap.size w (w.alloc (.cells (stC s A c) 26 (0, 0))) := Below.alloc (Below.refl _ _) (Nat.le_refl _) _
  have hS0 := Lib.hid (hS.on b0)
  have E1 := Lib.hid (fun W => canKey_any s A c W)
  have E2 := Lib.hid (fun W => canTime_any s A c W)
  have E3 := Lib.hid (fun W hW => fits_any s A c W hW hz.n hz.z hz.d hz.l)
  have E4 := Lib.hid (fun W hW => areDatas_any s A c W hW hz.l)
  have E5 := Lib.hid (fun W hW => hasSOA_any s A c W hW hz.l)
  have HR : Hid (canS s = (canKeyS s && (canTimeS s && (fitsS s && kindS s)))) := Lib.hid rfl
  have K0 := Lib.hid (@kindS_0 s)
  have K1 := Lib.hid (@kindS_1 s)
  have K2 := Lib.hid (@kindS_2 s)
  have Kn := Lib.hid (@kindS_n s)
  have HC := Lib.hid (fun (W : World) (h : W.heap[w.heap.size]? = some (.cells (stC s A c) 26 (0, 0))) => st_cell h)
  have I := Lib.hid (show (Try.prog.info? 26).map (·.size) = some (stC s A c).size from info_st)
  have L1 := loadSt_row r1 I.out
  generalize canS s = R at *
  generalize canKeyS s = k1 at *
  generalize canTimeS s = k2 at *
  generalize fitsS s = k3 at *
  generalize kindS s = k4 at *
  generalize dataS s = k5 at *
  generalize soaS s = k6 at *
  generalize s.z = z at *
  generalize s.kd = kd at *
  generalize s.t = t at *
  generalize stC s A c = C at *
  have lt1 : w.heap.size < (w.alloc (.cells C 26)).heap.size := by simp
  clear hS hz
  go_enter Try.func48, Try.ntmps48
  go_wp2_with fail
  generalize w.alloc (.cells C 26) = W0 at *
  refine (E1.out _).mono ?_
  rintro e w1 ⟨rfl, q1⟩
  replace r1 := (q1.block _ lt1).trans r1
  replace lt1 := Nat.lt_of_lt_of_le lt1 q1.size
  replace hS0 := Lib.hid (hS0.out.on q1)
  obtain ⟨bb, s1⟩ := Below.next b0 b0.size q1
  clear q1 b0 E1 L1
  have L1 := loadSt_row r1 I.out
  cases k1 with
  | false =>
    have HF : Hid (R = false) := Lib.hid (by rw [HR.out]; rfl)
    clear HR
    go_wp2_with fail
    go_ret
    exact ⟨by rw [HF.out]; rfl, bb⟩
  | true =>
  go_wp2_with fail
  refine (E2.out _).mono ?_
  rintro e w2 ⟨rfl, q1⟩
  replace r1 := (q1.block _ lt1).trans r1
  replace lt1 := Nat.lt_of_lt_of_le lt1 q1.size
  replace hS0 := Lib.hid (hS0.out.on q1)
  obtain ⟨bb, s1⟩ := Below.next bb s1 q1
  clear q1 E2 L1
  have L1 := loadSt_row r1 I.out
  cases k2 with
  | false =>
    have HF : Hid (R = false) := Lib.hid (by rw [HR.out]; rfl)
    clear HR
    go_wp2_with fail
    go_ret
    exact ⟨by rw [HF.out]; rfl, bb⟩
  | true =>
  go_wp2_with fail
  refine (E3.out _ hS0.out).mono ?_
  rintro e w3 ⟨rfl, q1⟩
  replace r1 := (q1.block _ lt1).trans r1
  replace lt1 := Nat.lt_of_lt_of_le lt1 q1.size
  replace hS0 := Lib.hid (hS0.out.on q1)
  obtain ⟨bb, s1⟩ := Below.next bb s1 q1
  clear q1 E3 L1
  have L1 := loadSt_row r1 I.out
  cases k3 with
  | false =>
    have HF : Hid (R = false) := Lib.hid (by rw [HR.out]; rfl)
    clear HR
    go_wp2_with fail
    go_ret
    exact ⟨by rw [HF.out]; rfl, bb⟩
  | true =>
  obtain ⟨c0, c1, c2, c3, c4, c5, c6, c7⟩ := HC.out _ r1
  have HRR : Hid (R = k4) := Lib.hid (by rw [HR.out]; rfl)
  clear HR c0 c2 c3 c5 c7 HC
  by_cases h0 : kd = 0
  · subst h0
    have HK := Lib.hid (K0.out rfl)
    clear K0 K1 K2 Kn E5
    by_cases ht : t = 0
    · have hb : (t != 0) = false := by simp [ht]
      have HF : Hid (R = false) := Lib.hid (by rw [HRR.out, HK.out, hb]; rfl)
      clear HRR HK ht
      go_wp2_with fail
      go_ret
      exact ⟨by rw [HF.out]; rfl, bb⟩
    have hb : (t != 0) = true := by simp [ht]
    rw [hb, Bool.true_and] at HK
    clear ht
    cases z with
    | cons b z =>
      have HF : Hid (R = false) := Lib.hid (by rw [HRR.out, HK.out]; rfl)
      clear HRR HK
      go_wp2_with fail
      go_ret
      exact ⟨by rw [HF.out]; rfl, bb⟩
    | nil =>
    have HF : Hid (R = k5) := Lib.hid (by rw [HRR.out, HK.out]; rfl)
    clear HRR HK
    go_wp2_with fail
    refine (E4.out _ hS0.out).mono ?_
    rintro e w4 ⟨rfl, q1⟩
    obtain ⟨bb, s1⟩ := Below.next bb s1 q1
    go_wp2_with fail
    go_ret
    exact ⟨by rw [HF.out]; rfl, bb⟩
  by_cases h1 : kd = 1
  · subst h1
    have HK := Lib.hid (K1.out rfl)
    clear K0 K1 K2 Kn E4 h0
    by_cases ht : t = 0
    · have hb : (t != 0) = false := by simp [ht]
      have HF : Hid (R = false) := Lib.hid (by rw [HRR.out, HK.out, hb]; rfl)
      clear HRR HK ht
      go_wp2_with fail
      go_ret
      exact ⟨by rw [HF.out]; rfl, bb⟩
    have hb : (t != 0) = true := by simp [ht]
    have HF : Hid (R = k6) := Lib.hid (by rw [HRR.out, HK.out, hb]; rfl)
    clear HRR HK ht
    go_wp2_with fail
    refine (E5.out _ hS0.out).mono ?_
    rintro e w4 ⟨rfl, q1⟩
    obtain ⟨bb, s1⟩ := Below.next bb s1 q1
    go_wp2_with fail
    go_ret
    exact ⟨by rw [HF.out]; rfl, bb⟩
  by_cases h2 : kd = 2
  · subst h2
    have HK := Lib.hid (K2.out rfl)
    clear K0 K1 K2 Kn E4 h0 h1
    by_cases ht : t = 0
    · have hb : (t == 0) = true := by simp [ht]
      have HF : Hid (R = k6) := Lib.hid (by rw [HRR.out, HK.out, hb]; rfl)
      clear HRR HK ht
      go_wp2_with fail
      refine (E5.out _ hS0.out).mono ?_
      rintro e w4 ⟨rfl, q1⟩
      obtain ⟨bb, s1⟩ := Below.next bb s1 q1
      go_wp2_with fail
      go_ret
      exact ⟨by rw [HF.out]; rfl, bb⟩
    · have hb : (t == 0) = false := by simp [ht]
      have HF : Hid (R = false) := Lib.hid (by rw [HRR.out, HK.out, hb]; rfl)
      clear HRR HK ht
      go_wp2_with fail
      go_ret
      exact ⟨by rw [HF.out]; rfl, bb⟩
  have HK := Lib.hid (Kn.out h0 h1 h2)
  have e0 : (kd == 0) = false := by simp [h0]
  have e1 : (kd == 1) = false := by simp [h1]
  have e2 : (kd == 2) = false := by simp [h2]
  have HF : Hid (R = false) := Lib.hid (by rw [HRR.out, HK.out])
  clear HRR HK K0 K1 K2 Kn E4 E5 h0 h1 h2
  go_wp2_with fail
  go_ret
  exact ⟨by rw [HF.out]; rfl, bb⟩
end Go.Proofs.Ytocbcobaodefgaa
