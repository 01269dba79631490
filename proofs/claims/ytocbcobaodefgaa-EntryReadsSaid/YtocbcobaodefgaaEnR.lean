/-
  The document's CanEntry, Encode.
-/
import Derived.Test.YtocbcobaodefgaaEnQ
namespace Go.Proofs.Ytocbcobaodefgaa
open Go.RowKit
set_option linter.unusedVariables false
set_option maxRecDepth 100000
attribute [local go_sem ↓] exec_loadSt

theorem wr_canS {s : St} (h : canS s = true) : Wr s := by
  obtain ⟨hkey, ⟨rn, kn, en, hr, hk, he, hrl, hkl, hel⟩, hfit, hdl⟩ := can_nat h
  obtain ⟨hnm, tn, cn, ht, hc, htl, hcl⟩ := key_nat hkey
  have hkind : kindS s = true := by simp [canS] at h; exact h.2.2.2
  have hz : s.z.length ≤ 255 := by
    by_cases h0 : s.kd = 0
    · rw [kindS_0 h0] at hkind
      simp at hkind
      simp [hkind.2.1]
    · have : s.kd = 1 ∨ s.kd = 2 := by omega
      rw [kind_12 this] at hkind
      simp [soaS] at hkind
      exact (can_out hkind.2.1).1
  have hd : ∀ x ∈ s.ds, x.length ≤ 65535 := fun x hx => by
    by_cases h0 : s.kd = 0
    · rw [kindS_0 h0] at hkind
      simp [dataS] at hkind
      exact canD_len (hkind.2.2.1 x hx)
    · have : s.kd = 1 ∨ s.kd = 2 := by omega
      rw [kind_12 this] at hkind
      simp [soaS] at hkind
      exact canD_len (hkind.2.2.2 x hx)
  exact ⟨(can_out hnm).1, hz, ⟨tn, ht, htl⟩, ⟨cn, hc, hcl⟩, ⟨rn, hr, hrl⟩, ⟨kn, hk, hkl⟩, ⟨en, he, hel⟩, hdl, hd⟩
theorem wr_canE {d : Bool} {s : St} (h : canE d s = true) : Wr s := by
  cases d with
  | false => exact wr_canS h
  | true =>
    simp only [canE, if_true, Bool.and_eq_true] at h
    obtain ⟨h1, h2⟩ := h
    have h3 := sameS_iff.1 h2
    obtain ⟨hnm, tn, cn, ht, hc, htl, hcl⟩ := key_nat h1
    refine ⟨(can_out hnm).1, ?_, ⟨tn, ht, htl⟩, ⟨cn, hc, hcl⟩, ⟨0, ?_, by omega⟩, ⟨0, ?_, by omega⟩, ⟨0, ?_, by omega⟩, ?_, ?_⟩ <;> (rw [h3]; simp [keyS])
theorem canE_key (s : St) : canE true s = (can s.n && (shortN s.t && (shortN s.c && sameS s (keyS s)))) := by
  simp [canE, canKeyS, Bool.and_assoc]

set_option maxHeartbeats 4000000 in
set_option maxRecDepth 100000 in
theorem dCanE_any (d : Bool) (s : St) (A : Option Addr) (c : Nat) (w : World) (hS : Byss w A s.ds) (hm : s.ds.length ≤ 9223372036854775806) : Calls Try.prog 42 #[.agg (enC d s A c)] w fun e w' => e = .returned (.bool (canE d s)) ∧ Below w.heap.size w w' := by
  have r1 := row_new (w := w) (k := w.heap.size) (.cells (enC d s A c) 28 (0, 0)) rfl
  have b0 : Below w.heap.size w (w.alloc (.cells (enC d s A c) 28 (0, 0))) := Below.alloc (Below.refl _ _) (Nat.le_refl _) _
  have hS0 := Lib.hid (hS.on b0)
  have d0 := (en_cell r1).1
  have L1 := loadSt_mid (en_mid r1)
  have lt1 : w.heap.size < (w.alloc (.cells (enC d s A c) 28)).heap.size := by simp
  cases d with
  | false =>
    have E1 := Lib.hid (fun W hW => dCan8_any s A c W hW hm)
    have HR : Hid (canE false s = canS s) := Lib.hid rfl
    generalize canE false s = R at *
    generalize canS s = k at *
    generalize enC false s A c = D at *
    generalize stC s A c = C at *
    clear hS r1
    go_enter Try.func42, Try.ntmps42
    go_wp2_with fail
    refine (E1.out _ hS0.out).mono ?_
    rintro e w1 ⟨rfl, q1⟩
    obtain ⟨bb, s1⟩ := Below.next b0 b0.size q1
    go_wp2_with fail
    go_ret
    exact ⟨by rw [HR.out]; rfl, bb⟩
  | true =>
    have E1 := Lib.hid (fun W => rCan_any s.n W)
    have E2 := Lib.hid (fun W => dShort_any s.t W)
    have E3 := Lib.hid (fun W => dShort_any s.c W)
    have E4 : Hid (∀ W, Byss W A s.ds → Calls Try.prog 13 #[.agg (stC s A c), .agg #[.string (bs s.n), .int .i64 s.t, .int .i64 s.c, .int .i64 0, .int .i64 0, .int .i64 0, .string ⟨#[]⟩, .slice none 0 0]] W fun e w' => e = .returned (.bool (sameS s (keyS s))) ∧ Below W.heap.size W w') := Lib.hid (fun W hW => dSame_any s (keyS s) A none c 0 W hW (byss_nil W) (by omega))
    have HR := Lib.hid (canE_key s)
    have CE := Lib.hid (fun (W : World) (h : W.heap[w.heap.size + 1]? = some (.cells (stC s A c) 26 (0, 0))) => st_cell h)
    have IK : Hid ((Try.prog.info? 26).map (·.size) = some (stC s A c).size) := Lib.hid info_st
    have OK := Lib.hid (st_one s A c)
    have ZK : Hid ((#[.string ⟨#[]⟩, .int .i64 0, .int .i64 0, .int .i64 0, .int .i64 0, .int .i64 0, .string ⟨#[]⟩, .slice none 0 0] : Array Value).size = (stC s A c).size) := Lib.hid rfl
    generalize canE true s = R at *
    generalize can s.n = k1 at *
    generalize shortN s.t = k2 at *
    generalize shortN s.c = k3 at *
    generalize sameS s (keyS s) = k4 at *
    generalize s.n = sn at *
    generalize s.t = st at *
    generalize s.c = sc at *
    generalize hD : enC true s A c = D at *
    generalize stC s A c = C at *
    have rZ := row_new (w := w.alloc (.cells D 28)) (k := w.heap.size + 1) (.cells #[.string ⟨#[]⟩, .int .i64 0, .int .i64 0, .int .i64 0, .int .i64 0, .int .i64 0, .string ⟨#[]⟩, .slice none 0 0] 26 (0, 0)) (by simp)
    have r2 := setRow_heap _ _ _ C _ _ rZ
    have bb : Below w.heap.size w (((w.alloc (.cells D 28)).alloc (.cells #[.string ⟨#[]⟩, .int .i64 0, .int .i64 0, .int .i64 0, .int .i64 0, .int .i64 0, .string ⟨#[]⟩, .slice none 0 0] 26)).setRow (w.heap.size + 1) C) := Below.setRow (Below.alloc b0 (by simp) _) (by omega) _
    have q1 : Below (w.heap.size + 1) (w.alloc (.cells D 28)) (((w.alloc (.cells D 28)).alloc (.cells #[.string ⟨#[]⟩, .int .i64 0, .int .i64 0, .int .i64 0, .int .i64 0, .int .i64 0, .string ⟨#[]⟩, .slice none 0 0] 26)).setRow (w.heap.size + 1) C) := Below.setRow (Below.alloc (Below.refl _ _) (by simp) _) (Nat.le_refl _) _
    have sz0 : (w.alloc (.cells D 28)).heap.size = w.heap.size + 1 := by simp
    have q2 : Below (w.alloc (.cells D 28)).heap.size (w.alloc (.cells D 28)) (((w.alloc (.cells D 28)).alloc (.cells #[.string ⟨#[]⟩, .int .i64 0, .int .i64 0, .int .i64 0, .int .i64 0, .int .i64 0, .string ⟨#[]⟩, .slice none 0 0] 26)).setRow (w.heap.size + 1) C) := by rw [sz0]; exact q1
    replace hS0 := Lib.hid (hS0.out.on q2)
    obtain ⟨W1, hW1⟩ : ∃ W1, W1 = ((w.alloc (.cells D 28)).alloc (.cells #[.string ⟨#[]⟩, .int .i64 0, .int .i64 0, .int .i64 0, .int .i64 0, .int .i64 0, .string ⟨#[]⟩, .slice none 0 0] 26)).setRow (w.heap.size + 1) C := ⟨_, rfl⟩
    rw [← hW1] at r2 bb hS0
    have HW1 := Lib.hid hW1
    clear q1 q2 b0 hW1 sz0 r1 hD hS lt1
    obtain ⟨c0, c1, c2, c3, c4, c5, c6, c7⟩ := CE.out _ r2
    have L2 := loadSt_row r2 IK.out
    go_enter Try.func42, Try.ntmps42
    go_wp2_with (first
      | (refine wpList_store_row rfl 26 (.tmp 3) (.tmp 11) rfl (w.heap.size + 1) C rfl rfl 26 _ rZ IK.out (by first | exact ZK.out | exact ZK.out.symm) OK.out ?_; rw [← HW1.out])
      | fail)
    refine (E1.out _).mono ?_
    rintro e w2 ⟨rfl, rfl⟩
    clear rZ HW1 L1 d0
    cases k1 with
    | false =>
      have HF : Hid (R = false) := Lib.hid (by rw [HR.out]; rfl)
      clear HR
      go_wp2_with fail
      go_ret
      exact ⟨by rw [HF.out]; rfl, bb⟩
    | true =>
    go_wp2_with fail
    refine (E2.out _).mono ?_
    rintro e w2 ⟨rfl, rfl⟩
    cases k2 with
    | false =>
      have HF : Hid (R = false) := Lib.hid (by rw [HR.out]; rfl)
      clear HR
      go_wp2_with fail
      go_ret
      exact ⟨by rw [HF.out]; rfl, bb⟩
    | true =>
    go_wp2_with fail
    refine (E3.out _).mono ?_
    rintro e w2 ⟨rfl, rfl⟩
    cases k3 with
    | false =>
      have HF : Hid (R = false) := Lib.hid (by rw [HR.out]; rfl)
      clear HR
      go_wp2_with fail
      go_ret
      exact ⟨by rw [HF.out]; rfl, bb⟩
    | true =>
    have HF : Hid (R = k4) := Lib.hid (by rw [HR.out]; rfl)
    clear HR
    go_wp2_with fail
    refine (E4.out _ hS0.out).mono ?_
    rintro e w4 ⟨rfl, q1⟩
    have b4 := Below.trans bb (q1.mono bb.size)
    go_wp2_with fail
    go_ret
    exact ⟨by rw [HF.out]; rfl, b4⟩

end Go.Proofs.Ytocbcobaodefgaa
