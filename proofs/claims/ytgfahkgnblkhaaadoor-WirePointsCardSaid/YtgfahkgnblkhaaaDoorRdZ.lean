/-
  The document's Can for data (layer 3).
-/
import Derived.Test.YtgfahkgnblkhaaaDoorRdY
import Derived.Test.YtgfahkgnblkhaaaDoorNmRa
namespace Go.Proofs.YtgfahkgnblkhaaaDoor
open Go.RowKit
set_option linter.unusedVariables false
set_option maxRecDepth 100000

theorem soaC_none : soaC none = #[.string ⟨#[]⟩, .string ⟨#[]⟩, .int .i64 0, .int .i64 0, .int .i64 0, .int .i64 0, .int .i64 0] := rfl
theorem canD_far {t : Int} {l : Bs} (h : t < 0 ∨ 65535 < t ∨ 65535 < l.length) : canD t l = false := by unfold canD; rw [if_pos h]
theorem canD_in {t : Int} {l : Bs} (h : ¬ (t < 0 ∨ 65535 < t ∨ 65535 < l.length)) : canD t l = if t = 1 then l.length == 4
  else if t = 28 then l.length == 16
  else if t = 2 ∨ t = 5 ∨ t = 12 then can l
  else if t = 15 then decide (2 < l.length) && can (l.drop 2)
  else if t = 6 then (soa l).isSome
  else if t = 16 then texts l
  else if t = 41 then opts l
  else true := by unfold canD; rw [if_neg h]

set_option maxHeartbeats 4000000 in
set_option maxRecDepth 100000 in
theorem rCanD_any (t : Int) (A : Option Addr) (l : Bs) (c : Nat) (w : World) (hS : Bys w A l) (hc : l.length ≤ c) (hcm : c ≤ 9223372036854775807) : Calls Tryd.prog 40 #[.int .i64 t, .slice A l.length c] w fun e w' => e = .returned (.bool (canD t l)) ∧ Below w.heap.size w w' := by
  by_cases hfar : t < 0 ∨ 65535 < t ∨ 65535 < l.length
  · have HF := Lib.hid (canD_far hfar)
    by_cases h0 : t < 0
    · clear hfar
      go_enter Tryd.func40, Tryd.ntmps40
      go_wp2_with fail
      go_ret
      exact ⟨by rw [HF.out]; rfl, Below.refl _ _⟩
    · by_cases h1 : 65535 < t
      · clear hfar
        go_enter Tryd.func40, Tryd.ntmps40
        go_wp2_with fail
        go_ret
        exact ⟨by rw [HF.out]; rfl, Below.refl _ _⟩
      · have h2 : (65535 : Int) < (l.length : Int) := by omega
        clear hfar
        go_enter Tryd.func40, Tryd.ntmps40
        go_wp2_with fail
        go_ret
        exact ⟨by rw [HF.out]; rfl, Below.refl _ _⟩
  · have hin := canD_in hfar
    have h0 : ¬ t < 0 := fun h => hfar (Or.inl h)
    have h1 : ¬ 65535 < t := fun h => hfar (Or.inr (Or.inl h))
    have hl : l.length ≤ 65535 := by omega
    have h2 : ¬ (65535 : Int) < (l.length : Int) := by omega
    clear hfar
    by_cases e1 : t = 1
    · subst e1
      rw [if_pos rfl] at hin
      have HI := Lib.hid (hin.trans (show (l.length == 4) = ((l.length : Int) == 4) by rw [Bool.eq_iff_iff]; simp; omega))
      clear hin h0 h1
      go_enter Tryd.func40, Tryd.ntmps40
      go_wp2_with fail
      go_ret
      exact ⟨by rw [HI.out]; rfl, Below.refl _ _⟩
    rw [if_neg e1] at hin
    by_cases e28 : t = 28
    · subst e28
      rw [if_pos rfl] at hin
      have HI := Lib.hid (hin.trans (show (l.length == 16) = ((l.length : Int) == 16) by rw [Bool.eq_iff_iff]; simp; omega))
      clear hin h0 h1 e1
      go_enter Tryd.func40, Tryd.ntmps40
      go_wp2_with fail
      go_ret
      exact ⟨by rw [HI.out]; rfl, Below.refl _ _⟩
    rw [if_neg e28] at hin
    have T1 : (t == 1) = false := by simp [e1]
    have T28 : (t == 28) = false := by simp [e28]
    clear e1 e28
    by_cases en : t = 2 ∨ t = 5 ∨ t = 12
    · rw [if_pos en] at hin
      have HI := Lib.hid hin
      have hst := Lib.hid (fun W (hW : Bys W A l) => string_bys A l c W hW)
      clear hin
      rcases en with rfl | rfl | rfl
      all_goals
        clear h0 h1 T1 T28
        go_enter Tryd.func40, Tryd.ntmps40
        have hs := hst.out w hS
        go_wp2_with fail
        refine (rCan_any l _).mono ?_
        rintro e w1 ⟨rfl, rfl⟩
        go_wp2_with fail
        go_ret
        exact ⟨by rw [HI.out]; rfl, Below.refl _ _⟩
    rw [if_neg en] at hin
    have T2 : (t == 2) = false := by simp; omega
    have T5 : (t == 5) = false := by simp; omega
    have T12 : (t == 12) = false := by simp; omega
    clear en
    by_cases e15 : t = 15
    · subst e15
      rw [if_pos rfl] at hin
      by_cases h3 : 2 < l.length
      · have hi2 : canD 15 l = can (l.drop 2) := by rw [hin]; simp [h3]
        have HI := Lib.hid hi2
        obtain ⟨B, r2, S2, _⟩ := slice_bys A l c 2 2 w hS (by omega) hc rfl
        have hs := string_bys B (l.drop 2) (c - 2) w S2
        obtain ⟨q, hq⟩ : ∃ q, q = l.drop 2 := ⟨_, rfl⟩
        rw [← hq] at r2 hs HI
        have h4 : (2 : Int) < (l.length : Int) := by omega
        clear hin hi2 h0 h1 T1 T28 T2 T5 T12 S2 hq h3
        generalize q.length = z at *
        go_enter Tryd.func40, Tryd.ntmps40
        go_wp2_with fail
        refine (rCan_any q _).mono ?_
        rintro e w1 ⟨rfl, rfl⟩
        go_wp2_with fail
        go_ret
        exact ⟨by rw [HI.out]; rfl, Below.refl _ _⟩
      · have hi2 : canD 15 l = false := by rw [hin]; simp [h3]
        have HI := Lib.hid hi2
        have h4 : ¬ (2 : Int) < (l.length : Int) := by omega
        clear hin hi2 h0 h1 T1 T28 T2 T5 T12 h3
        go_enter Tryd.func40, Tryd.ntmps40
        go_wp2_with fail
        go_ret
        exact ⟨by rw [HI.out]; rfl, Below.refl _ _⟩
    rw [if_neg e15] at hin
    have T15 : (t == 15) = false := by simp [e15]
    clear e15
    by_cases e6 : t = 6
    · subst e6
      rw [if_pos rfl] at hin
      have HI := Lib.hid hin
      clear hin h0 h1 T1 T28 T2 T5 T12 T15
      go_enter Tryd.func40, Tryd.ntmps40
      go_wp2_with fail
      refine (rSOA_any A l c _ hS hc hcm).mono ?_
      rintro e w1 ⟨rfl, b1⟩
      obtain ⟨o, ho⟩ : ∃ o, o = soa l := ⟨_, rfl⟩
      rw [← ho] at HI
      rw [← ho]
      clear ho
      have hrow0 := row_new (w := w1) (k := w1.heap.size) (.cells (soaC none) 135 (0, 0)) rfl
      have bw : Below w.heap.size w (w1.alloc (.cells (soaC none) 135)) := Below.alloc b1 b1.size _
      rw [soaC_none] at hrow0 bw
      go_wp2_with (first
        | (refine wpList_store_row rfl 135 (.tmp 5) (.tmp 52) rfl w1.heap.size (soaC o) rfl rfl 135 _ hrow0 (soa_info (soaC_size _)) (by rw [soaC_size]; rfl) (soaC_one _) ?_)
        | fail)
      go_ret
      exact ⟨by rw [HI.out]; rfl, Below.setRow bw b1.size _⟩
    rw [if_neg e6] at hin
    have T6 : (t == 6) = false := by simp [e6]
    clear e6
    by_cases e16 : t = 16
    · subst e16
      rw [if_pos rfl] at hin
      have HI := Lib.hid hin
      clear hin h0 h1 T1 T28 T2 T5 T12 T15 T6
      go_enter Tryd.func40, Tryd.ntmps40
      go_wp2_with fail
      refine (rtexts_any A l c _ hS hc hcm hl).mono ?_
      rintro e w1 ⟨rfl, rfl⟩
      go_wp2_with fail
      go_ret
      exact ⟨by rw [HI.out]; rfl, Below.refl _ _⟩
    rw [if_neg e16] at hin
    have T16 : (t == 16) = false := by simp [e16]
    clear e16
    by_cases e41 : t = 41
    · subst e41
      rw [if_pos rfl] at hin
      have HI := Lib.hid hin
      clear hin h0 h1 T1 T28 T2 T5 T12 T15 T6 T16
      go_enter Tryd.func40, Tryd.ntmps40
      go_wp2_with fail
      refine (roptions_any A l c _ hS hc hcm hl).mono ?_
      rintro e w1 ⟨rfl, b1⟩
      go_wp2_with fail
      go_ret
      exact ⟨by rw [HI.out]; rfl, b1⟩
    rw [if_neg e41] at hin
    have T41 : (t == 41) = false := by simp [e41]
    have HI := Lib.hid hin
    clear e41 hin
    go_enter Tryd.func40, Tryd.ntmps40
    go_wp2_with fail
    go_ret
    exact ⟨by rw [HI.out]; rfl, Below.refl _ _⟩
end Go.Proofs.YtgfahkgnblkhaaaDoor
