/-
  The document's Names (layer 3): the list is new.
-/
import Derived.Test.YtknpkifhkefikaaDoorWc
namespace Go.Proofs.YtknpkifhkefikaaDoor
open Go.RowKit
set_option linter.unusedVariables false
set_option maxRecDepth 100000

set_option maxHeartbeats 4000000 in
set_option maxRecDepth 100000 in
theorem rNamesN_any (t : Int) (A : Option Addr) (l : Bs) (c : Nat) (w : World) (hS : Bys w A l) (hc : l.length ≤ c) (hcm : c ≤ 9223372036854775807) : Calls Tryd.prog 77 #[.int .i64 t, .slice A l.length c] w fun e w' => ∃ A c, e = .returned (.slice A (namesD t l).length c) ∧ Strs w' A (namesD t l) ∧ (namesD t l).length ≤ c ∧ Below w.heap.size w w' ∧ ∀ p, A = some p → w.heap.size ≤ p.block := by
  have C := rCanD_any t A l c w hS hc hcm
  cases hcan : canD t l with
  | false =>
    rw [hcan] at C
    have C := Lib.hid C
    have HN := Lib.hid (namesD_no hcan)
    clear hcan
    go_enter Tryd.func77, Tryd.ntmps77
    go_wp2_with fail
    refine C.out.mono ?_
    rintro e w1 ⟨rfl, b1⟩
    go_wp2_with fail
    go_ret
    rw [HN.out]
    exact ⟨none, 0, rfl, fun h => absurd h (by simp), by simp, b1, fun p hp => by cases hp⟩
  | true =>
    rw [hcan] at C
    have C := Lib.hid C
    have hin := namesD_in hcan
    by_cases en : t = 2 ∨ t = 5 ∨ t = 12
    · rw [if_pos en] at hin
      have HI := Lib.hid hin
      have hst := Lib.hid (fun W (hW : Bys W A l) => string_bys A l c W hW)
      clear hin hcan
      rcases en with rfl | rfl | rfl
      all_goals
        go_enter Tryd.func77, Tryd.ntmps77
        go_wp2_with fail
        refine C.out.mono ?_
        rintro e w1 ⟨rfl, b1⟩
        have hs := hst.out w1 (hS.on b1)
        go_wp2_with fail
        go_ret
        rw [HI.out]
        exact ⟨_, _, rfl, strs_one, by simp, Below.alloc b1 b1.size _, fun p hp => by injection hp with hp; subst hp; exact b1.size⟩
    rw [if_neg en] at hin
    have T2 : (t == 2) = false := by simp; omega
    have T5 : (t == 5) = false := by simp; omega
    have T12 : (t == 12) = false := by simp; omega
    clear en
    by_cases e15 : t = 15
    · subst e15
      rw [if_pos rfl] at hin
      have h3 := canD_mx hcan
      have HI := Lib.hid hin
      obtain ⟨B, r2, S2, _⟩ := slice_bys A l c 2 2 w hS (by omega) hc rfl
      have hst := Lib.hid (fun W (hW : Bys W B (l.drop 2)) => string_bys B (l.drop 2) (c - 2) W hW)
      obtain ⟨q, hq⟩ : ∃ q, q = l.drop 2 := ⟨_, rfl⟩
      rw [← hq] at r2 hst HI S2
      clear hin hcan T2 T5 T12 hq h3
      go_enter Tryd.func77, Tryd.ntmps77
      go_wp2_with fail
      refine C.out.mono ?_
      rintro e w1 ⟨rfl, b1⟩
      have hs := hst.out w1 (S2.on b1)
      clear S2 hst
      generalize q.length = z at *
      go_wp2_with fail
      go_ret
      rw [HI.out]
      exact ⟨_, _, rfl, strs_one, by simp, Below.alloc b1 b1.size _, fun p hp => by injection hp with hp; subst hp; exact b1.size⟩
    rw [if_neg e15] at hin
    have T15 : (t == 15) = false := by simp [e15]
    clear e15
    by_cases e6 : t = 6
    · subst e6
      rw [if_pos rfl] at hin
      obtain ⟨s, hs⟩ := canD_soa hcan
      have R := Lib.hid (fun W (hW : Bys W A l) => rSOA_any A l c W hW hc hcm)
      unfold SoaPost at R
      rw [hs] at R hin
      simp only at hin
      have HI := Lib.hid hin
      clear hin hcan T2 T5 T12 T15
      go_enter Tryd.func77, Tryd.ntmps77
      go_wp2_with fail
      refine C.out.mono ?_
      rintro e w1 ⟨rfl, b1⟩
      go_wp2_with fail
      refine (R.out _ (hS.on b1)).mono ?_
      rintro e w2 ⟨rfl, b2⟩
      have b3 : Below w.heap.size w w2 := Below.trans b1 (b2.mono b1.size)
      clear b1 b2 R
      have hrow0 := row_new (w := w2) (k := w2.heap.size) (.cells (soaC none) 148 (0, 0)) rfl
      have bw : Below w.heap.size w (w2.alloc (.cells (soaC none) 148)) := Below.alloc b3 b3.size _
      rw [soaC_none] at hrow0 bw
      have hrow2 := setRow_heap _ _ _ (soaC (some s)) _ _ hrow0
      have z0 := (cell_of_row _ w2.heap.size 0 _ _ _ hrow2).trans (show (soaC (some s))[0]? = some (.string (bs s.m)) from rfl)
      have z1 := (cell_of_row _ w2.heap.size 1 _ _ _ hrow2).trans (show (soaC (some s))[1]? = some (.string (bs s.r)) from rfl)
      go_wp2_with (first
        | (refine wpList_store_row rfl 148 (.tmp 5) (.tmp 30) rfl w2.heap.size (soaC (some s)) rfl rfl 148 _ hrow0 (soa_info (soaC_size _)) (by rw [soaC_size]; rfl) (soaC_one _) ?_)
        | fail)
      go_ret
      rw [HI.out]
      exact ⟨_, _, rfl, strs_two (by simp), by simp, Below.alloc (Below.setRow bw b3.size _) (by rw [size_setRow]; exact bw.size) _, fun p hp => by injection hp with hp; subst hp; have := b3.size; first | (show w.heap.size ≤ w2.heap.size + 1; omega) | (simp; omega)⟩
    rw [if_neg e6] at hin
    have T6 : (t == 6) = false := by simp [e6]
    have HI := Lib.hid hin
    clear e6 hin
    go_enter Tryd.func77, Tryd.ntmps77
    go_wp2_with fail
    refine C.out.mono ?_
    rintro e w1 ⟨rfl, b1⟩
    go_wp2_with fail
    go_ret
    rw [HI.out]
    exact ⟨none, 0, rfl, fun h => absurd h (by simp), by simp, b1, fun p hp => by cases hp⟩
end Go.Proofs.YtknpkifhkefikaaDoor
