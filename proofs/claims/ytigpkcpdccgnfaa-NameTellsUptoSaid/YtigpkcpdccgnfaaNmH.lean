/-
  name.Compare, where both are names.
-/
import Derived.Test.YtigpkcpdccgnfaaNmG
namespace Go.Proofs.Ytigpkcpdccgnfaa
open Go.RowKit
set_option linter.unusedVariables false
attribute [local go_sem ↓] exec_loadPl

set_option maxHeartbeats 4000000 in
set_option maxRecDepth 100000 in
theorem Compare_yes (a b : Bs) (v : Int) (w : World) (ha : can (lower a) = true) (hb : can (lower b) = true) (hv : Hid (v = cmpL (labels (lower a)).reverse (labels (lower b)).reverse)) :
    Calls Try.prog 21 #[.string (bs a), .string (bs b)] w fun e w' => e = .returned (.int .i64 v) ∧ Below w.heap.size w w' := by
  obtain ⟨ip, hi, hz, hs⟩ := info_pl
  have hna := can_count ha
  have hnb := can_count hb
  have Ha := Lib.hid ha
  have Hb := Lib.hid hb
  clear ha hb
  go_enter Try.func21, Try.ntmps21
  go_wp2_with fail
  refine (Lower_any a w).mono ?_
  rintro e w1 ⟨rfl, hB1⟩
  go_wp2_with fail
  refine (Lower_any b w1).mono ?_
  rintro e w2 ⟨rfl, hB2⟩
  generalize lower a = la at *
  generalize lower b = lb at *
  have hB : Below w.heap.size w w2 := Below.trans hB1 (hB2.mono hB1.size)
  clear hB1 hB2
  go_wp2_with fail
  refine (split_any la w2).mono ?_
  rintro e w3 ⟨Ca, rfl, hCa, h1a, hPa, hB3⟩
  have HPa := Lib.hid (hPa Ha.out)
  have hBa : Below w.heap.size w w3 := Below.trans hB (hB3.mono hB.size)
  clear hB3 hPa hB
  rw [Ha.out]
  go_wp2_with (first
    | (refine wpList_alloc_at rfl 46 rfl ip zeroPl hi hz ?_)
    | (refine wpList_store_row rfl 46 (.tmp 5) (.tmp 18) rfl w3.heap.size Ca rfl rfl 46 zeroPl (new_row _ _) (pl_size hCa) (zero_size.trans hCa.symm) h1a ?_)
    | fail)
  have hrow := kept_row (C' := Ca) (new_row w3 zeroPl)
  have hBb : Below w.heap.size w _ := Below.setRow (Below.alloc hBa hBa.size (Obj.cells zeroPl 46 (0, 0))) hBa.size Ca
  refine (split_any lb _).mono ?_
  rintro e w4 ⟨Cb, rfl, hCb, h1b, hPb, hB4⟩
  have HPb := Lib.hid (hPb Hb.out)
  have hrow := (hB4.block _ (heap_lt hrow)).trans hrow
  have hBc : Below w.heap.size w w4 := Below.trans hBb (hB4.mono hBb.size)
  clear hB4 hPb hBa hBb
  rw [Hb.out]
  generalize w3.heap.size = g5 at *
  go_wp2_with (first
    | (refine wpList_alloc_at rfl 46 rfl ip zeroPl hi hz ?_)
    | (refine wpList_store_row rfl 46 (.tmp 7) (.tmp 23) rfl w4.heap.size Cb rfl rfl 46 zeroPl (new_row _ _) (pl_size hCb) (zero_size.trans hCb.symm) h1b ?_)
    | fail)
  have hrow2 := kept_row (C' := Cb) (new_row w4 zeroPl)
  have hrow1 := (setRow_other (w4.alloc (Obj.cells zeroPl 46 (0, 0))) w4.heap.size g5 Cb (by have := heap_lt hrow; omega)).trans (row_old (Obj.cells zeroPl 46 (0, 0)) hrow)
  have hT : Two w g5 w4.heap.size Ca Cb _ := ⟨hrow1, hrow2, Below.setRow (Below.alloc hBc hBc.size (Obj.cells zeroPl 46 (0, 0))) hBc.size Cb⟩
  clear hrow hrow1 hrow2 hBc
  generalize w4.heap.size = g7 at *
  go_loopw [9] (fun x wr => ∃ k : Nat, x = .int .i64 ((k : Int) + 1) ∧ k ≤ (labels la).length ∧ k ≤ (labels lb).length ∧ Hid (v = cmpL ((labels la).reverse.drop k) ((labels lb).reverse.drop k)) ∧ Two w g5 g7 Ca Cb wr) (fun x _ => (labels la).length + 1 - (intOf x).toNat)
  case atStart => exact ⟨0, rfl, by omega, by omega, hv, hT⟩
  case round =>
    clear hT hv
    obtain ⟨k, rfl, hk1, hk2, hv, hT⟩ := hrel
    have c5 : wr.cell? ⟨g5, 128, none⟩ = some (.int .i64 (labels la).length) := (cell_of_row _ _ _ _ _ _ hT.r5).trans HPa.out.count
    have c7 : wr.cell? ⟨g7, 128, none⟩ = some (.int .i64 (labels lb).length) := (cell_of_row _ _ _ _ _ _ hT.r7).trans HPb.out.count
    by_cases hlt : k < (labels la).length ∧ k < (labels lb).length
    · obtain ⟨hl1, hl2⟩ := hlt
      have hLa := fun W => label_at la Ca ((labels la).length - 1 - k) (((labels la).length : Int) - ((k : Int) + 1)) W Ha.out hCa HPa.out (by omega) (by omega)
      have hLb := fun W => label_at lb Cb ((labels lb).length - 1 - k) (((labels lb).length : Int) - ((k : Int) + 1)) W Hb.out hCb HPb.out (by omega) (by omega)
      have hd := cmpL_drop (A := (labels la).reverse) (B := (labels lb).reverse) (k := k) (by simpa using hl1) (by simpa using hl2)
      rw [List.getElem_reverse, List.getElem_reverse] at hd
      have hLd := fun W => cmp_string ((labels la)[(labels la).length - 1 - k]) ((labels lb)[(labels lb).length - 1 - k]) W
      have hf5 : ∀ w', Two w g5 g7 Ca Cb w' → w'.cell? ⟨g5, 128, none⟩ = some (.int .i64 (labels la).length) := fun w' h => (cell_of_row _ _ _ _ _ _ h.r5).trans HPa.out.count
      have hf7 : ∀ w', Two w g5 g7 Ca Cb w' → w'.cell? ⟨g7, 128, none⟩ = some (.int .i64 (labels lb).length) := fun w' h => (cell_of_row _ _ _ _ _ _ h.r7).trans HPb.out.count
      have hl5 : ∀ w', Two w g5 g7 Ca Cb w' → loadPl (.pointer (some ⟨g5, 0, none⟩)) w' = .ok (.value (.agg Ca)) w' := fun w' h => loadPl_row h.r5 hCa
      have hl7 : ∀ w', Two w g5 g7 Ca Cb w' → loadPl (.pointer (some ⟨g7, 0, none⟩)) w' = .ok (.value (.agg Cb)) w' := fun w' h => loadPl_row h.r7 hCb
      have s1 : IntKind.i64.wrap (((labels la).length : Int) - ((k : Int) + 1)) = ((labels la).length : Int) - ((k : Int) + 1) := IntWalk.i64_in _ (by omega)
      have s2 : IntKind.i64.wrap (((labels lb).length : Int) - ((k : Int) + 1)) = ((labels lb).length : Int) - ((k : Int) + 1) := IntWalk.i64_in _ (by omega)
      generalize (labels la)[(labels la).length - 1 - k] = x at *
      generalize (labels lb)[(labels lb).length - 1 - k] = y at *
      generalize cmpB x y = c at *
      have HLa := Lib.hid hLa
      have HLb := Lib.hid hLb
      have HLd := Lib.hid hLd
      have HD := Lib.hid hd
      have F5 := Lib.hid hf5
      have F7 := Lib.hid hf7
      have L5 := Lib.hid hl5
      have L7 := Lib.hid hl7
      have S1 := Lib.hid s1
      have S2 := Lib.hid s2
      clear hLa hLb hLd hd hf5 hf7 hl5 hl7 s1 s2
      have hm1 : (k : Int) + 1 ≤ min ((labels la).length : Int) ((labels lb).length : Int) := by omega
      generalize (labels la).length = na at *
      generalize (labels lb).length = nb at *
      go_wp2_with fail
      have hf5 := F5.out
      have hf7 := F7.out
      have hl5 := L5.out
      have hl7 := L7.out
      have s1 := S1.out
      have s2 := S2.out
      clear c5 c7 hm1
      go_region_held3 (fun w' => Two w g5 g7 Ca Cb w')
        (first | assumption | exact Two.drew (by assumption) | exact Two.on (by assumption) (by assumption))
        (first
          | (go_at_call 41; (with_reducible refine (HLd.out _).mono ?_); rintro e w' ⟨rfl, rfl⟩)
          | (go_at_call 37; (with_reducible refine (HLa.out _).mono ?_); rintro e w' ⟨rfl, hBx⟩)
          | (go_at_call 37; (with_reducible refine (HLb.out _).mono ?_); rintro e w' ⟨rfl, hBx⟩))
      all_goals
        clear hf5 hf7 hl5 hl7 s1 s2 F5 F7 L5 L7 S1 S2 HLa HLb HLd
        by_cases hc : c = 0
        · have hD := HD.out
          rw [if_pos hc, ← hv.out] at hD
          have HV := Lib.hid hD
          have hc' : (c != 0) = false := by rw [hc]; rfl
          clear hD hc HD hv
          go_wp2_with fail
          go_roundw
          case rel => exact ⟨k + 1, by go_num, by omega, by omega, HV, by assumption⟩
          case measure => simp [intOf]; omega
        · have hD := HD.out
          rw [if_neg hc, ← hv.out] at hD
          have HV := Lib.hid hD
          have hc' : (c != 0) = true := by simpa using hc
          clear hD hc HD hv
          go_wp2_with fail
          go_ret
          exact ⟨by rw [HV.out]; rfl, Two.bel (g5 := g5) (g7 := g7) (Ca := Ca) (Cb := Cb) (by assumption)⟩
    · have he : k = min (labels la).reverse.length (labels lb).reverse.length := by simp; omega
      have hD := cmpL_end he
      rw [← hv.out, List.length_reverse, List.length_reverse] at hD
      have HV := Lib.hid hD
      clear hD he hv
      have hm1 : ¬ ((k : Int) + 1 ≤ min ((labels la).length : Int) ((labels lb).length : Int)) := by omega
      generalize (labels la).length = na at *
      generalize (labels lb).length = nb at *
      go_wp2_with ((with_reducible refine (cmp_int _ _ _).mono ?_); rintro e w' ⟨rfl, rfl⟩)
      go_ret
      exact ⟨by rw [HV.out]; rfl, hT.bel⟩

theorem Compare_any (a b : Bs) (w : World) : Calls Try.prog 21 #[.string (bs a), .string (bs b)] w fun e w' => e = .returned (.int .i64 (comp a b)) ∧ Below w.heap.size w w' := by
  cases h : can a && can b
  · rw [lower_no_any h]; exact Compare_no a b w h
  · simp only [Bool.and_eq_true] at h
    refine Compare_yes a b (comp a b) w (by rw [can_lower]; exact h.1) (by rw [can_lower]; exact h.2) (Lib.hid ?_)
    unfold comp key
    rw [if_pos (by simp [h.1, h.2]), labels_lower, labels_lower]
end Go.Proofs.Ytigpkcpdccgnfaa
