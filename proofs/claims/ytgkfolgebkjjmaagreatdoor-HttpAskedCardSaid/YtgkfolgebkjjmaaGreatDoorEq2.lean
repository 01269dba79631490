/-
  Lists of texts the same: slices.EqualFunc with bytes.Equal.
-/
import Derived.Test.YtgkfolgebkjjmaaGreatDoorEc
namespace Go.Proofs.YtgkfolgebkjjmaaGreatDoor
open Go.RowKit
set_option linter.unusedVariables false
set_option maxRecDepth 100000

set_option maxHeartbeats 400000 in
set_option maxRecDepth 100000 in
theorem EqualFB_any (A1 A2 : Option Addr) (L1 L2 : List Bs) (c1 c2 : Nat) (w : World) (h1 : Byss w A1 L1) (h2 : Byss w A2 L2) (hm : L1.length ≤ 9223372036854775807) :
    Calls Tryz.prog 14 #[.slice A1 L1.length c1, .slice A2 L2.length c2, .func (.func 9) #[] #[]] w fun e w' => e = .returned (.bool (L1 == L2)) ∧ Below w.heap.size w w' := by
  have hE := fun (args : Array Value) (w : World) => run_enter Tryz.func9 (by kernel_rfl) (by kernel_rfl) args w
  by_cases hne : L1.length = L2.length
  · have HT : Hid ((L1 == L2) = (L1.drop 0 == L2.drop 0)) := Lib.hid rfl
    obtain ⟨n, hn⟩ : ∃ n, n = L1.length := ⟨_, rfl⟩
    rw [← hne, ← hn]
    rw [← hn] at hm
    have E1 := Lib.hid hn
    have E2 := Lib.hid (hn.trans hne)
    clear hn hne
    go_enter Tryz.func14, Tryz.ntmps14
    go_wp2_with fail
    go_loopw [17] (fun v wr => ∃ k : Nat, v = .int .i64 k ∧ k ≤ n ∧ Below w.heap.size w wr ∧ Hid ((L1 == L2) = (L1.drop k == L2.drop k))) (fun v _ => n - (intOf v).toNat)
    case atStart => exact ⟨0, rfl, by omega, Below.refl _ _, HT⟩
    case round =>
      clear HT
      obtain ⟨k, rfl, hk, hB, hT⟩ := hrel
      by_cases hlt : k < n
      · have e1 := E1.out
        have e2 := E2.out
        obtain ⟨g1, o1, rfl, hc1⟩ := id h1 (by omega)
        obtain ⟨g2, o2, rfl, hc2⟩ := id h2 (by omega)
        have k1 : k < L1.length := by omega
        have k2 : k < L2.length := by omega
        obtain ⟨a1, d1, R1, D1, y1⟩ := hc1 k k1
        obtain ⟨a2, d2, R2, D2, y2⟩ := hc2 k k2
        have hT2 := hT.out
        rw [List.drop_eq_getElem_cons k1, List.drop_eq_getElem_cons k2, List.cons_beq_cons] at hT2
        have hlt' : (k : Int) < (n : Int) := by omega
        obtain ⟨x1, hx1⟩ : ∃ x, x = L1[k] := ⟨_, rfl⟩
        obtain ⟨x2, hx2⟩ : ∃ x, x = L2[k] := ⟨_, rfl⟩
        rw [← hx1] at D1 R1 hT2
        rw [← hx2] at D2 R2 hT2
        have HT := Lib.hid hT2
        have R1' := cell_on R1 hB
        have R2' := cell_on R2 hB
        have HC := Lib.hid (EqualB_any a1 a2 x1 x2 x1.length x2.length d1 d2 wr (D1.on hB) (D2.on hB) rfl rfl)
        clear y1 y2 hx1 hx2 hT hT2 hc1 hc2 k1 k2 e1 e2 R1 R2 D1 D2
        go_wp2_with fail
        refine HC.out.mono ?_
        rintro e w3 ⟨rfl, rfl⟩
        cases hv : (x1 == x2) with
        | true =>
          have HT2 := Lib.hid (show (L1 == L2) = (L1.drop (k + 1) == L2.drop (k + 1)) by rw [HT.out, hv]; rfl)
          clear HT hv HC
          go_wp2_with fail
          go_roundw
          case rel => exact ⟨k + 1, by go_num, by omega, hB, HT2⟩
          case measure => simp [intOf]; omega
        | false =>
          have HT2 := Lib.hid (show (L1 == L2) = false by rw [HT.out, hv]; rfl)
          clear HT hv HC
          go_wp2_with fail
          go_ret
          exact ⟨by rw [HT2.out]; rfl, hB⟩
      · obtain rfl : k = n := by omega
        have HT := Lib.hid (show (L1 == L2) = true by rw [hT.out, List.drop_eq_nil_of_le (by have := E1.out; omega), List.drop_eq_nil_of_le (by have := E2.out; omega)]; rfl)
        clear hT h1 h2
        go_wp2_with fail
        go_ret
        exact ⟨by rw [HT.out]; rfl, hB⟩
  · have HT : Hid ((L1 == L2) = false) := Lib.hid (by rw [beq_eq_false_iff_ne]; intro h; subst h; exact hne rfl)
    have hne' : ((L1.length : Int) != (L2.length : Int)) = true := by rw [bne_iff_ne]; omega
    clear h1 h2 hne
    generalize L1.length = n1 at *
    generalize L2.length = n2 at *
    go_enter Tryz.func14, Tryz.ntmps14
    go_wp2_with fail
    go_ret
    exact ⟨by rw [HT.out]; rfl, Below.refl _ _⟩
end Go.Proofs.YtgkfolgebkjjmaaGreatDoor
