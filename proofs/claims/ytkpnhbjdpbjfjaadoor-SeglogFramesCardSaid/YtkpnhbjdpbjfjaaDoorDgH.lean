/-
  The landed Crc.
-/
import Derived.Test.YtkpnhbjdpbjfjaaDoorDgB
namespace Go.Proofs.YtkpnhbjdpbjfjaaDoor
open Go.RowKit
set_option linter.unusedVariables false
set_option maxRecDepth 100000

theorem Z_odd {x : Nat} (h : x % 2 = 1) : Z x = x / 2 ^^^ 2197175160 := by unfold Z; rw [if_pos h]; rfl
set_option maxHeartbeats 2000000 in
set_option maxRecDepth 100000 in
theorem dCrc_any (A : Option Addr) (l : Bs) (n c : Nat) (w : World) (hS : Bys w A l) (hn : n = l.length) (hl : n ≤ 9223372036854775807) : Calls Tryd.prog 10 #[.slice A n c] w fun e w' => e = .returned (.int .u32 (crc l)) ∧ w = w' := by
  have HN := Lib.hid hn
  clear hn
  go_enter Tryd.func10, Tryd.ntmps10
  go_wp2_with fail
  go_loop [3, 9] (fun v u => ∃ a r : Nat, v = .int .u32 r ∧ u = .int .i64 a ∧ a ≤ n ∧ r < 4294967296 ∧ Hid (r = crcReg 4294967295 (l.take a))) (fun _ u => n - (intOf u).toNat)
  case atStart => exact ⟨0, 4294967295, rfl, rfl, by omega, by omega, Lib.hid (by rfl)⟩
  case round =>
    obtain ⟨a, r, rfl, rfl, ha, hr, hT⟩ := hrel
    by_cases hlt : a < n
    · have hlt' : a < l.length := by rw [← HN.out]; exact hlt
      obtain ⟨g, off, rfl, hcs⟩ := hS (by omega)
      have y := hcs a hlt'
      have hx := (l[a]).toNat_lt
      have HT : Hid (crcByte r l[a] = crcReg 4294967295 (l.take (a + 1))) := Lib.hid (by rw [List.take_succ_eq_append_getElem hlt', crcReg_append, ← hT.out]; rfl)
      rw [crcByte_eq] at HT
      clear hT hcs hS
      generalize (l[a]).toNat = m at *
      clear hlt'
      have hxr := xor_u32 r m hr (by omega)
      have hlx : r ^^^ m < 4294967296 := Nat.xor_lt_two_pow (n := 32) (by omega) (by omega)
      generalize r ^^^ m = s at *
      go_wp2_with fail
      go_loop [3, 17] (fun v u => ∃ i r' : Nat, v = .int .u32 r' ∧ u = .int .i64 i ∧ i ≤ 8 ∧ r' < 4294967296 ∧ Hid (r' = Zs i s)) (fun _ u => 8 - (intOf u).toNat)
      case atStart => exact ⟨0, s, rfl, rfl, by omega, hlx, Lib.hid rfl⟩
      case round =>
        obtain ⟨i, r', rfl, rfl, hi, hr', hR⟩ := hrel
        clear hxr
        by_cases hlt8 : i < 8
        · have hi8 : (i : Int) < 8 := by omega
          have e1 := and_u32 r' 1 hr' (by omega)
          rw [cand_one] at e1
          have HZ : Hid (Zs (i + 1) s = Z r') := Lib.hid (by rw [hR.out]; rfl)
          by_cases hp : r' % 2 = 1
          · have e2 : bits .and .u32 (r' : Int) 1 = 1 := by rw [hp] at e1; exact e1
            have e4 := Lib.hid (xor_u32 (r' / 2) 2197175160 (by omega) (by omega))
            have HP := Lib.hid hp
            clear e1 hp hR
            go_wp2_with fail
            go_round
            case rel =>
              refine ⟨i + 1, r' / 2 ^^^ 2197175160, congrArg _ e4.out, by go_num, by omega, Nat.xor_lt_two_pow (n := 32) (by omega) (by omega), Lib.hid ?_⟩
              rw [HZ.out, Z_odd HP.out]
            case measure => simp [intOf]; omega
          · have hp' : r' % 2 = 0 := by omega
            have e2 : bits .and .u32 (r' : Int) 1 = 0 := by rw [hp'] at e1; exact e1
            have e4 := Lib.hid (xor_u32 (r' / 2) 0 (by omega) (by omega))
            have HP := Lib.hid hp'
            clear e1 hp hp' hR
            go_wp2_with fail
            go_round
            case rel =>
              refine ⟨i + 1, r' / 2 ^^^ 0, congrArg _ e4.out, by go_num, by omega, Nat.xor_lt_two_pow (n := 32) (by omega) (by omega), Lib.hid ?_⟩
              rw [HZ.out, Z_even HP.out, Nat.xor_zero]
            case measure => simp [intOf]; omega
        · have : i = 8 := by omega
          subst this
          go_wp2_with fail
          go_round
          case rel => exact ⟨a + 1, r', rfl, by go_num, by omega, hr', Lib.hid (hR.out.trans HT.out)⟩
          case measure => simp [intOf]; omega
    · have : a = n := by omega
      subst this
      rw [HN.out, List.take_length] at hT
      have hx : bits .xor .u32 IntKind.u32.max (r : Int) = ((r ^^^ 4294967295 : Nat) : Int) := by rw [Nat.xor_comm]; exact xor_u32 4294967295 r (by omega) hr
      have hc : crc l = r ^^^ 4294967295 := by rw [hT.out]; rfl
      have HC := Lib.hid hc
      have HX := Lib.hid hx
      clear hT hc hx
      go_wp2_with fail
      go_ret
      rw [HC.out]
      exact ⟨congrArg (fun t => Ending.returned (.int .u32 t)) HX.out, rfl⟩
end Go.Proofs.YtkpnhbjdpbjfjaaDoor
