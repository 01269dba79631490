/-
  Bits of 32-bit numbers; the document's Crc.
-/
import Derived.Test.YtkpnhbjdpbjfjaaDoorDgA
import Derived.Test.YtkpnhbjdpbjfjaaDoorNmC
import Derived.Test.YtkpnhbjdpbjfjaaDoorNmJ
namespace Go.Proofs.YtkpnhbjdpbjfjaaDoor
open Go.RowKit
set_option linter.unusedVariables false
set_option maxRecDepth 100000

theorem wraps_u32 (n : Int) (h₀ : 0 ≤ n) (h₁ : n < 2 ^ 32) : IntKind.u32.wrap n = n := by rw [IntKind.wrap_u32]; omega
theorem and_u32 (a b : Nat) (ha : a < 4294967296) (hb : b < 4294967296) : bits .and .u32 (a : Int) (b : Int) = ((a &&& b : Nat) : Int) := (bits_nat .u32 32 (by decide) wraps_u32 a b (by omega) (by omega)).1
theorem or_u32 (a b : Nat) (ha : a < 4294967296) (hb : b < 4294967296) : bits .or .u32 (a : Int) (b : Int) = ((a ||| b : Nat) : Int) := (bits_nat .u32 32 (by decide) wraps_u32 a b (by omega) (by omega)).2
theorem xor_u32 (a b : Nat) (ha : a < 4294967296) (hb : b < 4294967296) : bits .xor .u32 (a : Int) (b : Int) = ((a ^^^ b : Nat) : Int) := by
  have ha' : a % 2 ^ 32 = a := Nat.mod_eq_of_lt (by omega)
  have hb' : b % 2 ^ 32 = b := Nat.mod_eq_of_lt (by omega)
  have hx : a ^^^ b < 2 ^ 32 := Nat.xor_lt_two_pow (by omega) (by omega)
  show IntKind.u32.wrap ((BitVec.ofInt 32 (a : Int) ^^^ BitVec.ofInt 32 (b : Int)).toNat : Int) = _
  simp only [BitVec.ofInt_natCast, BitVec.toNat_xor, BitVec.toNat_ofNat, ha', hb']
  exact wraps_u32 _ (by omega) (by exact_mod_cast hx)

set_option maxHeartbeats 2000000 in
set_option maxRecDepth 100000 in
theorem docCrc_any (A : Option Addr) (l : Bs) (c : Nat) (w : World) (hS : Bys w A l) (hl : l.length ≤ 9223372036854775807) : Calls Tryd.prog 11 #[.slice A l.length c] w fun e w' => e = .returned (.int .u32 (crc l)) ∧ w = w' := by
  go_enter Tryd.func11, Tryd.ntmps11
  go_wp2_with fail
  go_loop [3, 10] (fun v u => ∃ a r : Nat, v = .int .u32 r ∧ u = .int .i64 a ∧ a ≤ l.length ∧ r < 4294967296 ∧ Hid (r = crcReg 4294967295 (l.take a))) (fun _ u => l.length - (intOf u).toNat)
  case atStart => exact ⟨0, 4294967295, rfl, rfl, by omega, by omega, Lib.hid (by rfl)⟩
  case round =>
    obtain ⟨a, r, rfl, rfl, ha, hr, hT⟩ := hrel
    by_cases hlt : a < l.length
    · obtain ⟨g, off, rfl, hcs⟩ := hS (by omega)
      have y := hcs a hlt
      have hx := (l[a]).toNat_lt
      have HT : Hid (crcByte r l[a] = crcReg 4294967295 (l.take (a + 1))) := Lib.hid (by rw [List.take_succ_eq_append_getElem hlt, crcReg_append, ← hT.out]; rfl)
      unfold crcByte at HT
      clear hT hcs hS
      generalize (l[a]).toNat = m at *
      go_wp2_with fail
      go_loop [3, 14] (fun v u => ∃ i r' : Nat, v = .int .u32 r' ∧ u = .int .i64 i ∧ i ≤ 8 ∧ r' < 4294967296 ∧ Hid (r' = crcBits r m i)) (fun _ u => 8 - (intOf u).toNat)
      case atStart => exact ⟨0, r, rfl, rfl, by omega, hr, Lib.hid rfl⟩
      case round =>
        obtain ⟨i, r', rfl, rfl, hi, hr', hR⟩ := hrel
        by_cases hlt' : i < 8
        · have hi8 : (i : Int) < 8 := by omega
          have hsh : (m : Int) / 2 ^ i % 4294967296 = ((m >>> i : Nat) : Int) := by
            have h1 : m / 2 ^ i ≤ m := Nat.div_le_self _ _
            rw [Nat.shiftRight_eq_div_pow]
            push_cast
            have h2 : ((m / 2 ^ i : Nat) : Int) = (m : Int) / 2 ^ i := by push_cast; rfl
            rw [← h2]
            generalize m / 2 ^ i = q at h1 ⊢
            clear h2
            omega
          have e1 := and_u32 r' 1 hr' (by omega)
          have e2 := and_u32 (m >>> i) 1 (by rw [Nat.shiftRight_eq_div_pow]; have := Nat.div_le_self m (2 ^ i); omega) (by omega)
          have l1 : r' &&& 1 < 4294967296 := Nat.lt_of_le_of_lt Nat.and_le_right (by omega)
          have l2 : m >>> i &&& 1 < 4294967296 := Nat.lt_of_le_of_lt Nat.and_le_right (by omega)
          have e3 := xor_u32 (r' &&& 1) (m >>> i &&& 1) l1 l2
          have hc : (bits .xor .u32 (bits .and .u32 (r' : Int) 1) (bits .and .u32 ((m : Int) / 2 ^ i % 4294967296) 1) == 1) = decide ((r' &&& 1) ^^^ (m >>> i &&& 1) = 1) := by
            rw [hsh]
            have f1 : bits .and .u32 (r' : Int) 1 = ((r' &&& 1 : Nat) : Int) := e1
            have f2 : bits .and .u32 ((m >>> i : Nat) : Int) 1 = ((m >>> i &&& 1 : Nat) : Int) := e2
            rw [f1, f2, e3, Bool.eq_iff_iff]
            simp only [beq_iff_eq, decide_eq_true_eq]
            omega
          have eb : crcBits r m (i + 1) = crcBit r' m i := by rw [hR.out]; rfl
          have e4 := xor_u32 (r' / 2) 2197175160 (by omega) (by omega)
          clear e1 e2 e3 hR
          have HB := Lib.hid hc
          have HE := Lib.hid eb
          have HX := Lib.hid e4
          clear hc eb e4 hsh
          go_wp2_with fail
          · rename_i h
            go_round
            case rel =>
              have h1 := HB.out.symm.trans h
              refine ⟨i + 1, r' / 2 ^^^ 2197175160, congrArg _ HX.out, by go_num, by omega, Nat.xor_lt_two_pow (n := 32) (by omega) (by omega), Lib.hid ?_⟩
              rw [HE.out, crcBit, if_pos (of_decide_eq_true h1), cshr_one]
              rfl
            case measure => simp [intOf]; omega
          · rename_i h
            go_round
            case rel =>
              have h1 := HB.out.symm.trans h
              refine ⟨i + 1, r' / 2, by push_cast; rfl, by go_num, by omega, by omega, Lib.hid ?_⟩
              rw [HE.out, crcBit, if_neg (of_decide_eq_false h1), cshr_one]
            case measure => simp [intOf]; omega
        · have : i = 8 := by omega
          subst this
          go_wp2_with fail
          go_round
          case rel => exact ⟨a + 1, r', rfl, by go_num, by omega, hr', Lib.hid (hR.out.trans HT.out)⟩
          case measure => simp [intOf]; omega
    · have : a = l.length := by omega
      subst this
      rw [List.take_length] at hT
      have hx := xor_u32 r 4294967295 hr (by omega)
      have hc : crc l = r ^^^ 4294967295 := by rw [hT.out]; rfl
      go_wp2_with fail
      go_ret
      exact ⟨congrArg (fun t => Ending.returned (.int .u32 t)) hx, rfl⟩
end Go.Proofs.YtkpnhbjdpbjfjaaDoor
