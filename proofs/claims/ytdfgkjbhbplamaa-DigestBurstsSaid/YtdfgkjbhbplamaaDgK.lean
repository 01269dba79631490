/-
  The walk of DigestBursts.
-/
import Derived.Test.YtdfgkjbhbplamaaDgH
import Derived.Test.YtdfgkjbhbplamaaQw
import Derived.Test.YtdfgkjbhbplamaaRdE
import Derived.StillTailTactics
namespace Go.Proofs.Ytdfgkjbhbplamaa
open Go.RowKit
set_option linter.unusedVariables false

/-- The first n of the bytes from a place on are turned by those of a number. -/
def turned (L : Bs) (at' by' : Nat) : Nat → Bs
  | 0 => L
  | n + 1 => (turned L at' by' n).set (at' + n) ((turned L at' by' n).getD (at' + n) 0 ^^^ UInt8.ofNat (by' >>> (8 * n)))
theorem turned_len (L : Bs) (a b n : Nat) : (turned L a b n).length = L.length := by
  induction n with
  | zero => rfl
  | succ n ih => rw [turned, List.length_set, ih]
theorem turned_four (p q : Bs) (x y z u : UInt8) (b : Nat) : turned (p ++ [x, y, z, u] ++ q) p.length b 4 = p ++ [x ^^^ UInt8.ofNat b, y ^^^ UInt8.ofNat (b >>> 8), z ^^^ UInt8.ofNat (b >>> 16), u ^^^ UInt8.ofNat (b >>> 24)] ++ q := by
  simp [turned, List.getD_eq_getElem?_getD]
theorem split_four (L : Bs) (a : Nat) (h : a + 4 ≤ L.length) : ∃ p q x y z u, L = p ++ [x, y, z, u] ++ q ∧ a = p.length := by
  have e : L = L.take a ++ L.drop a := (List.take_append_drop _ _).symm
  have hl : 4 ≤ (L.drop a).length := by rw [List.length_drop]; omega
  match hd : L.drop a, hl with
  | x :: y :: z :: u :: q, _ =>
    rw [hd] at e
    exact ⟨L.take a, q, x, y, z, u, by simpa using e, by rw [List.length_take]; omega⟩
theorem bytes_nought {b : Nat} (h : b < 4294967296) : (UInt8.ofNat b = 0 ∧ UInt8.ofNat (b >>> 8) = 0 ∧ UInt8.ofNat (b >>> 16) = 0 ∧ UInt8.ofNat (b >>> 24) = 0) ↔ b = 0 := by
  have e : ∀ n : Nat, UInt8.ofNat n = 0 ↔ n % 256 = 0 := fun n => by
    rw [← UInt8.toNat_inj]
    simp
  rw [e, e, e, e]
  simp only [Nat.shiftRight_eq_div_pow]
  omega
theorem crc_turned (L : Bs) (a b : Nat) (h : a + 4 ≤ L.length) (hb : b < 4294967296) : crc (turned L a b 4) = crc L ↔ b = 0 := by
  obtain ⟨p, q, x, y, z, u, rfl, rfl⟩ := split_four L a h
  rw [turned_four, crc_bursts, bytes_nought hb]

theorem xor_u8 (a b : Nat) (ha : a < 256) (hb : b < 256) : bits .xor .u8 (a : Int) (b : Int) = ((a ^^^ b : Nat) : Int) := by
  have ha' : a % 2 ^ 8 = a := Nat.mod_eq_of_lt (by omega)
  have hb' : b % 2 ^ 8 = b := Nat.mod_eq_of_lt (by omega)
  have hx : a ^^^ b < 2 ^ 8 := Nat.xor_lt_two_pow (by omega) (by omega)
  show IntKind.u8.wrap ((BitVec.ofInt 8 (a : Int) ^^^ BitVec.ofInt 8 (b : Int)).toNat : Int) = _
  simp only [BitVec.ofInt_natCast, BitVec.toNat_xor, BitVec.toNat_ofNat, ha', hb']
  rw [IntKind.wrap_u8]
  omega
theorem turn_byte (x : UInt8) (b k : Nat) : bits .xor .u8 (x.toNat : Int) ((b : Int) / 2 ^ k % 256) = ((x ^^^ UInt8.ofNat (b >>> k)).toNat : Int) := by
  have e : (b : Int) / 2 ^ k % 256 = ((b >>> k % 256 : Nat) : Int) := by rw [Nat.shiftRight_eq_div_pow, Int.natCast_emod, Int.natCast_ediv, Int.natCast_pow]; rfl
  rw [e, xor_u8 _ _ x.toNat_lt (Nat.mod_lt _ (by decide)), UInt8.toNat_xor]
  simp
theorem place_in (t : Int) (m : Nat) (h4 : 4 ≤ m) (h : m ≤ 2004) : ∃ a : Nat, wrap64 ((IntKind.u64.wrap t).tmod (↑m - 3)) = a ∧ a + 4 ≤ m := by
  have h0 : 0 ≤ IntKind.u64.wrap t := by rw [IntKind.wrap_u64]; omega
  rw [Int.tmod_eq_emod_of_nonneg h0]
  generalize IntKind.u64.wrap t = u at *
  have h1 := Int.emod_nonneg u (b := (m : Int) - 3) (by omega)
  have h2 := Int.emod_lt_of_pos u (b := (m : Int) - 3) (by omega)
  generalize u % ((m : Int) - 3) = r at *
  refine ⟨r.toNat, ?_, by omega⟩
  unfold wrap64
  omega
set_option maxHeartbeats 1000000 in
set_option maxRecDepth 100000 in
theorem Bursts_any (A : Option Addr) (l : Bs) (c : Nat) (t : Int) (b : Nat) (w : World) (hS : Bys w A l) (hc : l.length ≤ c) (hcm : c ≤ 9223372036854775807) (hb : b < 4294967296) :
    Calls Try.prog 3 #[.slice A l.length c, .int .i64 t, .int .u32 b] w fun e w' => e = .returned (.bool true) ∧ Below w.heap.size w w' := by
  obtain ⟨i0, hi, hz0, hz1, hz2⟩ := info_parts info_u8
  obtain ⟨k, hk⟩ : ∃ k, k = min l.length 2000 := ⟨_, rfl⟩
  have hkl : k ≤ l.length := by omega
  have hpre := slice_pre A l c k (min (l.length : Int) 2000) hkl hc (by omega)
  have hB := hS.pre k
  have hin := hS.inside
  have hyl : (l.take k).length ≤ 2000 := by rw [List.length_take]; omega
  have hyn : 0 < (l.take k).length → 0 < l.length := by rw [List.length_take]; omega
  have C := Lib.hid (CloneW_any A (l.take k) (l.take k).length c w hB rfl (by omega) (fun p hp hn => hin p hp (hyn hn)))
  generalize l.take k = y at *
  clear hin hyn hk hkl hB
  go_enter Try.func3, Try.ntmps3
  go_wp2_with fail
  with_reducible refine Calls.mono C.out ?_
  rintro e w1 ⟨v1, rfl, o1, b1, _⟩
  have s1 := b1.size
  go_wp2_with (at_builtin; refine wpList_append_own _ rfl _ _ 22 rfl w.heap.size 5 i0 (.int .u8 0) 1 1 Try.underlying22 hi hz0 hz1 hz2 rfl (by decide) _ _ _ rfl (o1.alloc _) ⟨w1.heap.size, 0, none⟩ 4 4 [.int .u8 1, .int .u8 2, .int .u8 3, .int .u8 4] rfl rfl (World.news_of_block (cs := #[.int .u8 1, .int .u8 2, .int .u8 3, .int .u8 4]) (t := 5) (fr := (0, 0)) (row_new _ rfl)) (by simp [Value.oneCell']) (by unfold maxLen; omega) (by omega) (by simp; omega) ?_)
  intro v2 w2 o2 g2 _
  have b2 : Below w.heap.size w w2 := Below.grown (Below.alloc b1 s1 _) g2 (by simp; omega) (fun k e => (o1.lt k e).1)
  clear o1 b1 s1 g2
  have s2 := b2.size
  obtain ⟨hn, ho⟩ := RowB.of (l := y ++ [1, 2, 3, 4]) o2 (by simp [byteV])
  rcases ho with ⟨_, he⟩ | ⟨g, cap, rfl, hg, hcap, hcm2, hR⟩
  · simp at he
  have hm : (y ++ [1, 2, 3, 4]).length = y.length + 4 := by simp
  rw [hm] at hcap ⊢
  have hm2 : y.length + 4 ≤ 2004 := by omega
  have h4 : 4 ≤ y.length + 4 := by omega
  have HM := Lib.hid hm
  clear hm
  obtain ⟨a, ha, ha4⟩ := place_in t (y.length + 4) h4 hm2
  generalize y ++ [1, 2, 3, 4] = L at *
  generalize y.length + 4 = m at *
  clear hn o2 hyl hpre
  have E := Lib.hid (fun c W X (hB : RowB W g X) (hn : X.length = m) => dCrc_any (some ⟨g, 0, none⟩) X m c W hB.bys hn.symm (by omega))
  have D := Lib.hid (fun c W X (hB : RowB W g X) (hn : X.length = m) => by have h := docCrc_any (some ⟨g, 0, none⟩) X c W hB.bys (by omega); rw [hn] at h; exact h)
  have HA := Lib.hid ha
  clear ha
  go_wp2_with fail
  rw [HA.out]
  with_reducible refine Calls.mono (E.out _ _ L hR HM.out) ?_
  rintro e w3 ⟨rfl, rfl⟩
  go_wp2_with fail
  have hL : L.length = m := HM.out
  have HTL := Lib.hid (fun n => (turned_len L a b n).trans hL)
  clear hL hS hc hcm C hi hz0 hz1 hz2 i0
  go_loopw [27, 8] (fun u _ wr => ∃ i : Nat, u = .int .i64 i ∧ i ≤ 4 ∧ RowB wr g (turned L a b i) ∧ Below w.heap.size w wr) (fun u _ _ => 4 - (intOf u).toNat)
  case atStart => exact ⟨0, rfl, by omega, hR, b2⟩
  case round =>
    clear hR b2 s2
    obtain ⟨i, rfl, hi, hR, hB⟩ := hrel
    by_cases hlt : i < 4
    · have hlen := HTL.out i
      have hlt4 : (i : Int) < 4 := by omega
      have y := hR.cell (a + i) (by omega)
      have hf := hR.frozen (a + i)
      obtain ⟨x, hx⟩ : ∃ x, x = (turned L a b i)[a + i]'(by omega) := ⟨_, rfl⟩
      rw [← hx] at y
      have HN : Hid (turned L a b (i + 1) = (turned L a b i).set (a + i) (x ^^^ UInt8.ofNat (b >>> (8 * i)))) := Lib.hid (by
        rw [turned, hx, List.getD_eq_getElem?_getD, List.getElem?_eq_getElem (by omega)]
        rfl)
      have hxb := x.toNat_lt
      have e1 : 0 ≤ (a : Int) + i ∧ (a : Int) + i < m := by omega
      have e2 : ((a : Int) + i).toNat = a + i := by omega
      have p1 : IntKind.i64.wrap ((a : Int) + i) = (a : Int) + i := by rw [IntKind.wrap_i64]; omega
      have p2 : IntKind.i64.wrap (8 * (i : Int)) = 8 * (i : Int) := by rw [IntKind.wrap_i64]; omega
      have e3 : (8 * (i : Int)).toNat = 8 * i := by omega
      have e4 : 0 ≤ 8 * (i : Int) := by omega
      clear hx hlen
      have HR := Lib.hid hR
      clear hR
      go_wp2_with fail
      go_still_tail 13, (by kernel_rfl)
      change wpList _ _ _ _ _ wr.drew
      go_wp2_with fail
      go_roundw
      case rel =>
        refine ⟨i + 1, by go_num, by omega, ?_, ?_⟩
        · rw [turn_byte, HN.out]
          exact (HR.out.set (a + i) _).drew
        · exact (hB.setCell hg _).drew
      case measure => simp [intOf]; omega
    · obtain rfl : i = 4 := by omega
      have hT := crc_turned L a b (by have := HM.out; omega) hb
      have hl4 := HTL.out 4
      generalize turned L a b 4 = X at *
      have hX := Lib.hid hl4
      have hn0 : crc [] = 0 := crc_nil
      have N := Lib.hid (fun W => by have h := dCrc_any none [] 0 0 W (Bys.nil _ _) rfl (by omega); rw [hn0] at h; exact h)
      generalize crc L = p at *
      generalize hq : crc X = q at *
      have HQ := Lib.hid hq
      clear hn0 hl4 hq HTL HM HA hlt hi
      have f0 : ((q : Int) == (q : Int)) = true := by simp
      by_cases hb0 : b = 0
      all_goals
        by_cases hp0 : p = 0
        all_goals
          first
            | (have f1 : ((q : Int) == (p : Int)) = true := by rw [hT.2 hb0]; simp
               have f2 : ((b : Int) == 0) = true := by rw [hb0]; rfl)
            | (have f1 : ((q : Int) == (p : Int)) = false := by rw [beq_eq_false_iff_ne]; intro e; exact hb0 (hT.1 (by omega))
               have f2 : ((b : Int) == 0) = false := by rw [beq_eq_false_iff_ne]; omega)
          first
            | (have f3 : ((p : Int) != 0) = true := by rw [bne_iff_ne]; omega
               have f4 : ((p : Int) == 0) = false := by rw [beq_eq_false_iff_ne]; omega)
            | (have f3 : ((p : Int) != 0) = false := by rw [bne_eq_false_iff_eq]; omega
               have f4 : ((p : Int) == 0) = true := by rw [beq_iff_eq]; omega)
          clear hT hb0 hp0
          go_wp2_with fail
          with_reducible refine Calls.mono (E.out _ _ X hR hX.out) ?_
          rintro e w4 ⟨rfl, rfl⟩
          rw [HQ.out]
          go_wp2_with fail
          first
            | (go_ret; exact ⟨rfl, hB⟩)
            | (with_reducible refine Calls.mono (N.out _) ?_
               rintro e w4 ⟨rfl, rfl⟩
               go_wp2_with fail
               with_reducible refine Calls.mono (D.out _ _ X hR hX.out) ?_
               rintro e w4 ⟨rfl, rfl⟩
               rw [HQ.out]
               go_wp2_with fail
               with_reducible refine Calls.mono (E.out _ _ X hR hX.out) ?_
               rintro e w4 ⟨rfl, rfl⟩
               rw [HQ.out]
               go_wp2_with fail
               go_ret
               exact ⟨rfl, hB⟩)
end Go.Proofs.Ytdfgkjbhbplamaa
