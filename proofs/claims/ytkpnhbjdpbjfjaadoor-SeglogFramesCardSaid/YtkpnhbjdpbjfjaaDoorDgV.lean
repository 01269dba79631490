/-
  The walk of DigestTells.
-/
import Derived.Test.YtkpnhbjdpbjfjaaDoorDgU
import Derived.Test.YtkpnhbjdpbjfjaaDoorDgH
import Derived.Test.YtkpnhbjdpbjfjaaDoorSp
import Derived.Test.YtkpnhbjdpbjfjaaDoorQw
import Derived.Lib.SlBytesConst
namespace Go.Proofs.YtkpnhbjdpbjfjaaDoor
open Go.RowKit
set_option linter.unusedVariables false
set_option maxRecDepth 100000

theorem xor_u8v (a b : Nat) (ha : a < 256) (hb : b < 256) : bits .xor .u8 (a : Int) (b : Int) = ((a ^^^ b : Nat) : Int) := by
  have ha' : a % 2 ^ 8 = a := Nat.mod_eq_of_lt (by omega)
  have hb' : b % 2 ^ 8 = b := Nat.mod_eq_of_lt (by omega)
  have hx : a ^^^ b < 2 ^ 8 := Nat.xor_lt_two_pow (by omega) (by omega)
  show IntKind.u8.wrap ((BitVec.ofInt 8 (a : Int) ^^^ BitVec.ofInt 8 (b : Int)).toNat : Int) = _
  simp only [BitVec.ofInt_natCast, BitVec.toNat_xor, BitVec.toNat_ofNat, ha', hb']
  rw [IntKind.wrap_u8]
  omega
theorem xor_one8 (x : UInt8) : bits .xor .u8 (x.toNat : Int) 1 = ((x ^^^ 1).toNat : Int) := by
  have := xor_u8v x.toNat 1 x.toNat_lt (by omega)
  rw [UInt8.toNat_xor]
  exact this
theorem turned_ne (l : Bs) (h : 0 < l.length) : l.set 0 (l[0] ^^^ 1) ≠ l := by
  intro e
  have e2 := congrArg (fun x => x[0]?) e
  simp [h] at e2
  have e3 := congrArg (fun x => l[0] ^^^ x) e2
  simp [← UInt8.xor_assoc] at e3
set_option maxHeartbeats 2000000 in
set_option maxRecDepth 100000 in
theorem DigestTells_any (A : Option Addr) (l : Bs) (c : Nat) (w : World) (hb : Sl w A c l) (hl : l.length ≤ 140737488351232) (hT : TabK w) :
    Calls Tryd.prog 3 #[.slice A l.length c] w fun e w' => e = .returned (.bool true) ∧ Below w.heap.size w w' := by
  obtain ⟨n, hn⟩ : ∃ n, n = l.length := ⟨_, rfl⟩
  obtain ⟨s, hs⟩ : ∃ s, s = sha l := ⟨_, rfl⟩
  have hs32 : s.length = 32 := by rw [hs]; exact sha_length l
  have hne := turned_ne s (by omega)
  obtain ⟨x0, hx0⟩ : ∃ x, x = s[0]'(by omega) := ⟨_, rfl⟩
  rw [← hx0] at hne
  have h0 : s[0]? = some x0 := by rw [hx0]; exact List.getElem?_eq_getElem _
  have C0 := Lib.hid (CloneB_any A l n c w hb.bys hn (by omega) (by rw [hn]; exact hb.inside))
  have S0 := Lib.hid (fun A' c' W (h : Sl W A' c' l) (k : Below w.heap.size w W) => by have := Sum_any A' l c' W h hl (hT.on k); rw [← hs, ← hn] at this; exact this)
  have S1 := Lib.hid (fun W (k : Below w.heap.size w W) => by have := docSum_any A l c W (hb.on k) hl; rw [← hs, ← hn] at this; exact this)
  have R0 := Lib.hid (fun A' c' W (h : Bys W A' l) => dCrc_any A' l n c' W h hn (by omega))
  have R1 := Lib.hid (fun W (k : Below w.heap.size w W) => by have := docCrc_any A l c W (hb.bys.on k) (by omega); rw [← hn] at this; exact this)
  have E0 := Lib.hid (fun A1 A2 (l1 l2 : Bs) n1 n2 c1 c2 W (h1 : Bys W A1 l1) (h2 : Bys W A2 l2) (e1 : n1 = l1.length) (e2 : n2 = l2.length) => EqualB_any A1 A2 l1 l2 n1 n2 c1 c2 W h1 h2 e1 e2)
  have D0 := Lib.hid (fun A' c' W (h : Bys W A' [0x31, 0x32, 0x33, 0x34, 0x35, 0x36, 0x37, 0x38, 0x39]) => by have := dCrc_any A' [0x31, 0x32, 0x33, 0x34, 0x35, 0x36, 0x37, 0x38, 0x39] 9 c' W h rfl (by omega); rw [crc_digits] at this; exact this)
  have HBys := Lib.hid (fun W (k : Below w.heap.size w W) => hb.bys.on k)
  generalize crc l = q at *
  have fx := xor_one8 x0
  obtain ⟨x1, hx1⟩ : ∃ x, x = x0 ^^^ 1 := ⟨_, rfl⟩
  rw [← hx1] at hne fx
  clear hx1
  have b1 : (s == s) = true := by simp
  have b2 : ((q : Int) != (q : Int)) = false := by simp
  have b3 : (l == l) = true := by simp
  have b4 : (s.set 0 x1 == s) = false := by rw [beq_eq_false_iff_ne]; exact hne
  clear hb hl hT hs hx0 hne
  rw [← hn]
  have HN := Lib.hid hn
  have H32 := Lib.hid hs32
  have H0 := Lib.hid h0
  clear hn hs32 h0
  go_enter Tryd.func3, Tryd.ntmps3
  go_wp2_with fail
  with_reducible refine Calls.mono C0.out ?_
  rintro e w1 ⟨v1, rfl, o1, k1⟩
  have s1 := k1.size
  obtain ⟨A1, c1, rfl, y1⟩ := o1.bysN
  rw [← HN.out]
  clear C0 o1
  go_wp2_with fail
  with_reducible refine Calls.mono (S0.out _ _ _ y1 k1) ?_
  rintro e w2 ⟨v2, rfl, o2, j2⟩
  obtain ⟨k2, s2⟩ := Below.next k1 s1 j2
  go_wp2_with fail
  with_reducible refine Calls.mono (S1.out _ k2) ?_
  rintro e w3 ⟨v3, rfl, o3, k3'⟩
  have o2 := OwnR.below o2 k3'
  obtain ⟨j3, t3⟩ := Below.next j2 j2.size k3'
  obtain ⟨k3, s3⟩ := Below.next k2 s2 k3'
  obtain ⟨A3, c3, rfl, y3⟩ := o3.bysN
  rcases OwnR.form o2 with ⟨_, e0⟩ | ⟨g, c2, hv2, hg1, hg2, hg3, hg4⟩
  · exact absurd H32.out (by rw [e0]; decide)
  have o2r := Lib.hid o2
  rw [hv2] at o2r
  subst hv2
  rw [H32.out]
  rw [H32.out] at o2r
  have ob : Bys w3 (some ⟨g, 0, none⟩) s := by
    obtain ⟨A', c', hA, hy, _⟩ := o2.ownB.bys
    injection hA with hA
    rw [hA]
    exact hy
  clear o2 o3 k3' k2 s2 S1
  go_wp2_with fail
  with_reducible refine Calls.mono (E0.out _ _ s s _ _ _ _ _ ob y3.bys H32.out.symm H32.out.symm) ?_
  rw [b1]
  rintro e w4 ⟨rfl, rfl⟩
  go_wp2_with fail
  with_reducible refine Calls.mono (R0.out _ _ _ (y1.on j3).bys) ?_
  rintro e w4 ⟨rfl, rfl⟩
  go_wp2_with fail
  with_reducible refine Calls.mono (R1.out _ k3) ?_
  rintro e w4 ⟨rfl, rfl⟩
  have hf := (OwnR.cellAt o2r.out (j := 0) (by rw [H32.out]; omega))
  have c0 : w3.cell? ⟨g, 0, none⟩ = some (.int .u8 x0.toNat) := by
    rw [hf.1]
    have := H0.out
    rw [List.getElem?_eq_getElem (by rw [H32.out]; omega)] at this
    injection this with this
    rw [this]
  have f0 := hf.2
  clear hf
  go_wp2_with fail
  have k5 : Below w.heap.size w (w3.setCell ⟨g, 0, none⟩ (.int .u8 x1.toNat)) := k3.setCell (show w.heap.size ≤ g by omega) _
  have j5 : Below w1.heap.size w1 (w3.setCell ⟨g, 0, none⟩ (.int .u8 x1.toNat)) := j3.setCell hg1 _
  have o5 := OwnR.set o2r.out 0 x1
  generalize w3.setCell ⟨g, 0, none⟩ (.int .u8 x1.toNat) = w5 at *
  clear c0 f0 o2r ob y3 j3 k3 j2 R0 R1
  have y5 := y1.on j5
  with_reducible refine Calls.mono (E0.out _ _ l l _ _ _ _ _ y5.bys (HBys.out _ k5) HN.out HN.out) ?_
  rw [b3]
  rintro e w6 ⟨rfl, rfl⟩
  go_wp2_with fail
  with_reducible refine Calls.mono (S0.out _ _ _ y5 k5) ?_
  rintro e w6 ⟨v6, rfl, o6, j6⟩
  have k6 : Below w.heap.size w w6 := (Below.next k5 (by have := k5.size; omega) j6).1
  have ob5 : Bys w6 (some ⟨g, 0, none⟩) (s.set 0 x1) := by
    obtain ⟨A', c', hA, hy, _⟩ := (OwnR.below o5 j6).ownB.bys
    injection hA with hA
    rw [hA]
    exact hy
  obtain ⟨A6, c6, rfl, y6⟩ := o6.ownB.bysN
  rw [H32.out]
  have hl5 : Hid (32 = (s.set 0 x1).length) := Lib.hid (by rw [List.length_set]; exact H32.out.symm)
  clear o6 o5 j6 k5 j5 y5 y1
  go_wp2_with fail
  with_reducible refine Calls.mono (E0.out _ _ (s.set 0 x1) s _ _ _ _ _ ob5 y6.bys hl5.out H32.out.symm) ?_
  rw [b4]
  rintro e w7 ⟨rfl, rfl⟩
  clear hl5 ob5 y6
  have yd : ∀ fr, Bys (w6.alloc (.cells #[.int .u8 49, .int .u8 50, .int .u8 51, .int .u8 52, .int .u8 53, .int .u8 54, .int .u8 55, .int .u8 56, .int .u8 57] 5 fr)) (some ⟨w6.heap.size, 0, none⟩) [0x31, 0x32, 0x33, 0x34, 0x35, 0x36, 0x37, 0x38, 0x39] := fun fr => (Sl.madeF (l := [0x31, 0x32, 0x33, 0x34, 0x35, 0x36, 0x37, 0x38, 0x39]) fr rfl (by simp)).bys
  have kc := fun (w : World) (C : Array Value) (n c : Nat) => Lib.run_convert_bytes_const (P := Tryd.prog) w 22 5 C n c Tryd.underlying22 Tryd.underlying5
  have k7 : ∀ fr, Below w.heap.size w (w6.alloc (.cells #[.int .u8 49, .int .u8 50, .int .u8 51, .int .u8 52, .int .u8 53, .int .u8 54, .int .u8 55, .int .u8 56, .int .u8 57] 5 fr)) := fun fr => Below.alloc k6 (by have := k6.size; omega) _
  go_wp2_with fail
  with_reducible refine Calls.mono (D0.out _ _ _ (yd _)) ?_
  rintro e w7 ⟨rfl, rfl⟩
  have k8 := k7 (9, 10)
  clear yd k7 k6
  go_wp2_with fail
  go_ret
  exact ⟨rfl, k8⟩
end Go.Proofs.YtkpnhbjdpbjfjaaDoor
