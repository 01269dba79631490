/-
  The landed digest: what stands behind the whole blocks.
-/
import Derived.Test.YtkpnhbjdpbjfjaaDoorDgE
import Derived.Test.YtkpnhbjdpbjfjaaDoorSl
import Derived.Test.YtkpnhbjdpbjfjaaDoorQc
import Derived.LoopN
namespace Go.Proofs.YtkpnhbjdpbjfjaaDoor
open Go.RowKit
set_option linter.unusedVariables false
set_option maxRecDepth 100000

def tailB (l : Bs) (size : Nat) : Bs := l ++ 0x80 :: (List.replicate (noughts l.length) 0 ++ len8 (8 * size))
theorem padded_tail (l : Bs) (k : Nat) (h : 64 * k ≤ l.length) : padded l = l.take (64 * k) ++ tailB (l.drop (64 * k)) l.length := by
  unfold padded tailB
  have e : noughts (l.drop (64 * k)).length = noughts l.length := by unfold noughts; rw [List.length_drop]; omega
  rw [e, ← List.append_assoc, List.take_append_drop]
/-- The bytes ahead of the length, k noughts of them laid. -/
def headB (l : Bs) (k : Nat) : Bs := l ++ [0x80] ++ List.replicate k 0
theorem headB_succ (l : Bs) (k : Nat) : headB l k ++ [0] = headB l (k + 1) := by unfold headB; rw [List.replicate_succ', List.append_assoc]
theorem headB_len (l : Bs) (k : Nat) : (headB l k).length = l.length + 1 + k := by simp [headB]; omega
theorem tailB_of (l : Bs) (size : Nat) : tailB l size = headB l (noughts l.length) ++ len8 (8 * size) := by simp [tailB, headB]
theorem u8_part (n s : Nat) : IntKind.u8.wrap ((n : Int) / ((2 ^ s : Nat) : Int)) = ((UInt8.ofNat (n >>> s)).toNat : Int) := by
  have h : (n : Int) / ((2 ^ s : Nat) : Int) = ((n >>> s : Nat) : Int) := by rw [Nat.shiftRight_eq_div_pow]; exact (Int.natCast_ediv n (2 ^ s)).symm
  rw [h]
  simp [IntKind.wrap, IntKind.bits, IntKind.signed]

/-- A slice's length. -/
def lenV (v : Value) : Nat := match v with | .slice _ n _ => n | _ => 0
set_option maxHeartbeats 2000000 in
theorem lastBlocks_any (A : Option Addr) (l : Bs) (c size : Nat) (w : World) (hb : Sl w A c l) (hl : l.length ≤ 64) (hs : size ≤ 140737488355328) :
    Calls Tryd.prog 15 #[.slice A l.length c, .int .i64 size] w fun e w' => ∃ v, e = .returned v ∧ OwnB w' w.heap.size v (tailB l size) ∧ Below w.heap.size w w' := by
  obtain ⟨n, hn⟩ : ∃ n, n = l.length := ⟨_, rfl⟩
  rw [← hn] at hl
  obtain ⟨i0, hi, hz0, hz1, hz2⟩ := info_parts info_u8
  obtain ⟨M, hM⟩ : ∃ M, M = madeCells (Value.int .u8 0).cells (((128 : Nat) : Int).toNat * i0.size) := ⟨_, rfl⟩
  have hMs : M.size = 128 * 1 := by rw [hM, size_madeCells, hz1]; simp
  have hmk : ∀ W : World, (Instr.makeSlice 22 (.int .i64 0) (.int .i64 128)).run Tryd.prog W = .ok (.slice (some ⟨W.heap.size, 0, none⟩) 0 128) (W.alloc (.cells M 5)) := fun W => by
    have h := run_make (P := Tryd.prog) W 22 5 i0 (.int .u8 0) Tryd.underlying22 hi hz0 .i64 .i64 0 (128 : Int) (by omega) (by omega) (by rw [hz2]; omega) (by omega)
    rw [show ((128 : Int).toNat * i0.size) = (((128 : Nat) : Int).toNat * i0.size) from rfl, ← hM] at h
    simpa using h
  have o0 : OwnB (w.alloc (.cells M 5)) w.heap.size (.slice (some ⟨w.heap.size, 0, none⟩) 0 128) [] := OwnB.of (l := []) (World.ownsRow_made w M 128 (Nat.le_refl _) (by unfold maxLen; omega) hMs) rfl
  have b0 : Below w.heap.size w (w.alloc (.cells M 5)) := Below.alloc (Below.refl _ _) (Nat.le_refl _) _
  have HB := Lib.hid (hb.on b0)
  have HN := Lib.hid hn
  have O0 := Lib.hid o0
  have B0 := Lib.hid b0
  have HS := Lib.hid hs
  rw [← hn]
  clear hb hn o0 b0 hM hMs hi hz0 hz1 hz2
  go_enter Tryd.func15, Tryd.ntmps15
  go_wp2_with (first
    | (at_builtin; refine wpList_append_bys rfl (.tmp 9) (.tmp 10) rfl w.heap.size _ [] rfl O0.out A c n l rfl HN.out HB.out.bys HB.out.nil (by simp; have := HN.out; omega) (by simp) ?_)
    | fail)
  intro v1 w1 ho1 hg1 _
  have b1 : Below w.heap.size w w1 := B0.out.grown hg1 (by simp) (fun k hk => by simp [Value.ownBlock] at hk; omega)
  have sz1 := b1.size
  obtain ⟨A1, c1, hv1, -⟩ := ho1.bysN
  rw [← HN.out] at hv1
  subst hv1
  have O1 := Lib.hid (ho1.alloc (.cells #[.int .u8 128] 5))
  have S1 : Hid (Sl (w1.alloc (.cells #[.int .u8 128] 5)) (some ⟨w1.heap.size, 0, none⟩) 1 [0x80]) := Lib.hid (Sl.made (l := [0x80]) rfl (by decide))
  have B1 := Lib.hid (Below.alloc (o := .cells #[.int .u8 128] 5) b1 sz1)
  have hs1 : w.heap.size ≤ (w1.alloc (.cells #[.int .u8 128] 5)).heap.size := B1.out.size
  clear ho1 hg1 b1 O0 B0 HB
  go_wp2_with (first
    | (at_builtin; refine wpList_append_bys rfl (.tmp 12) (.tmp 13) rfl w.heap.size _ l rfl O1.out _ 1 1 [0x80] rfl rfl S1.out.bys (fun h => by cases h) (by simp; have := HN.out; omega) hs1 ?_)
    | fail)
  intro v2 w2 ho2 hg2 _
  have H2 : Hid (OwnB w2 w.heap.size v2 (headB l 0)) := Lib.hid (by simpa [headB] using ho2)
  have B2 := Lib.hid (B1.out.grown hg2 hs1 (fun k hk => (O1.out.lt k hk).1))
  clear ho2 hg2 O1 S1 B1 hs1 sz1
  obtain ⟨N, hN⟩ : ∃ N, N = noughts n := ⟨_, rfl⟩
  have hN64 : N < 64 := by rw [hN]; exact noughts_lt n
  have HNN := Lib.hid hN
  clear hN
  go_wp2_with fail
  go_loopw [5] (fun v5 wr => ∃ k, k ≤ N ∧ OwnB wr w.heap.size v5 (headB l k) ∧ Below w.heap.size w wr) (fun v5 _ => 200 - lenV v5)
  case atStart => exact ⟨0, Nat.zero_le _, H2.out, B2.out⟩
  case round =>
    obtain ⟨k, hk, ho, hB⟩ := hrel
    clear H2 B2
    obtain ⟨A5, c5, rfl, -⟩ := ho.bysN
    obtain ⟨m, hm⟩ : ∃ m, m = (headB l k).length := ⟨_, rfl⟩
    have hm2 : m = n + 1 + k := by rw [hm, headB_len, HN.out]
    rw [← hm]
    rw [← hm] at ho
    have HM := Lib.hid hm
    have hrem : Int.tmod (m : Int) 64 = ((m % 64 : Nat) : Int) := by rw [Int.tmod_eq_emod_of_nonneg (by omega)]; omega
    have sz := hB.size
    by_cases hkN : k = N
    · have hr : m % 64 = 56 := by rw [hm2, hkN, HNN.out]; exact noughts_fit n
      rw [hr] at hrem
      subst hkN
      have H3 := Lib.hid ho
      have B3 := Lib.hid hB
      have HM2 := Lib.hid hm2
      clear ho hB hm hm2
      go_wp2_with fail
      have HT : Hid (tailB l size = headB l k ++ len8 (8 * size)) := Lib.hid (by rw [tailB_of, ← HN.out, ← HNN.out])
      have HPL : Hid ((headB l k).length ≤ 200) := Lib.hid (by have := HM.out; have := HM2.out; omega)
      obtain ⟨z, hz⟩ : ∃ z : Nat, z = 8 * size := ⟨_, rfl⟩
      have hz2 : (size : Int) * 8 = (z : Int) := by omega
      have hz3 : z ≤ 1125899906842624 := by have := HS.out; omega
      rw [← hz] at HT
      rw [hz2]
      have hlen8 : len8 z = [UInt8.ofNat (z >>> 56), UInt8.ofNat (z >>> 48), UInt8.ofNat (z >>> 40), UInt8.ofNat (z >>> 32), UInt8.ofNat (z >>> 24), UInt8.ofNat (z >>> 16), UInt8.ofNat (z >>> 8), UInt8.ofNat z] := rfl
      obtain ⟨b0, hb0⟩ : ∃ b, b = UInt8.ofNat (z >>> 56) := ⟨_, rfl⟩
      have f0 : IntKind.u8.wrap ((z : Int) / 72057594037927936) = (b0.toNat : Int) := by rw [hb0]; have := u8_part z 56; simpa using this
      obtain ⟨b1, hb1⟩ : ∃ b, b = UInt8.ofNat (z >>> 48) := ⟨_, rfl⟩
      have f1 : IntKind.u8.wrap ((z : Int) / 281474976710656) = (b1.toNat : Int) := by rw [hb1]; have := u8_part z 48; simpa using this
      obtain ⟨b2, hb2⟩ : ∃ b, b = UInt8.ofNat (z >>> 40) := ⟨_, rfl⟩
      have f2 : IntKind.u8.wrap ((z : Int) / 1099511627776) = (b2.toNat : Int) := by rw [hb2]; have := u8_part z 40; simpa using this
      obtain ⟨b3, hb3⟩ : ∃ b, b = UInt8.ofNat (z >>> 32) := ⟨_, rfl⟩
      have f3 : IntKind.u8.wrap ((z : Int) / 4294967296) = (b3.toNat : Int) := by rw [hb3]; have := u8_part z 32; simpa using this
      obtain ⟨b4, hb4⟩ : ∃ b, b = UInt8.ofNat (z >>> 24) := ⟨_, rfl⟩
      have f4 : IntKind.u8.wrap ((z : Int) / 16777216) = (b4.toNat : Int) := by rw [hb4]; have := u8_part z 24; simpa using this
      obtain ⟨b5, hb5⟩ : ∃ b, b = UInt8.ofNat (z >>> 16) := ⟨_, rfl⟩
      have f5 : IntKind.u8.wrap ((z : Int) / 65536) = (b5.toNat : Int) := by rw [hb5]; have := u8_part z 16; simpa using this
      obtain ⟨b6, hb6⟩ : ∃ b, b = UInt8.ofNat (z >>> 8) := ⟨_, rfl⟩
      have f6 : IntKind.u8.wrap ((z : Int) / 256) = (b6.toNat : Int) := by rw [hb6]; have := u8_part z 8; simpa using this
      obtain ⟨b7, hb7⟩ : ∃ b, b = UInt8.ofNat z := ⟨_, rfl⟩
      have f7 : IntKind.u8.wrap (z : Int) = (b7.toNat : Int) := by rw [hb7]; simp [IntKind.wrap, IntKind.bits, IntKind.signed]
      rw [← hb0, ← hb1, ← hb2, ← hb3, ← hb4, ← hb5, ← hb6, ← hb7] at hlen8
      rw [hlen8] at HT
      clear hlen8 hz hz2 hb0 hb1 hb2 hb3 hb4 hb5 hb6 hb7
      obtain ⟨P, hP⟩ : ∃ P, P = headB l k := ⟨_, rfl⟩
      rw [← hP] at HT HPL H3 HM
      clear hP
      refine wp_loop_rounds 9 ?_
      have P0 := Lib.hid (H3.out.alloc (.cells #[.int .u8 b0.toNat] 5))
      have S0 : Hid (Sl (wr.alloc (.cells #[.int .u8 b0.toNat] 5)) (some ⟨wr.heap.size, 0, none⟩) 1 [b0]) := Lib.hid (Sl.made (l := [b0]) rfl (by simp))
      have C0 := Lib.hid (Below.alloc (o := (.cells #[.int .u8 b0.toNat] 5)) B3.out B3.out.size)
      have q0 : w.heap.size ≤ (wr.alloc (.cells #[.int .u8 b0.toNat] 5)).heap.size := C0.out.size
      rw [rounds_succ]
      go_wp2_with (first
        | (at_builtin; refine wpList_append_bys rfl (.tmp 29) (.tmp 34) rfl w.heap.size _ P rfl P0.out _ 1 1 [b0] rfl rfl S0.out.bys (fun h => by cases h) (by have := HPL.out; simp at this ⊢; omega) q0 ?_)
        | fail)
      intro v0 x0 ho hg _
      have D0 := Lib.hid (C0.out.grown hg q0 (fun k hk => (P0.out.lt k hk).1))
      obtain ⟨L0, hL0⟩ : ∃ L, L = P ++ [b0] := ⟨_, rfl⟩
      rw [← hL0] at ho
      obtain ⟨m0, hm0⟩ : ∃ x, x = L0.length := ⟨_, rfl⟩
      obtain ⟨_, _, hv, -⟩ := ho.bysN
      rw [← hm0] at hv
      have G0 := Lib.hid ho
      have HW0 : Hid (L0.length ≤ 201) := Lib.hid (by rw [hL0, List.length_append]; have := HPL.out; simp at this ⊢; omega)
      have HL0 := Lib.hid hL0
      clear ho hg hL0 hm0 P0 S0 C0 q0 H3 B3 f0
      subst hv
      go_wp2_with fail
      have P1 := Lib.hid (G0.out.alloc (.cells #[.int .u8 b1.toNat] 5))
      have S1 : Hid (Sl (x0.alloc (.cells #[.int .u8 b1.toNat] 5)) (some ⟨x0.heap.size, 0, none⟩) 1 [b1]) := Lib.hid (Sl.made (l := [b1]) rfl (by simp))
      have C1 := Lib.hid (Below.alloc (o := (.cells #[.int .u8 b1.toNat] 5)) D0.out D0.out.size)
      have q1 : w.heap.size ≤ (x0.alloc (.cells #[.int .u8 b1.toNat] 5)).heap.size := C1.out.size
      rw [rounds_succ]
      go_wp2_with (first
        | (at_builtin; refine wpList_append_bys rfl (.tmp 29) (.tmp 34) rfl w.heap.size _ L0 rfl P1.out _ 1 1 [b1] rfl rfl S1.out.bys (fun h => by cases h) (by have := HW0.out; simp at this ⊢; omega) q1 ?_)
        | fail)
      intro v1 x1 ho hg _
      have D1 := Lib.hid (C1.out.grown hg q1 (fun k hk => (P1.out.lt k hk).1))
      obtain ⟨L1, hL1⟩ : ∃ L, L = L0 ++ [b1] := ⟨_, rfl⟩
      rw [← hL1] at ho
      obtain ⟨m1, hm1⟩ : ∃ x, x = L1.length := ⟨_, rfl⟩
      obtain ⟨_, _, hv, -⟩ := ho.bysN
      rw [← hm1] at hv
      have G1 := Lib.hid ho
      have HW1 : Hid (L1.length ≤ 202) := Lib.hid (by rw [hL1, List.length_append]; have := HW0.out; simp at this ⊢; omega)
      have HL1 := Lib.hid hL1
      clear ho hg hL1 hm1 P1 S1 C1 q1 G0 D0 f1
      subst hv
      go_wp2_with fail
      have P2 := Lib.hid (G1.out.alloc (.cells #[.int .u8 b2.toNat] 5))
      have S2 : Hid (Sl (x1.alloc (.cells #[.int .u8 b2.toNat] 5)) (some ⟨x1.heap.size, 0, none⟩) 1 [b2]) := Lib.hid (Sl.made (l := [b2]) rfl (by simp))
      have C2 := Lib.hid (Below.alloc (o := (.cells #[.int .u8 b2.toNat] 5)) D1.out D1.out.size)
      have q2 : w.heap.size ≤ (x1.alloc (.cells #[.int .u8 b2.toNat] 5)).heap.size := C2.out.size
      rw [rounds_succ]
      go_wp2_with (first
        | (at_builtin; refine wpList_append_bys rfl (.tmp 29) (.tmp 34) rfl w.heap.size _ L1 rfl P2.out _ 1 1 [b2] rfl rfl S2.out.bys (fun h => by cases h) (by have := HW1.out; simp at this ⊢; omega) q2 ?_)
        | fail)
      intro v2 x2 ho hg _
      have D2 := Lib.hid (C2.out.grown hg q2 (fun k hk => (P2.out.lt k hk).1))
      obtain ⟨L2, hL2⟩ : ∃ L, L = L1 ++ [b2] := ⟨_, rfl⟩
      rw [← hL2] at ho
      obtain ⟨m2, hm2⟩ : ∃ x, x = L2.length := ⟨_, rfl⟩
      obtain ⟨_, _, hv, -⟩ := ho.bysN
      rw [← hm2] at hv
      have G2 := Lib.hid ho
      have HW2 : Hid (L2.length ≤ 203) := Lib.hid (by rw [hL2, List.length_append]; have := HW1.out; simp at this ⊢; omega)
      have HL2 := Lib.hid hL2
      clear ho hg hL2 hm2 P2 S2 C2 q2 G1 D1 f2
      subst hv
      go_wp2_with fail
      have P3 := Lib.hid (G2.out.alloc (.cells #[.int .u8 b3.toNat] 5))
      have S3 : Hid (Sl (x2.alloc (.cells #[.int .u8 b3.toNat] 5)) (some ⟨x2.heap.size, 0, none⟩) 1 [b3]) := Lib.hid (Sl.made (l := [b3]) rfl (by simp))
      have C3 := Lib.hid (Below.alloc (o := (.cells #[.int .u8 b3.toNat] 5)) D2.out D2.out.size)
      have q3 : w.heap.size ≤ (x2.alloc (.cells #[.int .u8 b3.toNat] 5)).heap.size := C3.out.size
      rw [rounds_succ]
      go_wp2_with (first
        | (at_builtin; refine wpList_append_bys rfl (.tmp 29) (.tmp 34) rfl w.heap.size _ L2 rfl P3.out _ 1 1 [b3] rfl rfl S3.out.bys (fun h => by cases h) (by have := HW2.out; simp at this ⊢; omega) q3 ?_)
        | fail)
      intro v3 x3 ho hg _
      have D3 := Lib.hid (C3.out.grown hg q3 (fun k hk => (P3.out.lt k hk).1))
      obtain ⟨L3, hL3⟩ : ∃ L, L = L2 ++ [b3] := ⟨_, rfl⟩
      rw [← hL3] at ho
      obtain ⟨m3, hm3⟩ : ∃ x, x = L3.length := ⟨_, rfl⟩
      obtain ⟨_, _, hv, -⟩ := ho.bysN
      rw [← hm3] at hv
      have G3 := Lib.hid ho
      have HW3 : Hid (L3.length ≤ 204) := Lib.hid (by rw [hL3, List.length_append]; have := HW2.out; simp at this ⊢; omega)
      have HL3 := Lib.hid hL3
      clear ho hg hL3 hm3 P3 S3 C3 q3 G2 D2 f3
      subst hv
      go_wp2_with fail
      have P4 := Lib.hid (G3.out.alloc (.cells #[.int .u8 b4.toNat] 5))
      have S4 : Hid (Sl (x3.alloc (.cells #[.int .u8 b4.toNat] 5)) (some ⟨x3.heap.size, 0, none⟩) 1 [b4]) := Lib.hid (Sl.made (l := [b4]) rfl (by simp))
      have C4 := Lib.hid (Below.alloc (o := (.cells #[.int .u8 b4.toNat] 5)) D3.out D3.out.size)
      have q4 : w.heap.size ≤ (x3.alloc (.cells #[.int .u8 b4.toNat] 5)).heap.size := C4.out.size
      rw [rounds_succ]
      go_wp2_with (first
        | (at_builtin; refine wpList_append_bys rfl (.tmp 29) (.tmp 34) rfl w.heap.size _ L3 rfl P4.out _ 1 1 [b4] rfl rfl S4.out.bys (fun h => by cases h) (by have := HW3.out; simp at this ⊢; omega) q4 ?_)
        | fail)
      intro v4 x4 ho hg _
      have D4 := Lib.hid (C4.out.grown hg q4 (fun k hk => (P4.out.lt k hk).1))
      obtain ⟨L4, hL4⟩ : ∃ L, L = L3 ++ [b4] := ⟨_, rfl⟩
      rw [← hL4] at ho
      obtain ⟨m4, hm4⟩ : ∃ x, x = L4.length := ⟨_, rfl⟩
      obtain ⟨_, _, hv, -⟩ := ho.bysN
      rw [← hm4] at hv
      have G4 := Lib.hid ho
      have HW4 : Hid (L4.length ≤ 205) := Lib.hid (by rw [hL4, List.length_append]; have := HW3.out; simp at this ⊢; omega)
      have HL4 := Lib.hid hL4
      clear ho hg hL4 hm4 P4 S4 C4 q4 G3 D3 f4
      subst hv
      go_wp2_with fail
      have P5 := Lib.hid (G4.out.alloc (.cells #[.int .u8 b5.toNat] 5))
      have S5 : Hid (Sl (x4.alloc (.cells #[.int .u8 b5.toNat] 5)) (some ⟨x4.heap.size, 0, none⟩) 1 [b5]) := Lib.hid (Sl.made (l := [b5]) rfl (by simp))
      have C5 := Lib.hid (Below.alloc (o := (.cells #[.int .u8 b5.toNat] 5)) D4.out D4.out.size)
      have q5 : w.heap.size ≤ (x4.alloc (.cells #[.int .u8 b5.toNat] 5)).heap.size := C5.out.size
      rw [rounds_succ]
      go_wp2_with (first
        | (at_builtin; refine wpList_append_bys rfl (.tmp 29) (.tmp 34) rfl w.heap.size _ L4 rfl P5.out _ 1 1 [b5] rfl rfl S5.out.bys (fun h => by cases h) (by have := HW4.out; simp at this ⊢; omega) q5 ?_)
        | fail)
      intro v5 x5 ho hg _
      have D5 := Lib.hid (C5.out.grown hg q5 (fun k hk => (P5.out.lt k hk).1))
      obtain ⟨L5, hL5⟩ : ∃ L, L = L4 ++ [b5] := ⟨_, rfl⟩
      rw [← hL5] at ho
      obtain ⟨m5, hm5⟩ : ∃ x, x = L5.length := ⟨_, rfl⟩
      obtain ⟨_, _, hv, -⟩ := ho.bysN
      rw [← hm5] at hv
      have G5 := Lib.hid ho
      have HW5 : Hid (L5.length ≤ 206) := Lib.hid (by rw [hL5, List.length_append]; have := HW4.out; simp at this ⊢; omega)
      have HL5 := Lib.hid hL5
      clear ho hg hL5 hm5 P5 S5 C5 q5 G4 D4 f5
      subst hv
      go_wp2_with fail
      have P6 := Lib.hid (G5.out.alloc (.cells #[.int .u8 b6.toNat] 5))
      have S6 : Hid (Sl (x5.alloc (.cells #[.int .u8 b6.toNat] 5)) (some ⟨x5.heap.size, 0, none⟩) 1 [b6]) := Lib.hid (Sl.made (l := [b6]) rfl (by simp))
      have C6 := Lib.hid (Below.alloc (o := (.cells #[.int .u8 b6.toNat] 5)) D5.out D5.out.size)
      have q6 : w.heap.size ≤ (x5.alloc (.cells #[.int .u8 b6.toNat] 5)).heap.size := C6.out.size
      rw [rounds_succ]
      go_wp2_with (first
        | (at_builtin; refine wpList_append_bys rfl (.tmp 29) (.tmp 34) rfl w.heap.size _ L5 rfl P6.out _ 1 1 [b6] rfl rfl S6.out.bys (fun h => by cases h) (by have := HW5.out; simp at this ⊢; omega) q6 ?_)
        | fail)
      intro v6 x6 ho hg _
      have D6 := Lib.hid (C6.out.grown hg q6 (fun k hk => (P6.out.lt k hk).1))
      obtain ⟨L6, hL6⟩ : ∃ L, L = L5 ++ [b6] := ⟨_, rfl⟩
      rw [← hL6] at ho
      obtain ⟨m6, hm6⟩ : ∃ x, x = L6.length := ⟨_, rfl⟩
      obtain ⟨_, _, hv, -⟩ := ho.bysN
      rw [← hm6] at hv
      have G6 := Lib.hid ho
      have HW6 : Hid (L6.length ≤ 207) := Lib.hid (by rw [hL6, List.length_append]; have := HW5.out; simp at this ⊢; omega)
      have HL6 := Lib.hid hL6
      clear ho hg hL6 hm6 P6 S6 C6 q6 G5 D5 f6
      subst hv
      go_wp2_with fail
      have P7 := Lib.hid (G6.out.alloc (.cells #[.int .u8 b7.toNat] 5))
      have S7 : Hid (Sl (x6.alloc (.cells #[.int .u8 b7.toNat] 5)) (some ⟨x6.heap.size, 0, none⟩) 1 [b7]) := Lib.hid (Sl.made (l := [b7]) rfl (by simp))
      have C7 := Lib.hid (Below.alloc (o := (.cells #[.int .u8 b7.toNat] 5)) D6.out D6.out.size)
      have q7 : w.heap.size ≤ (x6.alloc (.cells #[.int .u8 b7.toNat] 5)).heap.size := C7.out.size
      rw [rounds_succ]
      go_wp2_with (first
        | (at_builtin; refine wpList_append_bys rfl (.tmp 29) (.tmp 34) rfl w.heap.size _ L6 rfl P7.out _ 1 1 [b7] rfl rfl S7.out.bys (fun h => by cases h) (by have := HW6.out; simp at this ⊢; omega) q7 ?_)
        | fail)
      intro v7 x7 ho hg _
      have D7 := Lib.hid (C7.out.grown hg q7 (fun k hk => (P7.out.lt k hk).1))
      obtain ⟨L7, hL7⟩ : ∃ L, L = L6 ++ [b7] := ⟨_, rfl⟩
      rw [← hL7] at ho
      obtain ⟨m7, hm7⟩ : ∃ x, x = L7.length := ⟨_, rfl⟩
      obtain ⟨_, _, hv, -⟩ := ho.bysN
      rw [← hm7] at hv
      have G7 := Lib.hid ho
      have HW7 : Hid (L7.length ≤ 208) := Lib.hid (by rw [hL7, List.length_append]; have := HW6.out; simp at this ⊢; omega)
      have HL7 := Lib.hid hL7
      clear ho hg hL7 hm7 P7 S7 C7 q7 G6 D6 f7
      subst hv
      go_wp2_with fail
      rw [rounds_succ]
      have HF : Hid (OwnB x7 w.heap.size _ (tailB l size)) := Lib.hid (by have h := G7.out; rw [HL7.out, HL6.out, HL5.out, HL4.out, HL3.out, HL2.out, HL1.out, HL0.out] at h; rw [HT.out]; simpa using h)
      have HD := Lib.hid D7.out
      clear HT HPL HM G7 D7
      go_wp2_with fail
      go_ret
      exact ⟨_, rfl, HF.out, HD.out⟩
    · have hr : ¬ m % 64 = 56 := by rw [hm2]; exact noughts_least (by have := HNN.out; omega)
      obtain ⟨r, hr0⟩ : ∃ r, r = m % 64 := ⟨_, rfl⟩
      rw [← hr0] at hrem hr
      have hr1 : ¬ (r : Int) = 56 := by omega
      have hr2 : ((r : Int) != 56) = true := by simpa using hr1
      have O4 := Lib.hid (ho.alloc (.cells #[.int .u8 0] 5))
      have S4 : Hid (Sl (wr.alloc (.cells #[.int .u8 0] 5)) (some ⟨wr.heap.size, 0, none⟩) 1 [0]) := Lib.hid (Sl.made (l := [0]) rfl (by decide))
      have HM2 := Lib.hid hm2
      have hm3 : m ≤ 128 := by omega
      clear hm2
      have B4 := Lib.hid (Below.alloc (o := .cells #[.int .u8 0] 5) hB sz)
      have hs4 : w.heap.size ≤ (wr.alloc (.cells #[.int .u8 0] 5)).heap.size := B4.out.size
      clear ho hB hm hr hr0
      go_wp2_with (first
        | (at_builtin; refine wpList_append_bys rfl (.tmp 19) (.tmp 20) rfl w.heap.size _ (headB l k) rfl O4.out _ 1 1 [0] rfl rfl S4.out.bys (fun h => by cases h) (by have := HM.out; simp at this ⊢; omega) hs4 ?_)
        | fail)
      intro v6 w6 ho6 hg6 _
      have H6 : Hid (OwnB w6 w.heap.size v6 (headB l (k + 1))) := Lib.hid (by rw [← headB_succ]; exact ho6)
      have B6 := Lib.hid (B4.out.grown hg6 hs4 (fun k hk => (O4.out.lt k hk).1))
      obtain ⟨A6, c6, hv6, -⟩ := H6.out.bysN
      rw [headB_len, ← HN.out] at hv6
      subst hv6
      clear ho6 hg6 O4 S4 B4
      go_wp2_with fail
      go_roundw
      case rel => exact ⟨k + 1, by omega, H6.out, B6.out⟩
      case measure => have := HM2.out; simp only [lenV]; omega
end Go.Proofs.YtkpnhbjdpbjfjaaDoor
