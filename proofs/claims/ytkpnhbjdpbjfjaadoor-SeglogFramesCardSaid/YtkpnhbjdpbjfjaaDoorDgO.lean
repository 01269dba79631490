/-
  The document's Sum256.
-/
import Derived.Test.YtkpnhbjdpbjfjaaDoorDgP
import Derived.Test.YtkpnhbjdpbjfjaaDoorDgM
namespace Go.Proofs.YtkpnhbjdpbjfjaaDoor
open Go.RowKit
set_option linter.unusedVariables false
set_option maxRecDepth 100000

theorem S8.on {w w1 : World} {base : Nat} {v : Value} {V : V8} (h : S8 w base v V) (k : Below w.heap.size w w1) : S8 w1 base v V := dgOwn_below h k (Nat.le_refl _)
theorem S8.low {w : World} {base : Nat} {v : Value} {V : V8} (h : S8 w base v V) : S8 w 0 v V := by
  rcases h with ⟨h1, h | ⟨g, cap, cur, hv, hb, r⟩⟩
  · exact ⟨h1, .inl h⟩
  · exact ⟨h1, .inr ⟨g, cap, cur, hv, Nat.zero_le _, r⟩⟩
theorem padded_is (l : Bs) : padded l = tailB l l.length := rfl
def outB (V : V8) (j : Nat) : Bs := (V.list.take j).flatMap bytes4
theorem outB_succ (V : V8) (j : Nat) (h : j < 8) : outB V (j + 1) = outB V j ++ bytes4 (V.list.getD j 0) := by
  unfold outB
  have hl : V.list.length = 8 := rfl
  rw [List.take_add_one, List.flatMap_append, List.getElem?_eq_getElem (by omega), List.getD_eq_getElem?_getD, List.getElem?_eq_getElem (by omega)]
  simp
theorem outB_len (V : V8) (j : Nat) (h : j ≤ 8) : (outB V j).length = 4 * j := by
  induction j with
  | zero => rfl
  | succ j ih => rw [outB_succ V j (by omega), List.length_append, ih (by omega)]; simp [bytes4]; omega
theorem S8.mono {w : World} {base base' : Nat} {v : Value} {V : V8} (h : S8 w base v V) (hb : base' ≤ base) : S8 w base' v V := by
  rcases h with ⟨h1, h | ⟨g, cap, cur, hv, hb', r⟩⟩
  · exact ⟨h1, .inl h⟩
  · exact ⟨h1, .inr ⟨g, cap, cur, hv, Nat.le_trans hb hb', r⟩⟩
theorem V8.Ok.at {V : V8} (h : V.Ok) (j : Nat) (hj : j < 8) : V.list.getD j 0 < 4294967296 := by
  match j, hj with
  | 0, _ => exact h.a
  | 1, _ => exact h.b
  | 2, _ => exact h.c
  | 3, _ => exact h.d
  | 4, _ => exact h.e
  | 5, _ => exact h.f
  | 6, _ => exact h.g
  | 7, _ => exact h.h
  | _ + 8, h' => omega
theorem u8_at (x : Nat) : IntKind.u8.wrap (x : Int) = ((UInt8.ofNat x).toNat : Int) := by simp [IntKind.wrap, IntKind.bits, IntKind.signed]

set_option maxHeartbeats 4000000 in
set_option maxRecDepth 100000 in
theorem docSum_any (A : Option Addr) (l : Bs) (c : Nat) (w : World) (hb : Sl w A c l) (hl : l.length ≤ 140737488351232) :
    Calls Tryd.prog 9 #[.slice A l.length c] w fun e w' => ∃ v, e = .returned v ∧ OwnB w' w.heap.size v (sha l) ∧ Below w.heap.size w w' := by
  obtain ⟨n, hn⟩ : ∃ n, n = l.length := ⟨_, rfl⟩
  rw [← hn] at hl
  have b0 : Below w.heap.size w (w.alloc (.cells #[] 5)) := Below.alloc (Below.refl _ _) (Nat.le_refl _) _
  have HB := Lib.hid (hb.on b0)
  have HN := Lib.hid hn
  have O0 := Lib.hid (OwnB.empty w w.heap.size (Nat.le_refl _))
  have B0 := Lib.hid b0
  rw [← hn]
  have HLL := Lib.hid hl
  clear hb hn b0
  go_enter Tryd.func9, Tryd.ntmps9
  go_wp2_with (first
    | (at_builtin; refine wpList_append_bys rfl (.tmp 11) (.tmp 12) rfl w.heap.size _ [] rfl O0.out A c n l rfl HN.out HB.out.bys HB.out.nil (by simp; have := HN.out; omega) (by simp) ?_)
    | fail)
  intro v1 w1 ho1 hg1 _
  have b1 : Below w.heap.size w w1 := B0.out.grown hg1 (by simp) (fun k hk => by simp [Value.ownBlock] at hk; omega)
  have sz1 := b1.size
  obtain ⟨A1, c1, hv1, -⟩ := ho1.bysN
  rw [← HN.out] at hv1
  subst hv1
  have O1 := Lib.hid (ho1.alloc (.cells #[.int .u8 128] 5))
  have S1 : Hid (Sl (w1.alloc (.cells #[.int .u8 128] 5)) (some ⟨w1.heap.size, 0, none⟩) 1 [0x80]) := Lib.hid (Sl.made (l := [0x80]) rfl (by decide))
  have B1 := Lib.hid (Below.alloc (o := .cells #[.int .u8 128] 5) b1 sz1)
  have hs1 : w.heap.size ≤ (w1.alloc (.cells #[.int .u8 128] 5)).heap.size := B1.out.size
  clear ho1 hg1 b1 O0 B0 HB
  go_wp2_with (first
    | (at_builtin; refine wpList_append_bys rfl (.tmp 13) (.tmp 14) rfl w.heap.size _ l rfl O1.out _ 1 1 [0x80] rfl rfl S1.out.bys (fun h => by cases h) (by simp; have := HN.out; omega) hs1 ?_)
    | fail)
  intro v2 w2 ho2 hg2 _
  have H2 : Hid (OwnB w2 w.heap.size v2 (headB l 0)) := Lib.hid (by simpa [headB] using ho2)
  have B2 := Lib.hid (B1.out.grown hg2 hs1 (fun k hk => (O1.out.lt k hk).1))
  clear ho2 hg2 O1 S1 B1 hs1 sz1
  obtain ⟨N, hN⟩ : ∃ N, N = noughts n := ⟨_, rfl⟩
  have hN64 : N < 64 := by rw [hN]; exact noughts_lt n
  have HNN := Lib.hid hN
  clear hN
  go_wp2_with fail
  go_loopw [3] (fun v5 wr => ∃ k, k ≤ N ∧ OwnB wr w.heap.size v5 (headB l k) ∧ Below w.heap.size w wr) (fun v5 _ => n + 200 - lenV v5)
  case atStart => exact ⟨0, Nat.zero_le _, H2.out, B2.out⟩
  case round =>
    obtain ⟨k, hk, ho, hB⟩ := hrel
    clear H2 B2
    obtain ⟨A5, c5, rfl, -⟩ := ho.bysN
    obtain ⟨m, hm⟩ : ∃ m, m = (headB l k).length := ⟨_, rfl⟩
    have hm2 : m = n + 1 + k := by rw [hm, headB_len, HN.out]
    rw [← hm]
    rw [← hm] at ho
    have HM := Lib.hid hm
    have hrem : Int.tmod (m : Int) 64 = ((m % 64 : Nat) : Int) := by rw [Int.tmod_eq_emod_of_nonneg (by omega)]; omega
    have sz := hB.size
    by_cases hkN : k = N
    · have hr : m % 64 = 56 := by rw [hm2, hkN, HNN.out]; exact noughts_fit n
      rw [hr] at hrem
      subst hkN
      have H3 := Lib.hid ho
      have B3 := Lib.hid hB
      have HM2 := Lib.hid hm2
      clear ho hB hm hm2
      have HT : Hid (tailB l n = headB l k ++ len8 (8 * n)) := Lib.hid (by rw [tailB_of, ← HN.out, ← HNN.out])
      have HPL : Hid ((headB l k).length ≤ 140737488351296) := Lib.hid (by have := HM.out; have := HM2.out; omega)
      obtain ⟨z, hz⟩ : ∃ z : Nat, z = 8 * n := ⟨_, rfl⟩
      have hz2 : 8 * (n : Int) = (z : Int) := by omega
      have hz3 : z ≤ 1125899906842624 := by omega
      rw [← hz] at HT
      have hlen8 : len8 z = [UInt8.ofNat (z >>> 56), UInt8.ofNat (z >>> 48), UInt8.ofNat (z >>> 40), UInt8.ofNat (z >>> 32), UInt8.ofNat (z >>> 24), UInt8.ofNat (z >>> 16), UInt8.ofNat (z >>> 8), UInt8.ofNat z] := rfl
      obtain ⟨b0, hb0⟩ : ∃ b, b = UInt8.ofNat (z >>> 56) := ⟨_, rfl⟩
      have f0 : IntKind.u8.wrap ((z : Int) / 72057594037927936) = (b0.toNat : Int) := by rw [hb0]; have := u8_part z 56; simpa using this
      obtain ⟨b1, hb1⟩ : ∃ b, b = UInt8.ofNat (z >>> 48) := ⟨_, rfl⟩
      have f1 : IntKind.u8.wrap ((z : Int) / 281474976710656) = (b1.toNat : Int) := by rw [hb1]; have := u8_part z 48; simpa using this
      obtain ⟨b2, hb2⟩ : ∃ b, b = UInt8.ofNat (z >>> 40) := ⟨_, rfl⟩
      have f2 : IntKind.u8.wrap ((z : Int) / 1099511627776) = (b2.toNat : Int) := by rw [hb2]; have := u8_part z 40; simpa using this
      obtain ⟨b3, hb3⟩ : ∃ b, b = UInt8.ofNat (z >>> 32) := ⟨_, rfl⟩
      have f3 : IntKind.u8.wrap ((z : Int) / 4294967296) = (b3.toNat : Int) := by rw [hb3]; have := u8_part z 32; simpa using this
      obtain ⟨b4, hb4⟩ : ∃ b, b = UInt8.ofNat (z >>> 24) := ⟨_, rfl⟩
      have f4 : IntKind.u8.wrap ((z : Int) / 16777216) = (b4.toNat : Int) := by rw [hb4]; have := u8_part z 24; simpa using this
      obtain ⟨b5, hb5⟩ : ∃ b, b = UInt8.ofNat (z >>> 16) := ⟨_, rfl⟩
      have f5 : IntKind.u8.wrap ((z : Int) / 65536) = (b5.toNat : Int) := by rw [hb5]; have := u8_part z 16; simpa using this
      obtain ⟨b6, hb6⟩ : ∃ b, b = UInt8.ofNat (z >>> 8) := ⟨_, rfl⟩
      have f6 : IntKind.u8.wrap ((z : Int) / 256) = (b6.toNat : Int) := by rw [hb6]; have := u8_part z 8; simpa using this
      obtain ⟨b7, hb7⟩ : ∃ b, b = UInt8.ofNat z := ⟨_, rfl⟩
      have f7 : IntKind.u8.wrap (z : Int) = (b7.toNat : Int) := by rw [hb7]; exact u8_at z
      rw [← hb0, ← hb1, ← hb2, ← hb3, ← hb4, ← hb5, ← hb6, ← hb7] at hlen8
      rw [hlen8] at HT
      have HZ := Lib.hid hz
      clear hlen8 hz hb0 hb1 hb2 hb3 hb4 hb5 hb6 hb7
      obtain ⟨P, hP⟩ : ∃ P, P = headB l k := ⟨_, rfl⟩
      rw [← hP] at HT HPL H3 HM
      clear hP
      go_wp2_with fail
      refine wp_loop_rounds 9 ?_
      have P0 := Lib.hid (H3.out.alloc (.cells #[.int .u8 b0.toNat] 5))
      have S0 : Hid (Sl (wr.alloc (.cells #[.int .u8 b0.toNat] 5)) (some ⟨wr.heap.size, 0, none⟩) 1 [b0]) := Lib.hid (Sl.made (l := [b0]) rfl (by simp))
      have C0 := Lib.hid (Below.alloc (o := (.cells #[.int .u8 b0.toNat] 5)) B3.out B3.out.size)
      have q0 : w.heap.size ≤ (wr.alloc (.cells #[.int .u8 b0.toNat] 5)).heap.size := C0.out.size
      rw [rounds_succ]
      go_wp2_with (first
        | (at_builtin; refine wpList_append_bys rfl (.tmp 30) (.tmp 36) rfl w.heap.size _ P rfl P0.out _ 1 1 [b0] rfl rfl S0.out.bys (fun h => by cases h) (by have := HPL.out; simp at this ⊢; omega) q0 ?_)
        | fail)
      intro v0 x0 ho hg _
      have D0 := Lib.hid (C0.out.grown hg q0 (fun k hk => (P0.out.lt k hk).1))
      obtain ⟨L0, hL0⟩ : ∃ L, L = P ++ [b0] := ⟨_, rfl⟩
      rw [← hL0] at ho
      obtain ⟨m0, hm0⟩ : ∃ x, x = L0.length := ⟨_, rfl⟩
      obtain ⟨A20, c20, hv, hs0⟩ := ho.bysN
      have HSL0 := Lib.hid hs0
      rw [← hm0] at hv
      have G0 := Lib.hid ho
      have HW0 : Hid (L0.length ≤ 140737488351297) := Lib.hid (by rw [hL0, List.length_append]; have := HPL.out; simp at this ⊢; omega)
      have HL0 := Lib.hid hL0
      have HQ0 := Lib.hid hm0
      clear ho hg hs0 hL0 hm0 P0 S0 C0 q0 H3 B3 f0
      subst hv
      go_wp2_with fail
      have P1 := Lib.hid (G0.out.alloc (.cells #[.int .u8 b1.toNat] 5))
      have S1 : Hid (Sl (x0.alloc (.cells #[.int .u8 b1.toNat] 5)) (some ⟨x0.heap.size, 0, none⟩) 1 [b1]) := Lib.hid (Sl.made (l := [b1]) rfl (by simp))
      have C1 := Lib.hid (Below.alloc (o := (.cells #[.int .u8 b1.toNat] 5)) D0.out D0.out.size)
      have q1 : w.heap.size ≤ (x0.alloc (.cells #[.int .u8 b1.toNat] 5)).heap.size := C1.out.size
      rw [rounds_succ]
      go_wp2_with (first
        | (at_builtin; refine wpList_append_bys rfl (.tmp 30) (.tmp 36) rfl w.heap.size _ L0 rfl P1.out _ 1 1 [b1] rfl rfl S1.out.bys (fun h => by cases h) (by have := HW0.out; simp at this ⊢; omega) q1 ?_)
        | fail)
      intro v1 x1 ho hg _
      have D1 := Lib.hid (C1.out.grown hg q1 (fun k hk => (P1.out.lt k hk).1))
      obtain ⟨L1, hL1⟩ : ∃ L, L = L0 ++ [b1] := ⟨_, rfl⟩
      rw [← hL1] at ho
      obtain ⟨m1, hm1⟩ : ∃ x, x = L1.length := ⟨_, rfl⟩
      obtain ⟨A21, c21, hv, hs1⟩ := ho.bysN
      have HSL1 := Lib.hid hs1
      rw [← hm1] at hv
      have G1 := Lib.hid ho
      have HW1 : Hid (L1.length ≤ 140737488351298) := Lib.hid (by rw [hL1, List.length_append]; have := HW0.out; simp at this ⊢; omega)
      have HL1 := Lib.hid hL1
      have HQ1 := Lib.hid hm1
      clear ho hg hs1 hL1 hm1 P1 S1 C1 q1 G0 D0 f1
      subst hv
      go_wp2_with fail
      have P2 := Lib.hid (G1.out.alloc (.cells #[.int .u8 b2.toNat] 5))
      have S2 : Hid (Sl (x1.alloc (.cells #[.int .u8 b2.toNat] 5)) (some ⟨x1.heap.size, 0, none⟩) 1 [b2]) := Lib.hid (Sl.made (l := [b2]) rfl (by simp))
      have C2 := Lib.hid (Below.alloc (o := (.cells #[.int .u8 b2.toNat] 5)) D1.out D1.out.size)
      have q2 : w.heap.size ≤ (x1.alloc (.cells #[.int .u8 b2.toNat] 5)).heap.size := C2.out.size
      rw [rounds_succ]
      go_wp2_with (first
        | (at_builtin; refine wpList_append_bys rfl (.tmp 30) (.tmp 36) rfl w.heap.size _ L1 rfl P2.out _ 1 1 [b2] rfl rfl S2.out.bys (fun h => by cases h) (by have := HW1.out; simp at this ⊢; omega) q2 ?_)
        | fail)
      intro v2 x2 ho hg _
      have D2 := Lib.hid (C2.out.grown hg q2 (fun k hk => (P2.out.lt k hk).1))
      obtain ⟨L2, hL2⟩ : ∃ L, L = L1 ++ [b2] := ⟨_, rfl⟩
      rw [← hL2] at ho
      obtain ⟨m2, hm2⟩ : ∃ x, x = L2.length := ⟨_, rfl⟩
      obtain ⟨A22, c22, hv, hs2⟩ := ho.bysN
      have HSL2 := Lib.hid hs2
      rw [← hm2] at hv
      have G2 := Lib.hid ho
      have HW2 : Hid (L2.length ≤ 140737488351299) := Lib.hid (by rw [hL2, List.length_append]; have := HW1.out; simp at this ⊢; omega)
      have HL2 := Lib.hid hL2
      have HQ2 := Lib.hid hm2
      clear ho hg hs2 hL2 hm2 P2 S2 C2 q2 G1 D1 f2
      subst hv
      go_wp2_with fail
      have P3 := Lib.hid (G2.out.alloc (.cells #[.int .u8 b3.toNat] 5))
      have S3 : Hid (Sl (x2.alloc (.cells #[.int .u8 b3.toNat] 5)) (some ⟨x2.heap.size, 0, none⟩) 1 [b3]) := Lib.hid (Sl.made (l := [b3]) rfl (by simp))
      have C3 := Lib.hid (Below.alloc (o := (.cells #[.int .u8 b3.toNat] 5)) D2.out D2.out.size)
      have q3 : w.heap.size ≤ (x2.alloc (.cells #[.int .u8 b3.toNat] 5)).heap.size := C3.out.size
      rw [rounds_succ]
      go_wp2_with (first
        | (at_builtin; refine wpList_append_bys rfl (.tmp 30) (.tmp 36) rfl w.heap.size _ L2 rfl P3.out _ 1 1 [b3] rfl rfl S3.out.bys (fun h => by cases h) (by have := HW2.out; simp at this ⊢; omega) q3 ?_)
        | fail)
      intro v3 x3 ho hg _
      have D3 := Lib.hid (C3.out.grown hg q3 (fun k hk => (P3.out.lt k hk).1))
      obtain ⟨L3, hL3⟩ : ∃ L, L = L2 ++ [b3] := ⟨_, rfl⟩
      rw [← hL3] at ho
      obtain ⟨m3, hm3⟩ : ∃ x, x = L3.length := ⟨_, rfl⟩
      obtain ⟨A23, c23, hv, hs3⟩ := ho.bysN
      have HSL3 := Lib.hid hs3
      rw [← hm3] at hv
      have G3 := Lib.hid ho
      have HW3 : Hid (L3.length ≤ 140737488351300) := Lib.hid (by rw [hL3, List.length_append]; have := HW2.out; simp at this ⊢; omega)
      have HL3 := Lib.hid hL3
      have HQ3 := Lib.hid hm3
      clear ho hg hs3 hL3 hm3 P3 S3 C3 q3 G2 D2 f3
      subst hv
      go_wp2_with fail
      have P4 := Lib.hid (G3.out.alloc (.cells #[.int .u8 b4.toNat] 5))
      have S4 : Hid (Sl (x3.alloc (.cells #[.int .u8 b4.toNat] 5)) (some ⟨x3.heap.size, 0, none⟩) 1 [b4]) := Lib.hid (Sl.made (l := [b4]) rfl (by simp))
      have C4 := Lib.hid (Below.alloc (o := (.cells #[.int .u8 b4.toNat] 5)) D3.out D3.out.size)
      have q4 : w.heap.size ≤ (x3.alloc (.cells #[.int .u8 b4.toNat] 5)).heap.size := C4.out.size
      rw [rounds_succ]
      go_wp2_with (first
        | (at_builtin; refine wpList_append_bys rfl (.tmp 30) (.tmp 36) rfl w.heap.size _ L3 rfl P4.out _ 1 1 [b4] rfl rfl S4.out.bys (fun h => by cases h) (by have := HW3.out; simp at this ⊢; omega) q4 ?_)
        | fail)
      intro v4 x4 ho hg _
      have D4 := Lib.hid (C4.out.grown hg q4 (fun k hk => (P4.out.lt k hk).1))
      obtain ⟨L4, hL4⟩ : ∃ L, L = L3 ++ [b4] := ⟨_, rfl⟩
      rw [← hL4] at ho
      obtain ⟨m4, hm4⟩ : ∃ x, x = L4.length := ⟨_, rfl⟩
      obtain ⟨A24, c24, hv, hs4⟩ := ho.bysN
      have HSL4 := Lib.hid hs4
      rw [← hm4] at hv
      have G4 := Lib.hid ho
      have HW4 : Hid (L4.length ≤ 140737488351301) := Lib.hid (by rw [hL4, List.length_append]; have := HW3.out; simp at this ⊢; omega)
      have HL4 := Lib.hid hL4
      have HQ4 := Lib.hid hm4
      clear ho hg hs4 hL4 hm4 P4 S4 C4 q4 G3 D3 f4
      subst hv
      go_wp2_with fail
      have P5 := Lib.hid (G4.out.alloc (.cells #[.int .u8 b5.toNat] 5))
      have S5 : Hid (Sl (x4.alloc (.cells #[.int .u8 b5.toNat] 5)) (some ⟨x4.heap.size, 0, none⟩) 1 [b5]) := Lib.hid (Sl.made (l := [b5]) rfl (by simp))
      have C5 := Lib.hid (Below.alloc (o := (.cells #[.int .u8 b5.toNat] 5)) D4.out D4.out.size)
      have q5 : w.heap.size ≤ (x4.alloc (.cells #[.int .u8 b5.toNat] 5)).heap.size := C5.out.size
      rw [rounds_succ]
      go_wp2_with (first
        | (at_builtin; refine wpList_append_bys rfl (.tmp 30) (.tmp 36) rfl w.heap.size _ L4 rfl P5.out _ 1 1 [b5] rfl rfl S5.out.bys (fun h => by cases h) (by have := HW4.out; simp at this ⊢; omega) q5 ?_)
        | fail)
      intro v5 x5 ho hg _
      have D5 := Lib.hid (C5.out.grown hg q5 (fun k hk => (P5.out.lt k hk).1))
      obtain ⟨L5, hL5⟩ : ∃ L, L = L4 ++ [b5] := ⟨_, rfl⟩
      rw [← hL5] at ho
      obtain ⟨m5, hm5⟩ : ∃ x, x = L5.length := ⟨_, rfl⟩
      obtain ⟨A25, c25, hv, hs5⟩ := ho.bysN
      have HSL5 := Lib.hid hs5
      rw [← hm5] at hv
      have G5 := Lib.hid ho
      have HW5 : Hid (L5.length ≤ 140737488351302) := Lib.hid (by rw [hL5, List.length_append]; have := HW4.out; simp at this ⊢; omega)
      have HL5 := Lib.hid hL5
      have HQ5 := Lib.hid hm5
      clear ho hg hs5 hL5 hm5 P5 S5 C5 q5 G4 D4 f5
      subst hv
      go_wp2_with fail
      have P6 := Lib.hid (G5.out.alloc (.cells #[.int .u8 b6.toNat] 5))
      have S6 : Hid (Sl (x5.alloc (.cells #[.int .u8 b6.toNat] 5)) (some ⟨x5.heap.size, 0, none⟩) 1 [b6]) := Lib.hid (Sl.made (l := [b6]) rfl (by simp))
      have C6 := Lib.hid (Below.alloc (o := (.cells #[.int .u8 b6.toNat] 5)) D5.out D5.out.size)
      have q6 : w.heap.size ≤ (x5.alloc (.cells #[.int .u8 b6.toNat] 5)).heap.size := C6.out.size
      rw [rounds_succ]
      go_wp2_with (first
        | (at_builtin; refine wpList_append_bys rfl (.tmp 30) (.tmp 36) rfl w.heap.size _ L5 rfl P6.out _ 1 1 [b6] rfl rfl S6.out.bys (fun h => by cases h) (by have := HW5.out; simp at this ⊢; omega) q6 ?_)
        | fail)
      intro v6 x6 ho hg _
      have D6 := Lib.hid (C6.out.grown hg q6 (fun k hk => (P6.out.lt k hk).1))
      obtain ⟨L6, hL6⟩ : ∃ L, L = L5 ++ [b6] := ⟨_, rfl⟩
      rw [← hL6] at ho
      obtain ⟨m6, hm6⟩ : ∃ x, x = L6.length := ⟨_, rfl⟩
      obtain ⟨A26, c26, hv, hs6⟩ := ho.bysN
      have HSL6 := Lib.hid hs6
      rw [← hm6] at hv
      have G6 := Lib.hid ho
      have HW6 : Hid (L6.length ≤ 140737488351303) := Lib.hid (by rw [hL6, List.length_append]; have := HW5.out; simp at this ⊢; omega)
      have HL6 := Lib.hid hL6
      have HQ6 := Lib.hid hm6
      clear ho hg hs6 hL6 hm6 P6 S6 C6 q6 G5 D5 f6
      subst hv
      go_wp2_with fail
      have P7 := Lib.hid (G6.out.alloc (.cells #[.int .u8 b7.toNat] 5))
      have S7 : Hid (Sl (x6.alloc (.cells #[.int .u8 b7.toNat] 5)) (some ⟨x6.heap.size, 0, none⟩) 1 [b7]) := Lib.hid (Sl.made (l := [b7]) rfl (by simp))
      have C7 := Lib.hid (Below.alloc (o := (.cells #[.int .u8 b7.toNat] 5)) D6.out D6.out.size)
      have q7 : w.heap.size ≤ (x6.alloc (.cells #[.int .u8 b7.toNat] 5)).heap.size := C7.out.size
      rw [rounds_succ]
      go_wp2_with (first
        | (at_builtin; refine wpList_append_bys rfl (.tmp 30) (.tmp 36) rfl w.heap.size _ L6 rfl P7.out _ 1 1 [b7] rfl rfl S7.out.bys (fun h => by cases h) (by have := HW6.out; simp at this ⊢; omega) q7 ?_)
        | fail)
      intro v7 x7 ho hg _
      have D7 := Lib.hid (C7.out.grown hg q7 (fun k hk => (P7.out.lt k hk).1))
      obtain ⟨L7, hL7⟩ : ∃ L, L = L6 ++ [b7] := ⟨_, rfl⟩
      rw [← hL7] at ho
      obtain ⟨m7, hm7⟩ : ∃ x, x = L7.length := ⟨_, rfl⟩
      obtain ⟨A27, c27, hv, hs7⟩ := ho.bysN
      have HSL7 := Lib.hid hs7
      rw [← hm7] at hv
      have G7 := Lib.hid ho
      have HW7 : Hid (L7.length ≤ 140737488351304) := Lib.hid (by rw [hL7, List.length_append]; have := HW6.out; simp at this ⊢; omega)
      have HL7 := Lib.hid hL7
      have HQ7 := Lib.hid hm7
      clear ho hg hs7 hL7 hm7 P7 S7 C7 q7 G6 D6 f7
      subst hv
      go_wp2_with fail
      rw [rounds_succ]
      have HE : Hid (L7 = padded l) := Lib.hid (by rw [HL7.out, HL6.out, HL5.out, HL4.out, HL3.out, HL2.out, HL1.out, HL0.out, padded_is, ← HN.out, HT.out]; simp)
      have hm64 : m7 % 64 = 0 := by rw [HQ7.out, HE.out]; exact padded_blocks l
      have hm7 : m7 ≤ 140737488351304 := by rw [HQ7.out]; exact HW7.out
      clear HT HPL HM HL0 HL1 HL2 HL3 HL4 HL5 HL6 HL7 HQ0 HQ1 HQ2 HQ3 HQ4 HQ5 HQ6 HW0 HW1 HW2 HW3 HW4 HW5 HW6 HW7
      have D8 := Lib.hid (Below.alloc (o := .cells #[.int .u32 1779033703, .int .u32 3144134277, .int .u32 1013904242, .int .u32 2773480762, .int .u32 1359893119, .int .u32 2600822924, .int .u32 528734635, .int .u32 1541459225] 25) D7.out D7.out.size)
      have V8' : Hid (S8 (x7.alloc (.cells #[.int .u32 1779033703, .int .u32 3144134277, .int .u32 1013904242, .int .u32 2773480762, .int .u32 1359893119, .int .u32 2600822924, .int .u32 528734635, .int .u32 1541459225] 25)) w.heap.size (.slice (some ⟨x7.heap.size, 0, none⟩) 8 8) firstV) := Lib.hid (S8.new firstV D7.out.size)
      have G8 := Lib.hid (G7.out.alloc (.cells #[.int .u32 1779033703, .int .u32 3144134277, .int .u32 1013904242, .int .u32 2773480762, .int .u32 1359893119, .int .u32 2600822924, .int .u32 528734635, .int .u32 1541459225] 25))
      clear D7 G7
      clear HSL0 HSL1 HSL2 HSL3 HSL4 HSL5 HSL6
      have SL8 := Lib.hid (HSL7.out.on (Below.alloc (o := .cells #[.int .u32 1779033703, .int .u32 3144134277, .int .u32 1013904242, .int .u32 2773480762, .int .u32 1359893119, .int .u32 2600822924, .int .u32 528734635, .int .u32 1541459225] 25) (Below.refl x7.heap.size x7) (Nat.le_refl _)))
      clear HSL7 G8
      go_wp2_with fail
      go_loopw [6, 7] (fun v6 v7 wr => ∃ k : Nat, v7 = .int .i64 (64 * k : Nat) ∧ 64 * k ≤ m7 ∧ S8 wr w.heap.size v6 (stateAt L7 k) ∧ Sl wr A27 c27 L7 ∧ Below w.heap.size w wr) (fun _ v7 _ => m7 - (match v7 with | .int _ i => i.toNat | _ => 0))
      case atStart => exact ⟨0, rfl, Nat.zero_le _, V8'.out, SL8.out, D8.out⟩
      case round =>
        obtain ⟨k, rfl, hk, h8, hS, hB⟩ := hrel
        rename World => wo
        clear D8 V8' SL8
        obtain ⟨i, hi⟩ : ∃ i, i = 64 * k := ⟨_, rfl⟩
        rw [← hi] at hk ⊢
        have szr := hB.size
        by_cases hlt : i < m7
        · have hlt' : (i : Int) < (m7 : Int) := by omega
          have hi64 : i + 64 ≤ m7 := by omega
          obtain ⟨A', run, s'⟩ := hS.mid i 64 (i : Int) ((i : Int) + 64) (by rw [← HQ7.out]; exact hi64) rfl (by omega)
          have l64 : ((L7.drop i).take 64).length = 64 := by rw [List.length_take, List.length_drop, ← HQ7.out]; omega
          rw [l64, ← HQ7.out] at run
          have DB := Lib.hid (docBlock_any _ (stateAt L7 k) (stateAt_ok L7 k) A' ((L7.drop i).take 64) (c27 - i) wo h8.low s'.bys l64 (by have := s'.le; omega) s'.max)
          have HS := Lib.hid hS
          have HBR := Lib.hid hB
          have HI := Lib.hid hi
          clear h8 hS hB hi l64 s'
          go_wp2_with fail
          refine DB.out.mono ?_
          rintro e w2 ⟨⟨v, rfl, h9⟩, k2⟩
          have H9 : Hid (S8 w2 w.heap.size v (stateAt L7 (k + 1))) := Lib.hid (by
            have := h9.mono szr
            rw [HI.out] at this
            exact this)
          have S9 := Lib.hid (HS.out.on k2)
          have B9 := Lib.hid (Below.trans HBR.out (k2.mono szr))
          clear h9 k2 DB HS HBR
          go_wp2_with fail
          go_roundw
          case rel => exact ⟨k + 1, by have := HI.out; go_num, by have := HI.out; omega, H9.out, S9.out, B9.out⟩
          case measure => simp; omega
        · have hlt' : ¬ (i : Int) < (m7 : Int) := by omega
          obtain ⟨gh, ch, rfl, hgb, hgl, hc8, hcm, hcell⟩ := h8.at
          obtain ⟨V, hV⟩ : ∃ V, V = stateAt L7 k := ⟨_, rfl⟩
          rw [← hV] at hcell
          have hVok : V.Ok := by rw [hV]; exact stateAt_ok L7 k
          have HSH : Hid (sha l = outB V 8) := Lib.hid (by
            unfold sha outB
            rw [← HE.out, ← HQ7.out, hV, show m7 / 64 = k by omega]
            rfl)
          have HC := Lib.hid hcell
          have HBR := Lib.hid hB
          clear h8 hS hB hcell hV hi hlt hm64 HE HQ7
          go_wp2_with fail
          go_loopw [8, 54] (fun v8 v54 w3 => ∃ j : Nat, v54 = .int .i64 j ∧ j ≤ 8 ∧ OwnB w3 wo.heap.size v8 (outB V j) ∧ Below wo.heap.size wo w3) (fun _ v54 _ => 8 - (match v54 with | .int _ i => i.toNat | _ => 0))
          case atStart => exact ⟨0, rfl, by omega, .inl ⟨rfl, rfl⟩, Below.refl _ _⟩
          case round =>
            obtain ⟨j, rfl, hj, ho, hk3⟩ := hrel
            have hw3 := hk3.size
            by_cases hj8 : j < 8
            · have hj8' : (j : Int) < 8 := by omega
              have C1 := cell_on (HC.out j hj8) hk3
              have hx := hVok.at j hj8
              have hsu := outB_succ V j hj8
              have hln := outB_len V j hj
              obtain ⟨x, hx0⟩ : ∃ x, x = V.list.getD j 0 := ⟨_, rfl⟩
              rw [← hx0] at C1 hx hsu
              obtain ⟨e0, he0⟩ : ∃ b, b = UInt8.ofNat (x >>> 24) := ⟨_, rfl⟩
              obtain ⟨e1, he1⟩ : ∃ b, b = UInt8.ofNat (x >>> 16) := ⟨_, rfl⟩
              obtain ⟨e2, he2⟩ : ∃ b, b = UInt8.ofNat (x >>> 8) := ⟨_, rfl⟩
              obtain ⟨e3, he3⟩ : ∃ b, b = UInt8.ofNat x := ⟨_, rfl⟩
              have f0 : IntKind.u8.wrap ((x : Int) / 16777216) = (e0.toNat : Int) := by rw [he0]; have := u8_part x 24; simpa using this
              have f1 : IntKind.u8.wrap ((x : Int) / 65536) = (e1.toNat : Int) := by rw [he1]; have := u8_part x 16; simpa using this
              have f2 : IntKind.u8.wrap ((x : Int) / 256) = (e2.toNat : Int) := by rw [he2]; have := u8_part x 8; simpa using this
              have f3 : IntKind.u8.wrap (x : Int) = (e3.toNat : Int) := by rw [he3]; exact u8_at x
              have hb4 : bytes4 x = [e0, e1, e2, e3] := by rw [he0, he1, he2, he3]; rfl
              rw [hb4] at hsu
              obtain ⟨A8, c8, rfl, -⟩ := ho.bysN
              obtain ⟨P8, hP8⟩ : ∃ P, P = outB V j := ⟨_, rfl⟩
              rw [← hP8] at ho hsu hln
              rw [← hP8]
              obtain ⟨m8, hm8⟩ : ∃ m, m = P8.length := ⟨_, rfl⟩
              rw [← hm8] at ho
              rw [← hm8]
              have O4 := Lib.hid (ho.alloc (.cells #[.int .u8 e0.toNat, .int .u8 e1.toNat, .int .u8 e2.toNat, .int .u8 e3.toNat] 5))
              have S4 := Lib.hid (Sl.made (w := wr) (t := 5) (l := [e0, e1, e2, e3]) (cs := #[.int .u8 e0.toNat, .int .u8 e1.toNat, .int .u8 e2.toNat, .int .u8 e3.toNat]) rfl (by simp))
              have K4 := Lib.hid (Below.alloc (o := .cells #[.int .u8 e0.toNat, .int .u8 e1.toNat, .int .u8 e2.toNat, .int .u8 e3.toNat] 5) hk3 hk3.size)
              have HSU := Lib.hid hsu
              have HLN := Lib.hid hln
              have q4 : wo.heap.size ≤ (wr.alloc (.cells #[.int .u8 e0.toNat, .int .u8 e1.toNat, .int .u8 e2.toNat, .int .u8 e3.toNat] 5)).heap.size := by simp; omega
              clear hb4 he0 he1 he2 he3 hx0 hP8 hm8 ho hk3 hsu hln
              go_wp2_with (first
                | (at_builtin; refine wpList_append_bys rfl (.tmp 58) (.tmp 70) rfl wo.heap.size _ P8 rfl O4.out _ 4 4 [e0, e1, e2, e3] rfl rfl S4.out.bys (fun h => by cases h) (by have := HLN.out; simp; omega) q4 ?_)
                | fail)
              intro v9 w9 ho9 hg9 _
              have H9 : Hid (OwnB w9 wo.heap.size v9 (outB V (j + 1))) := Lib.hid (by rw [HSU.out]; exact ho9)
              have K9 := Lib.hid (K4.out.grown hg9 q4 (fun k hk => (O4.out.lt k hk).1))
              clear ho9 hg9 O4 S4 K4
              go_wp2_with fail
              go_roundw
              case rel => exact ⟨j + 1, by go_num, by omega, H9.out, K9.out⟩
              case measure => simp; omega
            · have hj8' : ¬ (j : Int) < 8 := by omega
              have hj88 : j = 8 := by omega
              subst hj88
              have HF : Hid (OwnB _ w.heap.size _ (sha l)) := Lib.hid (by rw [HSH.out]; exact ho.mono szr)
              have KF := Lib.hid (Below.trans HBR.out (hk3.mono szr))
              clear ho hk3 HSH HC HBR
              go_wp2_with fail
              go_ret
              exact ⟨_, rfl, HF.out, KF.out⟩
    · have hr : ¬ m % 64 = 56 := by rw [hm2]; exact noughts_least (by have := HNN.out; omega)
      obtain ⟨r, hr0⟩ : ∃ r, r = m % 64 := ⟨_, rfl⟩
      rw [← hr0] at hrem hr
      have hr1 : ¬ (r : Int) = 56 := by omega
      have hr2 : ((r : Int) != 56) = true := by simpa using hr1
      have O4 := Lib.hid (ho.alloc (.cells #[.int .u8 0] 5))
      have S4 : Hid (Sl (wr.alloc (.cells #[.int .u8 0] 5)) (some ⟨wr.heap.size, 0, none⟩) 1 [0]) := Lib.hid (Sl.made (l := [0]) rfl (by decide))
      have HM2 := Lib.hid hm2
      have hm3 : m ≤ 140737488351296 := by omega
      clear hm2
      have B4 := Lib.hid (Below.alloc (o := .cells #[.int .u8 0] 5) hB sz)
      have hs4 : w.heap.size ≤ (wr.alloc (.cells #[.int .u8 0] 5)).heap.size := B4.out.size
      clear ho hB hm hr hr0
      go_wp2_with (first
        | (at_builtin; refine wpList_append_bys rfl (.tmp 20) (.tmp 21) rfl w.heap.size _ (headB l k) rfl O4.out _ 1 1 [0] rfl rfl S4.out.bys (fun h => by cases h) (by have := HM.out; simp at this ⊢; omega) hs4 ?_)
        | fail)
      intro v6 w6 ho6 hg6 _
      have H6 : Hid (OwnB w6 w.heap.size v6 (headB l (k + 1))) := Lib.hid (by rw [← headB_succ]; exact ho6)
      have B6 := Lib.hid (B4.out.grown hg6 hs4 (fun k hk => (O4.out.lt k hk).1))
      obtain ⟨A6, c6, hv6, -⟩ := H6.out.bysN
      rw [headB_len, ← HN.out] at hv6
      subst hv6
      clear ho6 hg6 O4 S4 B4
      go_wp2_with fail
      go_roundw
      case rel => exact ⟨k + 1, by omega, H6.out, B6.out⟩
      case measure => have := HM2.out; simp only [lenV]; omega
end Go.Proofs.YtkpnhbjdpbjfjaaDoor
