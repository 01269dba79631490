/-
  The walk of HeaderReads.
-/
import Derived.Test.YtigpkcpdccgnfaaDoorHdU
import Derived.Test.YtigpkcpdccgnfaaDoorHdV
import Derived.Test.YtigpkcpdccgnfaaDoorHdN
import Derived.Test.YtigpkcpdccgnfaaDoorHdY
namespace Go.Proofs.YtigpkcpdccgnfaaDoor
open Go.RowKit

theorem Words.of (z : Nat → Int) : Words z (z 0 * 256 + z 1) (z 2 * 256 + z 3) (z 4 * 256 + z 5) (z 6 * 256 + z 7) (z 8 * 256 + z 9) (z 10 * 256 + z 11) := ⟨rfl, rfl, rfl, rfl, rfl, rfl⟩

/-- Twelve bytes of a slice of whatever length. -/
theorem Bytes.twelve {w : World} {bk off n : Nat} {xs : List Int} (h : Bytes w (Option.some ⟨bk, off, none⟩) n xs) (hn : 12 ≤ n) (hb : ∀ i : Nat, 0 ≤ xs[i]?.getD 0 ∧ xs[i]?.getD 0 ≤ 255) : Twelve w bk off (fun i => xs[i]?.getD 0) := by
  refine ⟨fun i hi => ?_, hb, h.lt _ rfl (by omega)⟩
  have hp : (⟨bk, off, none⟩ : Addr).add i = ⟨bk, off + i, none⟩ := by unfold Addr.add; split <;> simp_all
  have := h.at' _ rfl i (by omega)
  rw [hp, List.getD_eq_getElem?_getD] at this
  exact this

theorem one_bit (F m : Int) (i : Nat) (hm : ((2 ^ i : Nat) : Int) = m) (hi : 2 ^ i < 9223372036854775808) (h0 : 0 ≤ F) (h1 : F < 9223372036854775808) : (bits .and .i64 (F / m) 1 == 1) = (bits .and .i64 F m != 0) := by
  have e1 := bit_of i m F hm hi h0 h1
  have hp : 0 < m := by have := Nat.two_pow_pos i; omega
  have hd : 0 ≤ F / m := Int.ediv_nonneg h0 (by omega)
  have hd2 : F / m ≤ F := Int.ediv_le_self _ h0
  have e2 := bits_mask .i64 63 (by decide) wraps_i64 1 (by decide) (F / m) hd (by omega)
  have e3 : bits .and .i64 (F / m) 1 = F / m % 2 := by simpa using e2
  rw [e3]
  have hb : F / m % 2 = 0 ∨ F / m % 2 = 1 := by omega
  cases hc : (bits .and .i64 F m != 0)
  · rw [hc, bi_false] at e1
    rw [← e1]; rfl
  · rw [hc, bi_true] at e1
    rw [← e1]; rfl

theorem and7 (F : Int) (h0 : 0 ≤ F) (h1 : F < 9223372036854775808) : bits .and .i64 (F / 16) 7 = F / 16 % 8 := by
  have := bits_mask .i64 63 (by decide) wraps_i64 3 (by decide) (F / 16) (by omega) (by omega)
  simpa using this

/-- What both Decodes make of the same bytes. -/
theorem Dcd.bits {z : Nat → Int} {i : Int} {r : Bool} {o : Int} {aa tc rd ra : Bool} {c n0 n1 n2 n3 : Int} (hD : Dcd z i r o aa tc rd ra c n0 n1 n2 n3) (b2 : 0 ≤ z 2 ∧ z 2 ≤ 255) (b3 : 0 ≤ z 3 ∧ z 3 ≤ 255) : Bits (z 2 * 256 + z 3) r o aa tc rd ra c := by
  obtain ⟨e0, e1, e2, e3, e4, e5, e6, e7, e8, e9, e10, e11⟩ := hD.all
  refine ⟨?_, e2.symm, ?_, ?_, ?_, ?_, e7.symm⟩
  · rw [e1]; exact one_bit _ 32768 15 (by decide) (by decide) (by omega) (by omega)
  · rw [e3]; exact one_bit _ 1024 10 (by decide) (by decide) (by omega) (by omega)
  · rw [e4]; exact one_bit _ 512 9 (by decide) (by decide) (by omega) (by omega)
  · rw [e5]; exact one_bit _ 256 8 (by decide) (by decide) (by omega) (by omega)
  · rw [e6]; exact one_bit _ 128 7 (by decide) (by decide) (by omega) (by omega)

theorem Bytes.place {w : World} {a : Option Addr} {n : Nat} {xs : List Int} (h : Bytes w a n xs) (hn : 12 ≤ n) : ∃ bk off, a = Option.some ⟨bk, off, none⟩ := by
  cases a with
  | none => have := h.nil0 rfl; omega
  | some p =>
    obtain ⟨b, off, spot⟩ := p
    have hs : spot = none := by simpa [Addr.add] using World.cell?_spot (h.at' _ rfl 0 (by omega))
    subst hs
    exact ⟨b, off, rfl⟩

theorem Clone_12 (bk off n c : Nat) (xs : List Int) (w : World) (h : Bytes w (some ⟨bk, off, none⟩) n xs) (hn : 12 ≤ n) (hb : ∀ i : Nat, 0 ≤ xs[i]?.getD 0 ∧ xs[i]?.getD 0 ≤ 255) :
    Calls Tryd.prog 11 #[.slice (some ⟨bk, off, none⟩) n c] w fun e w' => ∃ g o c', e = .returned (.slice (some ⟨g, o, none⟩) n c') ∧ Twelve w' g o (fun i => xs[i]?.getD 0) ∧ Bytes w' (some ⟨g, o, none⟩) n xs ∧ Below w.heap.size w w' := by
  refine (Clone_any (some ⟨bk, off, none⟩) n c xs w h).mono fun e w' ⟨a', c', he, h1, hB⟩ => ?_
  obtain ⟨g, o, rfl⟩ := h1.place hn
  exact ⟨g, o, c', he, h1.twelve hn hb, h1, hB⟩

set_option maxHeartbeats 2000000 in
set_option maxRecDepth 100000 in
theorem Reads_short (a : Option Addr) (n c : Nat) (xs : List Int) (w : World) (hm : Masks w) (h : Bytes w a n xs) (hn : (n : Int) < 12) :
    Calls Tryd.prog 4 #[.slice a n c] w fun e w' => e = .returned (.bool true) ∧ Below w.heap.size w w' := by
  have qc := eql_ct
  have qd := eq_ct
  go_enter Tryd.func4, Tryd.ntmps4
  go_wp2_with fail
  refine (Clone_any a n c xs w h).mono ?_
  rintro e w1 ⟨a', c', rfl, h1, hB1⟩
  go_wp2_with fail
  refine (Decode_short a' n c' w1 hn).mono ?_
  rintro e w2 ⟨rfl, hB2⟩
  have hB := hB1.trans (hB2.mono hB1.size)
  have h2 := h1.below hB2
  clear hB1 hB2 h1
  go_wp2_with fail
  have sB := hB.size
  refine (refDecode_short a n c _ hn).mono ?_
  rintro e w3 ⟨rfl, hB3⟩
  have s0 : w2.heap.size < w3.heap.size := by have := hB3.size; simp at this; omega
  have s1 : w2.heap.size + 1 < w3.heap.size := by have := hB3.size; simp at this; omega
  have c4 := cells8 ((hB3.block w2.heap.size (by simp; omega)).trans (rows2 w2 _ _ 0).1)
  have c5 := cells4 ((hB3.block (w2.heap.size + 1) (by simp)).trans (rows2 w2 _ _ 0).2)
  have hC : Below w.heap.size w w3 := Below.trans hB (Below.trans (by (repeat first | (with_reducible exact Below.refl _ _) | (with_reducible assumption) | (with_reducible refine below_drewN ?_ _) | (with_reducible refine Below.drew ?_) | (with_reducible refine Below.alloc ?_ (by go_size) _) | (with_reducible refine Below.setCell ?_ (by go_size) _))) (hB3.mono (by simp; omega)))
  have h3 : Bytes w3 _ n xs := h2.below (Below.trans (by (repeat first | (with_reducible exact Below.refl _ _) | (with_reducible assumption) | (with_reducible refine below_drewN ?_ _) | (with_reducible refine Below.drew ?_) | (with_reducible refine Below.alloc ?_ (by go_size) _) | (with_reducible refine Below.setCell ?_ (by go_size) _))) (hB3.mono (by simp; omega)))
  have hb3 : Bytes w3 _ n xs := h.below hC
  have sC := hC.size
  clear hB3 hB h2 sB
  go_wp2_with fail
  refine (Equal_same _ _ (strOfNums xs) _ (Bytes.string (h3.below (by (repeat first | (with_reducible exact Below.refl _ _) | (with_reducible assumption) | (with_reducible refine below_drewN ?_ _) | (with_reducible refine Below.drew ?_) | (with_reducible refine Below.alloc ?_ (by go_size) _) | (with_reducible refine Below.setCell ?_ (by go_size) _))))) (Bytes.string (hb3.below (by (repeat first | (with_reducible exact Below.refl _ _) | (with_reducible assumption) | (with_reducible refine below_drewN ?_ _) | (with_reducible refine Below.drew ?_) | (with_reducible refine Below.alloc ?_ (by go_size) _) | (with_reducible refine Below.setCell ?_ (by go_size) _)))))).mono ?_
  rintro e w4 ⟨rfl, rfl⟩
  clear c4 c5 h3 hb3
  go_wp2_with fail
  refine (awake_any _ (hm.below (Below.trans hC (Below.mono (B := w3.heap.size) (by (repeat first | (with_reducible exact Below.refl _ _) | (with_reducible assumption) | (with_reducible refine below_drewN ?_ _) | (with_reducible refine Below.drew ?_) | (with_reducible refine Below.alloc ?_ (by go_size) _) | (with_reducible refine Below.setCell ?_ (by go_size) _))) sC)))).mono ?_
  rintro e w5 ⟨rfl, hB5⟩
  have hE : Below w.heap.size w w5 := Below.trans hC (Below.trans (Below.mono (B := w3.heap.size) (by (repeat first | (with_reducible exact Below.refl _ _) | (with_reducible assumption) | (with_reducible refine below_drewN ?_ _) | (with_reducible refine Below.drew ?_) | (with_reducible refine Below.alloc ?_ (by go_size) _) | (with_reducible refine Below.setCell ?_ (by go_size) _))) sC) (hB5.mono (by simp; omega)))
  clear hB5 hC
  go_wp2_with fail
  go_ret
  exact ⟨by simp, hE⟩

set_option maxHeartbeats 2000000 in
set_option maxRecDepth 100000 in
theorem Reads_bits (bk off n c : Nat) (xs : List Int) (w : World) (hm : Masks w) (h : Bytes w (some ⟨bk, off, none⟩) n xs) (hn : 12 ≤ (n : Int)) (hl : n ≤ 9223372036854775807) (hb : ∀ i : Nat, 0 ≤ xs[i]?.getD 0 ∧ xs[i]?.getD 0 ≤ 255) (hz : bits .and .i64 (xs[2]?.getD 0 * 256 + xs[3]?.getD 0) 112 ≠ 0) :
    Calls Tryd.prog 4 #[.slice (some ⟨bk, off, none⟩) n c] w fun e w' => e = .returned (.bool true) ∧ Below w.heap.size w w' := by
  have b2 := hb 2
  have b3 := hb 3
  have ht := h.twelve (by omega) hb
  have hz7 : (bits .and .i64 ((xs[2]?.getD 0 * 256 + xs[3]?.getD 0) / 16) 7 != 0) = true := by
    rw [and112 _ (by omega) (by omega)] at hz
    rw [and7 _ (by omega) (by omega), bne_iff_ne]
    omega
  have HZ := Lib.hid hz
  have HZ7 := Lib.hid hz7
  clear hz hz7
  have qc := eql_ct
  have qd := eq_ct
  go_enter Tryd.func4, Tryd.ntmps4
  go_wp2_with fail
  refine (Clone_12 bk off n c xs w h (by omega) hb).mono ?_
  rintro e w1 ⟨g, o, c', rfl, ht1, h1, hB1⟩
  go_wp2_with fail
  refine (Decode_bits g o n c' (fun i => xs[i]?.getD 0) w1 hn hl (hm.below hB1) ht1 HZ.out).mono ?_
  rintro e w2 ⟨rfl, hB2⟩
  have hB := hB1.trans (hB2.mono hB1.size)
  have h2 := h1.below hB2
  clear hB1 hB2 h1
  go_wp2_with fail
  have sB := hB.size
  refine (refDecode_bits bk off n c (fun i => xs[i]?.getD 0) (xs[0]?.getD 0 * 256 + xs[1]?.getD 0) (xs[2]?.getD 0 * 256 + xs[3]?.getD 0) (xs[4]?.getD 0 * 256 + xs[5]?.getD 0) (xs[6]?.getD 0 * 256 + xs[7]?.getD 0) (xs[8]?.getD 0 * 256 + xs[9]?.getD 0) (xs[10]?.getD 0 * 256 + xs[11]?.getD 0) _ hn hl (ht.below (Below.trans hB (Below.mono (B := w2.heap.size) (by (repeat first | (with_reducible exact Below.refl _ _) | (with_reducible assumption) | (with_reducible refine below_drewN ?_ _) | (with_reducible refine Below.drew ?_) | (with_reducible refine Below.alloc ?_ (by go_size) _) | (with_reducible refine Below.setCell ?_ (by go_size) _))) sB))) (Words.of (fun i => xs[i]?.getD 0)) HZ7.out (by constructor <;> omega)).mono ?_
  rintro e w3 ⟨rfl, hB3⟩
  have s0 : w2.heap.size < w3.heap.size := by have := hB3.size; simp at this; omega
  have s1 : w2.heap.size + 1 < w3.heap.size := by have := hB3.size; simp at this; omega
  have c4 := cells8 ((hB3.block w2.heap.size (by simp; omega)).trans (rows2 w2 _ _ 0).1)
  have c5 := cells4 ((hB3.block (w2.heap.size + 1) (by simp)).trans (rows2 w2 _ _ 0).2)
  have hC : Below w.heap.size w w3 := Below.trans hB (Below.trans (by (repeat first | (with_reducible exact Below.refl _ _) | (with_reducible assumption) | (with_reducible refine below_drewN ?_ _) | (with_reducible refine Below.drew ?_) | (with_reducible refine Below.alloc ?_ (by go_size) _) | (with_reducible refine Below.setCell ?_ (by go_size) _))) (hB3.mono (by simp; omega)))
  have h3 : Bytes w3 _ n xs := h2.below (Below.trans (by (repeat first | (with_reducible exact Below.refl _ _) | (with_reducible assumption) | (with_reducible refine below_drewN ?_ _) | (with_reducible refine Below.drew ?_) | (with_reducible refine Below.alloc ?_ (by go_size) _) | (with_reducible refine Below.setCell ?_ (by go_size) _))) (hB3.mono (by simp; omega)))
  have hb3 : Bytes w3 _ n xs := h.below hC
  have sC := hC.size
  clear hB3 hB h2 sB
  go_wp2_with fail
  refine (Equal_same _ _ (strOfNums xs) _ (Bytes.string (h3.below (by (repeat first | (with_reducible exact Below.refl _ _) | (with_reducible assumption) | (with_reducible refine below_drewN ?_ _) | (with_reducible refine Below.drew ?_) | (with_reducible refine Below.alloc ?_ (by go_size) _) | (with_reducible refine Below.setCell ?_ (by go_size) _))))) (Bytes.string (hb3.below (by (repeat first | (with_reducible exact Below.refl _ _) | (with_reducible assumption) | (with_reducible refine below_drewN ?_ _) | (with_reducible refine Below.drew ?_) | (with_reducible refine Below.alloc ?_ (by go_size) _) | (with_reducible refine Below.setCell ?_ (by go_size) _)))))).mono ?_
  rintro e w4 ⟨rfl, rfl⟩
  clear c4 c5 h3 hb3
  go_wp2_with fail
  refine (awake_any _ (hm.below (Below.trans hC (Below.mono (B := w3.heap.size) (by (repeat first | (with_reducible exact Below.refl _ _) | (with_reducible assumption) | (with_reducible refine below_drewN ?_ _) | (with_reducible refine Below.drew ?_) | (with_reducible refine Below.alloc ?_ (by go_size) _) | (with_reducible refine Below.setCell ?_ (by go_size) _))) sC)))).mono ?_
  rintro e w5 ⟨rfl, hB5⟩
  have hE : Below w.heap.size w w5 := Below.trans hC (Below.trans (Below.mono (B := w3.heap.size) (by (repeat first | (with_reducible exact Below.refl _ _) | (with_reducible assumption) | (with_reducible refine below_drewN ?_ _) | (with_reducible refine Below.drew ?_) | (with_reducible refine Below.alloc ?_ (by go_size) _) | (with_reducible refine Below.setCell ?_ (by go_size) _))) sC) (hB5.mono (by simp; omega)))
  clear hB5 hC
  go_wp2_with fail
  go_ret
  exact ⟨by simp, hE⟩

set_option maxHeartbeats 2000000 in
set_option maxRecDepth 100000 in
theorem Reads_ok (bk off n c : Nat) (xs : List Int) (w : World) (hm : Masks w) (h : Bytes w (some ⟨bk, off, none⟩) n xs) (hn : 12 ≤ (n : Int)) (hl : n ≤ 9223372036854775807) (hb : ∀ i : Nat, 0 ≤ xs[i]?.getD 0 ∧ xs[i]?.getD 0 ≤ 255) (hz : bits .and .i64 (xs[2]?.getD 0 * 256 + xs[3]?.getD 0) 112 = 0) :
    Calls Tryd.prog 4 #[.slice (some ⟨bk, off, none⟩) n c] w fun e w' => e = .returned (.bool true) ∧ Below w.heap.size w w' := by
  have b2 := hb 2
  have b3 := hb 3
  have ht := h.twelve (by omega) hb
  have hz7 : (bits .and .i64 ((xs[2]?.getD 0 * 256 + xs[3]?.getD 0) / 16) 7 != 0) = false := by
    rw [and112 _ (by omega) (by omega)] at hz
    rw [and7 _ (by omega) (by omega), bne_eq_false_iff_eq]
    omega
  obtain ⟨i, r, o', aa, tc, rd, ra, c', n0, n1, n2, n3, hD⟩ := Dcd.of (fun i => xs[i]?.getD 0)
  have hBt : Bits (xs[2]?.getD 0 * 256 + xs[3]?.getD 0) r o' aa tc rd ra c' := hD.bits (hb 2) (hb 3)
  obtain ⟨k0, k8, k9, k10, k11⟩ : (xs[0]?.getD 0 * 256 + xs[1]?.getD 0 = i) ∧ (xs[4]?.getD 0 * 256 + xs[5]?.getD 0 = n0) ∧ (xs[6]?.getD 0 * 256 + xs[7]?.getD 0 = n1) ∧ (xs[8]?.getD 0 * 256 + xs[9]?.getD 0 = n2) ∧ (xs[10]?.getD 0 * 256 + xs[11]?.getD 0 = n3) := by
    obtain ⟨e0, e1, e2, e3, e4, e5, e6, e7, e8, e9, e10, e11⟩ := hD.all
    exact ⟨e0.symm, e8.symm, e9.symm, e10.symm, e11.symm⟩
  have hWd : Words (fun i => xs[i]?.getD 0) i (xs[2]?.getD 0 * 256 + xs[3]?.getD 0) n0 n1 n2 n3 := ⟨k0, rfl, k8, k9, k10, k11⟩
  have HZ := Lib.hid hz
  have HZ7 := Lib.hid hz7
  clear hz hz7 k0 k8 k9 k10 k11
  have qc := eql_ct
  have qd := eq_ct
  go_enter Tryd.func4, Tryd.ntmps4
  go_wp2_with fail
  refine (Clone_12 bk off n c xs w h (by omega) hb).mono ?_
  rintro e w1 ⟨g, o, c1, rfl, ht1, h1, hB1⟩
  go_wp2_with fail
  refine (Decode_ok g o n c1 (fun i => xs[i]?.getD 0) i r o' aa tc rd ra c' n0 n1 n2 n3 hD w1 hn hl (hm.below hB1) ht1 HZ.out).mono ?_
  rintro e w2 ⟨rfl, hB2⟩
  have hB := hB1.trans (hB2.mono hB1.size)
  have h2 := h1.below hB2
  clear hB1 hB2 h1
  go_wp2_with fail
  have sB := hB.size
  refine (refDecode_ok bk off n c (fun i => xs[i]?.getD 0) i (xs[2]?.getD 0 * 256 + xs[3]?.getD 0) n0 n1 n2 n3 r o' aa tc rd ra c' _ hn hl (ht.below (Below.trans hB (Below.mono (B := w2.heap.size) (by (repeat first | (with_reducible exact Below.refl _ _) | (with_reducible assumption) | (with_reducible refine below_drewN ?_ _) | (with_reducible refine Below.drew ?_) | (with_reducible refine Below.alloc ?_ (by go_size) _) | (with_reducible refine Below.setCell ?_ (by go_size) _))) sB))) hWd HZ7.out (by constructor <;> omega) hBt).mono ?_
  rintro e w3 ⟨rfl, hB3⟩
  have s0 : w2.heap.size < w3.heap.size := by have := hB3.size; simp at this; omega
  have s1 : w2.heap.size + 1 < w3.heap.size := by have := hB3.size; simp at this; omega
  have c4 := cells8 ((hB3.block w2.heap.size (by simp; omega)).trans (rows2 w2 _ _ 0).1)
  have c5 := cells4 ((hB3.block (w2.heap.size + 1) (by simp)).trans (rows2 w2 _ _ 0).2)
  have hC : Below w.heap.size w w3 := Below.trans hB (Below.trans (by (repeat first | (with_reducible exact Below.refl _ _) | (with_reducible assumption) | (with_reducible refine below_drewN ?_ _) | (with_reducible refine Below.drew ?_) | (with_reducible refine Below.alloc ?_ (by go_size) _) | (with_reducible refine Below.setCell ?_ (by go_size) _))) (hB3.mono (by simp; omega)))
  have h3 : Bytes w3 _ n xs := h2.below (Below.trans (by (repeat first | (with_reducible exact Below.refl _ _) | (with_reducible assumption) | (with_reducible refine below_drewN ?_ _) | (with_reducible refine Below.drew ?_) | (with_reducible refine Below.alloc ?_ (by go_size) _) | (with_reducible refine Below.setCell ?_ (by go_size) _))) (hB3.mono (by simp; omega)))
  have hb3 : Bytes w3 _ n xs := h.below hC
  have sC := hC.size
  clear hB3 hB h2 sB
  go_wp2_with fail
  refine (Equal_same _ _ (strOfNums xs) _ (Bytes.string (h3.below (by (repeat first | (with_reducible exact Below.refl _ _) | (with_reducible assumption) | (with_reducible refine below_drewN ?_ _) | (with_reducible refine Below.drew ?_) | (with_reducible refine Below.alloc ?_ (by go_size) _) | (with_reducible refine Below.setCell ?_ (by go_size) _))))) (Bytes.string (hb3.below (by (repeat first | (with_reducible exact Below.refl _ _) | (with_reducible assumption) | (with_reducible refine below_drewN ?_ _) | (with_reducible refine Below.drew ?_) | (with_reducible refine Below.alloc ?_ (by go_size) _) | (with_reducible refine Below.setCell ?_ (by go_size) _)))))).mono ?_
  rintro e w4 ⟨rfl, rfl⟩
  clear c4 c5 h3 hb3
  go_wp2_with fail
  refine (awake_any _ (hm.below (Below.trans hC (Below.mono (B := w3.heap.size) (by (repeat first | (with_reducible exact Below.refl _ _) | (with_reducible assumption) | (with_reducible refine below_drewN ?_ _) | (with_reducible refine Below.drew ?_) | (with_reducible refine Below.alloc ?_ (by go_size) _) | (with_reducible refine Below.setCell ?_ (by go_size) _))) sC)))).mono ?_
  rintro e w5 ⟨rfl, hB5⟩
  have hE : Below w.heap.size w w5 := Below.trans hC (Below.trans (Below.mono (B := w3.heap.size) (by (repeat first | (with_reducible exact Below.refl _ _) | (with_reducible assumption) | (with_reducible refine below_drewN ?_ _) | (with_reducible refine Below.drew ?_) | (with_reducible refine Below.alloc ?_ (by go_size) _) | (with_reducible refine Below.setCell ?_ (by go_size) _))) sC) (hB5.mono (by simp; omega)))
  clear hB5 hC
  go_wp2_with fail
  go_ret
  exact ⟨by simp, hE⟩

end Go.Proofs.YtigpkcpdccgnfaaDoor
