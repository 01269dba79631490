/-
  The walk of HeaderOnce.
-/
import Derived.Test.YtigpkcpdccgnfaaDoorHdJ
namespace Go.Proofs.YtigpkcpdccgnfaaDoor
open Go.RowKit

theorem twelve_string {w : World} {bk off cap : Nat} {z : Nat → Int} (h : Twelve w bk off z) :
    (convert 25 9 (.slice (some ⟨bk, off, none⟩) 12 cap)).run Tryd.prog w = .ok (.string (strOfNums [z 0, z 1, z 2, z 3, z 4, z 5, z 6, z 7, z 8, z 9, z 10, z 11])) w := by
  refine run_convert_bytes_arg (P := Tryd.prog) w 25 5 Tryd.underlying25 Tryd.underlying5 bk off 12 cap [z 0, z 1, z 2, z 3, z 4, z 5, z 6, z 7, z 8, z 9, z 10, z 11] rfl ?_ 9 Tryd.underlying9
  intro i hi
  rw [h.at' i hi]
  match i, hi with
  | 0, _ => rfl
  | 1, _ => rfl
  | 2, _ => rfl
  | 3, _ => rfl
  | 4, _ => rfl
  | 5, _ => rfl
  | 6, _ => rfl
  | 7, _ => rfl
  | 8, _ => rfl
  | 9, _ => rfl
  | 10, _ => rfl
  | 11, _ => rfl

set_option maxHeartbeats 2000000 in
set_option maxRecDepth 100000 in
theorem Once_short (a : Option Addr) (len cap : Nat) (w : World) (hm : Masks w) (h : (len : Int) < 12) :
    Calls Tryd.prog 6 #[.slice a len cap] w fun e w' => e = .returned (.bool true) ∧ Below w.heap.size w w' := by
  go_enter Tryd.func6, Tryd.ntmps6
  go_wp2_with fail
  refine (Decode_short a len cap w h).mono ?_
  rintro e w1 ⟨rfl, hB1⟩
  have hs := hB1.size
  go_wp2_with fail
  refine (awake_any _ (hm.below (by (repeat first | (with_reducible exact Below.refl _ _) | (with_reducible assumption) | (with_reducible refine below_drewN ?_ _) | (with_reducible refine Below.drew ?_) | (with_reducible refine Below.alloc ?_ (by go_size) _) | (with_reducible refine Below.setCell ?_ (by go_size) _))))).mono ?_
  rintro e w2 ⟨rfl, hB2⟩
  have hC : Below w.heap.size w w2 := Below.trans (by (repeat first | (with_reducible exact Below.refl _ _) | (with_reducible assumption) | (with_reducible refine below_drewN ?_ _) | (with_reducible refine Below.drew ?_) | (with_reducible refine Below.alloc ?_ (by go_size) _) | (with_reducible refine Below.setCell ?_ (by go_size) _))) (hB2.mono (by simp; omega))
  clear hB1 hB2
  go_wp2_with fail
  go_ret
  exact ⟨by simp [h], hC⟩

set_option maxHeartbeats 2000000 in
set_option maxRecDepth 100000 in
theorem Once_bits (bk off len cap : Nat) (z : Nat → Int) (w : World) (h : 12 ≤ (len : Int)) (hl : len ≤ 9223372036854775807) (hm : Masks w) (ht : Twelve w bk off z) (hz : bits .and .i64 (z 2 * 256 + z 3) 112 ≠ 0) :
    Calls Tryd.prog 6 #[.slice (some ⟨bk, off, none⟩) len cap] w fun e w' => e = .returned (.bool true) ∧ Below w.heap.size w w' := by
  have hz' : (bits .and .u8 (z 3) 112 != 0) = true := by
    have b2 := ht.bd 2
    have b3 := ht.bd 3
    rw [and112 _ (by omega) (by omega)] at hz
    rw [and112_u8 _ (by omega) (by omega), bne_iff_ne]
    omega
  have hnl : ¬ ((len : Int) < 12) := by omega
  have h3 : (3 : Int) < (len : Int) := by omega
  go_enter Tryd.func6, Tryd.ntmps6
  go_wp2_with fail
  refine (Decode_bits bk off len cap z w h hl hm ht hz).mono ?_
  rintro e w1 ⟨rfl, hB1⟩
  have hs := hB1.size
  go_wp2_with fail
  refine (awake_any _ (hm.below (by (repeat first | (with_reducible exact Below.refl _ _) | (with_reducible assumption) | (with_reducible refine below_drewN ?_ _) | (with_reducible refine Below.drew ?_) | (with_reducible refine Below.alloc ?_ (by go_size) _) | (with_reducible refine Below.setCell ?_ (by go_size) _))))).mono ?_
  rintro e w2 ⟨rfl, hB2⟩
  have hC : Below w.heap.size w w2 := Below.trans (by (repeat first | (with_reducible exact Below.refl _ _) | (with_reducible assumption) | (with_reducible refine below_drewN ?_ _) | (with_reducible refine Below.drew ?_) | (with_reducible refine Below.alloc ?_ (by go_size) _) | (with_reducible refine Below.setCell ?_ (by go_size) _))) (hB2.mono (by simp; omega))
  have c3 : w2.cell? ⟨bk, off + 3, none⟩ = some (.int .u8 (z 3)) := (ht.below hC).at' 3 (by omega)
  clear hB1 hB2
  go_wp2_with fail
  go_ret
  exact ⟨by simp [hz'], hC⟩

set_option maxHeartbeats 2000000 in
set_option maxRecDepth 100000 in
theorem Once_ok (bk off len cap : Nat) (z : Nat → Int) (w : World) (h : 12 ≤ (len : Int)) (hcap : len ≤ cap) (hl : cap ≤ 9223372036854775807) (hm : Masks w) (ht : Twelve w bk off z) (hz : bits .and .i64 (z 2 * 256 + z 3) 112 = 0) :
    Calls Tryd.prog 6 #[.slice (some ⟨bk, off, none⟩) len cap] w fun e w' => e = .returned (.bool true) ∧ Below w.heap.size w w' := by
  obtain ⟨i, r, o, aa, tc, rd, ra, c, n0, n1, n2, n3, hD⟩ := Dcd.of z
  obtain ⟨hF, hcan, hN⟩ := hD.back ht.bd hz
  have h12 : (12 : Int) ≤ (cap : Int) := by omega
  have h12' : 12 ≤ cap := by omega
  have HF := Lib.hid hF
  have HN := Lib.hid hN
  clear hF hN
  go_enter Tryd.func6, Tryd.ntmps6
  go_wp2_with fail
  refine (Decode_ok bk off len cap z i r o aa tc rd ra c n0 n1 n2 n3 hD w h (by omega) hm ht hz).mono ?_
  rintro e w1 ⟨rfl, hB1⟩
  clear hD hz
  have hs := hB1.size
  go_wp2_with fail
  refine (Encode_yes _ _ _ _ _ _ _ _ _ _ _ _ _ hcan (hm.below (by (repeat first | (with_reducible exact Below.refl _ _) | (with_reducible assumption) | (with_reducible refine below_drewN ?_ _) | (with_reducible refine Below.drew ?_) | (with_reducible refine Below.alloc ?_ (by go_size) _) | (with_reducible refine Below.setCell ?_ (by go_size) _))))).mono ?_
  rintro e w2 ⟨v, rfl, hown, hB2⟩
  have hC : Below w.heap.size w w2 := Below.trans (by (repeat first | (with_reducible exact Below.refl _ _) | (with_reducible assumption) | (with_reducible refine below_drewN ?_ _) | (with_reducible refine Below.drew ?_) | (with_reducible refine Below.alloc ?_ (by go_size) _) | (with_reducible refine Below.setCell ?_ (by go_size) _))) (hB2.mono (by simp; omega))
  rw [encN_B, HN.out] at hown
  have t1 := owned_string hown
  have t2 := twelve_string (cap := cap) (ht.below hC)
  clear hB1 hB2 hown HF HN
  go_wp2_with fail
  refine (Equal_same _ _ _ _ t1 t2).mono ?_
  rintro e w3 ⟨rfl, rfl⟩
  go_wp2_with fail
  go_ret
  exact ⟨by simp, hC⟩

end Go.Proofs.YtigpkcpdccgnfaaDoor
