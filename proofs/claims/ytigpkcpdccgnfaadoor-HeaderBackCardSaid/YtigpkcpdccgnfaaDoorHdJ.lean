/-
  Decode in plain words: what the numbers of a header are to its bytes, and back.
-/
import Derived.Test.YtigpkcpdccgnfaaDoorHdD
import Derived.Test.YtigpkcpdccgnfaaDoorHdI
namespace Go.Proofs.YtigpkcpdccgnfaaDoor
open Go.RowKit

theorem Twelve.below {w W : World} {bk off : Nat} {z : Nat → Int} (h : Twelve w bk off z) (hB : Below w.heap.size w W) : Twelve W bk off z :=
  ⟨fun i hi => (hB.cell (p := ⟨bk, off + i, none⟩) h.lt).trans (h.at' i hi), h.bd, Nat.lt_of_lt_of_le h.lt hB.size⟩

/-- A header's numbers, as Decode reads them off twelve bytes. -/
structure Dcd (z : Nat → Int) (i : Int) (r : Bool) (o : Int) (aa tc rd ra : Bool) (c n0 n1 n2 n3 : Int) : Prop where
  all : i = z 0 * 256 + z 1 ∧ r = (bits .and .i64 (z 2 * 256 + z 3) 32768 != 0) ∧ o = bits .and .i64 ((z 2 * 256 + z 3) / 2048) 15 ∧ aa = (bits .and .i64 (z 2 * 256 + z 3) 1024 != 0) ∧ tc = (bits .and .i64 (z 2 * 256 + z 3) 512 != 0) ∧ rd = (bits .and .i64 (z 2 * 256 + z 3) 256 != 0) ∧ ra = (bits .and .i64 (z 2 * 256 + z 3) 128 != 0) ∧ c = bits .and .i64 (z 2 * 256 + z 3) 15 ∧ n0 = z 4 * 256 + z 5 ∧ n1 = z 6 * 256 + z 7 ∧ n2 = z 8 * 256 + z 9 ∧ n3 = z 10 * 256 + z 11

theorem Dcd.of (z : Nat → Int) : ∃ (i : Int) (r : Bool) (o : Int) (aa tc rd ra : Bool) (c n0 n1 n2 n3 : Int), Dcd z i r o aa tc rd ra c n0 n1 n2 n3 :=
  ⟨_, _, _, _, _, _, _, _, _, _, _, _, ⟨rfl, rfl, rfl, rfl, rfl, rfl, rfl, rfl, rfl, rfl, rfl, rfl⟩⟩

theorem Decode_ok (bk off len cap : Nat) (z : Nat → Int) (i : Int) (r : Bool) (o : Int) (aa tc rd ra : Bool) (c n0 n1 n2 n3 : Int) (hD : Dcd z i r o aa tc rd ra c n0 n1 n2 n3) (w : World) (h : 12 ≤ (len : Int)) (hl : len ≤ 9223372036854775807) (hm : Masks w) (ht : Twelve w bk off z) (hz : bits .and .i64 (z 2 * 256 + z 3) 112 = 0) :
    Calls Tryd.prog 12 #[.slice (some ⟨bk, off, none⟩) len cap] w fun e w' => e = .returned (.tuple #[hdV i r o aa tc rd ra c, ctV n0 n1 n2 n3, .int .i64 0]) ∧ Below w.heap.size w w' := by
  obtain ⟨rfl, rfl, rfl, rfl, rfl, rfl, rfl, rfl, rfl, rfl, rfl, rfl⟩ := hD.all
  exact Decode_long bk off len cap z w h hl hm ht hz

set_option maxRecDepth 100000 in
theorem and112_nat (n : Nat) : n &&& 112 = 16 * (n / 16 % 8) := by
  have h : ∀ a : Fin 256, a.val &&& 112 = 16 * (a.val / 16 % 8) := by decide
  have e : n &&& 112 = (n % 256) &&& 112 := by
    have h255 : n % 256 = n &&& 255 := (Nat.and_two_pow_sub_one_eq_mod n 8).symm
    rw [h255, Nat.and_assoc]; rfl
  rw [e, h ⟨n % 256, Nat.mod_lt _ (by omega)⟩]
  simp only
  omega
theorem and112 (x : Int) (h0 : 0 ≤ x) (h1 : x < 9223372036854775808) : bits .and .i64 x 112 = 16 * (x / 16 % 8) := by
  obtain ⟨a, rfl⟩ := Int.eq_ofNat_of_zero_le h0
  have := and_nat a 112 (by omega) (by omega)
  rw [and112_nat] at this
  simpa using this
theorem and112_u8 (x : Int) (h0 : 0 ≤ x) (h1 : x ≤ 255) : bits .and .u8 x 112 = 16 * (x / 16 % 8) := by
  obtain ⟨a, rfl⟩ := Int.eq_ofNat_of_zero_le h0
  have := u8_and_nat a 112 (by omega) (by omega)
  rw [and112_nat] at this
  simpa using this
theorem and15 (x : Int) (h0 : 0 ≤ x) (h1 : x < 9223372036854775808) : bits .and .i64 x 15 = x % 16 := by
  have := bits_mask .i64 63 (by decide) wraps_i64 4 (by decide) x h0 (by omega)
  simpa using this
theorem bit_of (i : Nat) (m x : Int) (hm : ((2 ^ i : Nat) : Int) = m) (hi : 2 ^ i < 9223372036854775808) (h0 : 0 ≤ x) (h1 : x < 9223372036854775808) : bi (bits .and .i64 x m != 0) = x / m % 2 := by
  subst hm
  have hp : (0 : Int) < ((2 ^ i : Nat) : Int) := by have := Nat.two_pow_pos i; omega
  have e := and_bit i hi x h0 h1
  have e2 : (2 : Int) ^ i = ((2 ^ i : Nat) : Int) := by simp
  rw [e2] at e
  rw [e]
  have h2 : x / ((2 ^ i : Nat) : Int) % 2 = 0 ∨ x / ((2 ^ i : Nat) : Int) % 2 = 1 := by omega
  rcases h2 with h2 | h2
  · have hn : (((2 ^ i : Nat) : Int) * 0 != 0) = false := by simp
    rw [h2, hn]; rfl
  · have hn : (((2 ^ i : Nat) : Int) * 1 != 0) = true := by rw [bne_iff_ne]; omega
    rw [h2, hn]; rfl

/-- What was read, written again: the word of the flags, and the bounds. -/
theorem Dcd.back {z : Nat → Int} {i : Int} {r : Bool} {o : Int} {aa tc rd ra : Bool} {c n0 n1 n2 n3 : Int} (hD : Dcd z i r o aa tc rd ra c n0 n1 n2 n3) (hb : ∀ i, 0 ≤ z i ∧ z i ≤ 255) (hz : bits .and .i64 (z 2 * 256 + z 3) 112 = 0) :
    flags o c r aa tc rd ra = z 2 * 256 + z 3 ∧ canH i o c n0 n1 n2 n3 = true ∧ encN i (flags o c r aa tc rd ra) n0 n1 n2 n3 = [z 0, z 1, z 2, z 3, z 4, z 5, z 6, z 7, z 8, z 9, z 10, z 11] := by
  obtain ⟨e0, e1, e2, e3, e4, e5, e6, e7, e8, e9, e10, e11⟩ := hD.all
  have b0 := hb 0
  have b1 := hb 1
  have b2 := hb 2
  have b3 := hb 3
  have b4 := hb 4
  have b5 := hb 5
  have b6 := hb 6
  have b7 := hb 7
  have b8 := hb 8
  have b9 := hb 9
  have b10 := hb 10
  have b11 := hb 11
  rw [and112 _ (by omega) (by omega)] at hz
  rw [and15 _ (by omega) (by omega)] at e2 e7
  have k1 := bit_of 15 32768 (z 2 * 256 + z 3) (by decide) (by decide) (by omega) (by omega)
  have k3 := bit_of 10 1024 (z 2 * 256 + z 3) (by decide) (by decide) (by omega) (by omega)
  have k4 := bit_of 9 512 (z 2 * 256 + z 3) (by decide) (by decide) (by omega) (by omega)
  have k5 := bit_of 8 256 (z 2 * 256 + z 3) (by decide) (by decide) (by omega) (by omega)
  have k6 := bit_of 7 128 (z 2 * 256 + z 3) (by decide) (by decide) (by omega) (by omega)
  rw [← e1] at k1
  rw [← e3] at k3
  rw [← e4] at k4
  rw [← e5] at k5
  rw [← e6] at k6
  have hf : flags o c r aa tc rd ra = z 2 * 256 + z 3 := by
    simp only [flags, flk]
    omega
  refine ⟨hf, canH_true ⟨by omega, by omega, by omega, by omega, by omega, by omega, by omega⟩, ?_⟩
  rw [hf]
  simp only [encN, List.cons.injEq, and_true]
  omega

end Go.Proofs.YtigpkcpdccgnfaaDoor
