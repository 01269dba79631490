/-
  SHA-256 over plain numbers; the document's right and word.
-/
import Derived.Test.YtkpnhbjdpbjfjaaDoorDgB
namespace Go.Proofs.YtkpnhbjdpbjfjaaDoor
open Go.RowKit
set_option linter.unusedVariables false
set_option maxRecDepth 100000

def rotr (x n : Nat) : Nat := (x >>> n) ||| (x <<< (32 - n) % 4294967296)
def wordOf (a b c d : Nat) : Nat := a * 16777216 + b * 65536 + c * 256 + d
def sig0 (x : Nat) : Nat := rotr x 7 ^^^ rotr x 18 ^^^ x >>> 3
def sig1 (x : Nat) : Nat := rotr x 17 ^^^ rotr x 19 ^^^ x >>> 10
/-- The first n words of a block. -/
def words (b : List UInt8) : Nat → List Nat
  | 0 => []
  | n + 1 => words b n ++ [if n < 16 then wordOf ((b.getD (4 * n) 0).toNat) ((b.getD (4 * n + 1) 0).toNat) ((b.getD (4 * n + 2) 0).toNat) ((b.getD (4 * n + 3) 0).toNat)
      else ((words b n).getD (n - 16) 0 + sig0 ((words b n).getD (n - 15) 0) + (words b n).getD (n - 7) 0 + sig1 ((words b n).getD (n - 2) 0)) % 4294967296]
/-- Eight words. -/
structure V8 where
  a : Nat
  b : Nat
  c : Nat
  d : Nat
  e : Nat
  f : Nat
  g : Nat
  h : Nat
def V8.list (v : V8) : List Nat := [v.a, v.b, v.c, v.d, v.e, v.f, v.g, v.h]
structure V8.Ok (v : V8) : Prop where
  a : v.a < 4294967296
  b : v.b < 4294967296
  c : v.c < 4294967296
  d : v.d < 4294967296
  e : v.e < 4294967296
  f : v.f < 4294967296
  g : v.g < 4294967296
  h : v.h < 4294967296
def bigS0 (a : Nat) : Nat := rotr a 2 ^^^ rotr a 13 ^^^ rotr a 22
def bigS1 (e : Nat) : Nat := rotr e 6 ^^^ rotr e 11 ^^^ rotr e 25
def cho (e f g : Nat) : Nat := (e &&& f) ^^^ ((4294967295 ^^^ e) &&& g)
def maj (a b c : Nat) : Nat := (a &&& b) ^^^ (a &&& c) ^^^ (b &&& c)
/-- One round. -/
def V8.next (v : V8) (k w : Nat) : V8 :=
  let t1 := v.h + bigS1 v.e + cho v.e v.f v.g + k + w
  let t2 := bigS0 v.a + maj v.a v.b v.c
  ⟨(t1 + t2) % 4294967296, v.a, v.b, v.c, (v.d + t1) % 4294967296, v.e, v.f, v.g⟩
def V8.add (v u : V8) : V8 := ⟨(v.a + u.a) % 4294967296, (v.b + u.b) % 4294967296, (v.c + u.c) % 4294967296, (v.d + u.d) % 4294967296, (v.e + u.e) % 4294967296, (v.f + u.f) % 4294967296, (v.g + u.g) % 4294967296, (v.h + u.h) % 4294967296⟩

theorem rotr_lt {x n : Nat} (h : x < 4294967296) : rotr x n < 4294967296 := by
  unfold rotr
  refine Nat.or_lt_two_pow (n := 32) ?_ ?_
  · rw [Nat.shiftRight_eq_div_pow]
    have := Nat.div_le_self x (2 ^ n)
    omega
  · exact Nat.mod_lt _ (by decide)
theorem wordOf_lt {a b c d : Nat} (ha : a < 256) (hb : b < 256) (hc : c < 256) (hd : d < 256) : wordOf a b c d < 4294967296 := by
  unfold wordOf
  omega

set_option maxHeartbeats 2000000 in
set_option maxRecDepth 100000 in
theorem docRight_any (x n : Nat) (w : World) (hx : x < 4294967296) (h0 : 1 ≤ n) (h1 : n ≤ 31) : Calls Tryd.prog 25 #[.int .u32 x, .int .i64 n] w fun e w' => e = .returned (.int .u32 (rotr x n)) ∧ Below w.heap.size w w' := by
  have hr : ((x : Int) / 2 ^ n) = ((x >>> n : Nat) : Int) := by rw [Nat.shiftRight_eq_div_pow, Int.natCast_ediv, Int.natCast_pow]; rfl
  have hl1 : ((x : Int) * 2 ^ (32 - n)) % 4294967296 = ((x <<< (32 - n) % 4294967296 : Nat) : Int) := by rw [Nat.shiftLeft_eq, Int.natCast_emod, Int.natCast_mul, Int.natCast_pow]; rfl
  have lr : x >>> n < 4294967296 := by rw [Nat.shiftRight_eq_div_pow]; have := Nat.div_le_self x (2 ^ n); omega
  have ll : x <<< (32 - n) % 4294967296 < 4294967296 := Nat.mod_lt _ (by decide)
  have HO : Hid (bits .or .u32 ((x : Int) / 2 ^ n) ((x : Int) * 2 ^ (32 - n) % 4294967296) = ((rotr x n : Nat) : Int)) := Lib.hid (by rw [hr, hl1, or_u32 _ _ lr ll]; rfl)
  clear hr hl1 lr ll
  have hn : (0 : Int) ≤ 32 - (n : Int) := by omega
  have hk : (32 - (n : Int)).toNat = 32 - n := by omega
  go_enter Tryd.func25, Tryd.ntmps25
  go_wp2_with fail
  go_quiet (fail)
  go_wp2_with fail
  go_ret
  exact ⟨congrArg (fun t => Ending.returned (.int .u32 t)) HO.out, below_drewN (Below.refl _ _) _⟩

theorem or_join32 (i : Nat) (hi : 2 ^ i < (4294967296 : Int)) (x y : Int) (h0 : 0 ≤ x) (h1 : x < 4294967296) (hx : x % 2 ^ i = 0) (hy0 : 0 ≤ y) (hy : y < 2 ^ i) : bits .or .u32 x y = x + y :=
  bits_join .u32 32 (by decide) wraps_u32 i x y h0 hx (by omega) hy0 hy (by omega)
theorem word_bits {a b c d : Nat} (ha : a < 256) (hb : b < 256) (hc : c < 256) (hd : d < 256) : bits .or .u32 (bits .or .u32 (bits .or .u32 ((a : Int) * 16777216) ((b : Int) * 65536)) ((c : Int) * 256)) (d : Int) = ((wordOf a b c d : Nat) : Int) := by
  rw [or_join32 24 (by decide) ((a : Int) * 16777216) ((b : Int) * 65536) (by omega) (by omega) (by omega) (by omega) (by omega), or_join32 16 (by decide) ((a : Int) * 16777216 + (b : Int) * 65536) ((c : Int) * 256) (by omega) (by omega) (by omega) (by omega) (by omega), or_join32 8 (by decide) _ (d : Int) (by omega) (by omega) (by omega) (by omega) (by omega)]
  unfold wordOf
  omega

set_option maxHeartbeats 2000000 in
set_option maxRecDepth 100000 in
theorem docWord_any (A : Option Addr) (l : Bs) (n c : Nat) (w : World) (hS : Bys w A l) (hl : 4 ≤ l.length) (hn : n = l.length) (hm : n ≤ 9223372036854775807) : Calls Tryd.prog 27 #[.slice A n c] w fun e w' => e = .returned (.int .u32 (wordOf l[0].toNat l[1].toNat l[2].toNat l[3].toNat)) ∧ Below w.heap.size w w' := by
  obtain ⟨g, off, rfl, hcs⟩ := hS (by omega)
  have y0 := hcs 0 (by omega)
  have y1 := hcs 1 (by omega)
  have y2 := hcs 2 (by omega)
  have y3 := hcs 3 (by omega)
  have t0 := (l[0]).toNat_lt
  have t1 := (l[1]).toNat_lt
  have t2 := (l[2]).toNat_lt
  have t3 := (l[3]).toNat_lt
  have h3 : 3 < n := by omega
  clear hcs hS
  rw [Nat.add_zero] at y0
  generalize (l[0]).toNat = m0 at *
  generalize (l[1]).toNat = m1 at *
  generalize (l[2]).toNat = m2 at *
  generalize (l[3]).toNat = m3 at *
  have HW := Lib.hid (word_bits (a := m0) (b := m1) (c := m2) (d := m3) t0 t1 t2 t3)
  clear hn hl
  go_enter Tryd.func27, Tryd.ntmps27
  go_wp2_with fail
  go_quiet (fail)
  go_wp2_with fail
  go_ret
  exact ⟨congrArg (fun t => Ending.returned (.int .u32 t)) HW.out, below_drewN (Below.refl _ _) _⟩
end Go.Proofs.YtkpnhbjdpbjfjaaDoor
