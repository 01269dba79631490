/-
  The walk of DigestJoins.
-/
import Derived.Test.YtdfgkjbhbplamaaDgH
import Derived.Test.YtdfgkjbhbplamaaQc
import Derived.Test.YtdfgkjbhbplamaaRdE
import Derived.Test.YtdfgkjbhbplamaaPlB
namespace Go.Proofs.Ytdfgkjbhbplamaa
open Go.RowKit
set_option linter.unusedVariables false

/-- One byte in a block of its own. -/
theorem bys_one {w : World} {t : TypeId} {k : Nat} (x : UInt8) (hk : k = w.heap.size) : Bys (w.alloc (.cells #[.int .u8 x.toNat] t)) (some ⟨k, 0, none⟩) [x] := fun _ => by
  subst hk
  refine ⟨_, 0, rfl, fun j hj => ?_⟩
  have hr := row_new (w := w) (k := w.heap.size) (.cells #[.int .u8 x.toNat] t (0, 0)) rfl
  refine (cell_of_row _ _ _ _ _ _ hr).trans ?_
  simp at hj
  subst hj
  rfl
theorem bys_nought {w : World} {t : TypeId} {k : Nat} (hk : k = w.heap.size) : Bys (w.alloc (.cells #[.int .u8 0] t)) (some ⟨k, 0, none⟩) [0] := bys_one 0 hk
theorem crc_zero : crc [0] ≠ 0 := by decide +kernel

set_option maxHeartbeats 4000000 in
set_option maxRecDepth 100000 in
theorem Joins_any (A0 A1 : Option Addr) (l0 l1 : Bs) (c0 c1 : Nat) (x : UInt8) (w : World) (h0 : Bys w A0 l0) (h1 : Bys w A1 l1) (z0 : l0.length ≤ 140737488351232) (z1 : l1.length ≤ 140737488351232) :
    Calls Try.prog 4 #[.slice A0 l0.length c0, .slice A1 l1.length c1, .int .u8 x.toNat] w fun e w' => e = .returned (.bool true) ∧ Below w.heap.size w w' := by
  have hj := crc_joins l0 l1 x
  have hz := crc_zero
  have i0 := h0.inside
  have i1 := h1.inside
  have C0 := Lib.hid (fun W (hB : Below w.heap.size w W) => CloneB_any A0 l0 l0.length c0 W (h0.on hB) rfl z0 (fun p hp hn => Nat.lt_of_lt_of_le (i0 p hp hn) hB.size))
  have C1 := Lib.hid (fun W (hB : Below w.heap.size w W) => CloneB_any A1 l1 l1.length c1 W (h1.on hB) rfl z1 (fun p hp hn => Nat.lt_of_lt_of_le (i1 p hp hn) hB.size))
  have R0 := Lib.hid (fun W (hB : Below w.heap.size w W) => dCrc_any A0 l0 l0.length c0 W (h0.on hB) rfl (by omega))
  have R1 := Lib.hid (fun W (hB : Below w.heap.size w W) => dCrc_any A1 l1 l1.length c1 W (h1.on hB) rfl (by omega))
  have E0 := Lib.hid (fun A n c W (hB : Bys W A (l0 ++ [x])) (hn : n = l0.length + 1) => dCrc_any A (l0 ++ [x]) n c W hB (by simp [hn]) (by omega))
  have E1 := Lib.hid (fun A n c W (hB : Bys W A (l1 ++ [x])) (hn : n = l1.length + 1) => dCrc_any A (l1 ++ [x]) n c W hB (by simp [hn]) (by omega))
  have E2 := Lib.hid (fun A c W (hB : Bys W A [x]) => dCrc_any A [x] 1 c W hB rfl (by omega))
  have D2 := Lib.hid (fun A c W (hB : Bys W A [x]) => by have h := docCrc_any A [x] c W hB (by simp); rw [show [x].length = 1 from rfl] at h; exact h)
  have E3 := Lib.hid (fun A c W (hB : Bys W A [0]) => dCrc_any A [0] 1 c W hB rfl (by omega))
  clear h0 h1 i0 i1
  have HX : Hid (UInt8.ofNat x.toNat = x) := Lib.hid (by simp)
  generalize hp0 : crc l0 = p0 at *
  generalize hp1 : crc l1 = p1 at *
  generalize crc (l0 ++ [x]) = q0 at *
  generalize crc (l1 ++ [x]) = q1 at *
  generalize crc [0] = r0 at *
  generalize crc [x] = r1 at *
  clear hp0 hp1
  by_cases hp : p0 = p1
  · have hq : q0 = q1 := hj.2 hp
    subst hp hq
    clear hj
    have f1 : ((p0 : Int) != (p0 : Int)) = false := by simp
    have f2 : ((q0 : Int) == (q0 : Int)) = true := by simp
    have f3 : ((r1 : Int) == (r1 : Int)) = true := by simp
    have f4 : ((r0 : Int) != 0) = true := by rw [bne_iff_ne]; omega
    clear hz
    go_enter Try.func4, Try.ntmps4
    go_wp2_with fail
    refine (R0.out _ (Below.refl _ _)).mono ?_
    rintro e w1 ⟨rfl, rfl⟩
    go_wp2_with fail
    refine (R1.out _ (Below.refl _ _)).mono ?_
    rintro e w1 ⟨rfl, rfl⟩
    go_wp2_with fail
    refine (C0.out _ (Below.refl _ _)).mono ?_
    rintro e w1 ⟨v1, rfl, o1, b1⟩
    have s1 := b1.size
    go_wp2_with (at_builtin; refine wpList_append_ownC rfl _ _ rfl w.heap.size _ l0 rfl (o1.alloc _) ⟨w1.heap.size, 0, none⟩ 1 1 [x] rfl rfl [.int .u8 x.toNat] rfl (World.news_of_block (cs := #[.int .u8 x.toNat]) (t := 5) (fr := (0, 0)) (row_new _ rfl)) (by simp; omega) (by simp; omega) ?_)
    intro v2 w2 o2 g2 _
    have b2 : Below w.heap.size w w2 := Below.grown (Below.alloc b1 s1 _) g2 (by simp; omega) (fun k e => (o1.lt k e).1)
    clear o1 b1 s1 g2
    have s2 := b2.size
    obtain ⟨B, d, rfl, y2, _⟩ := o2.bys
    go_wp2_with fail
    with_reducible refine Calls.mono (E0.out _ _ _ _ y2 (by simp)) ?_
    rintro e w3 ⟨rfl, rfl⟩
    clear o2 y2
    go_wp2_with fail
    refine (C1.out _ b2).mono ?_
    rintro e w4 ⟨v4, rfl, o4, b4⟩
    have o4 := o4.mono s2
    obtain ⟨b4, s4⟩ := Below.next b2 s2 b4
    go_wp2_with (at_builtin; refine wpList_append_ownC rfl _ _ rfl w.heap.size _ l1 rfl (o4.alloc _) ⟨w4.heap.size, 0, none⟩ 1 1 [x] rfl rfl [.int .u8 x.toNat] rfl (World.news_of_block (cs := #[.int .u8 x.toNat]) (t := 5) (fr := (0, 0)) (row_new _ rfl)) (by simp; omega) (by simp; omega) ?_)
    intro v5 w5 o5 g5 _
    have b5 : Below w.heap.size w w5 := Below.grown (Below.alloc b4 s4 _) g5 (by simp; omega) (fun k e => (o4.lt k e).1)
    clear o4 b4 s4 g5 b2 s2
    have s5 := b5.size
    obtain ⟨B, d, rfl, y5, _⟩ := o5.bys
    go_wp2_with fail
    with_reducible refine Calls.mono (E1.out _ _ _ _ y5 (by simp)) ?_
    rintro e w6 ⟨rfl, rfl⟩
    clear o5 y5
    go_wp2_with fail
    with_reducible refine Calls.mono (E2.out _ _ _ (bys_one x (by simp))) ?_
    rintro e w7 ⟨rfl, rfl⟩
    go_wp2_with fail
    with_reducible refine Calls.mono (D2.out _ _ _ (bys_one x (by simp))) ?_
    rintro e w8 ⟨rfl, rfl⟩
    go_wp2_with fail
    with_reducible refine Calls.mono (E3.out _ _ _ (bys_nought (by simp))) ?_
    rintro e w9 ⟨rfl, rfl⟩
    go_wp2_with fail
    go_ret
    exact ⟨rfl, Below.alloc (Below.alloc (Below.alloc b5 s5 _) (by simp; omega) _) (by simp; omega) _⟩
  · have hq : q0 ≠ q1 := fun e => hp (hj.1 e)
    have f1 : ((p0 : Int) != (p1 : Int)) = true := by rw [bne_iff_ne]; omega
    have f2 : ((q0 : Int) != (q1 : Int)) = true := by rw [bne_iff_ne]; omega
    clear hz hj hp hq E2 D2 E3
    go_enter Try.func4, Try.ntmps4
    go_wp2_with fail
    refine (R0.out _ (Below.refl _ _)).mono ?_
    rintro e w1 ⟨rfl, rfl⟩
    go_wp2_with fail
    refine (R1.out _ (Below.refl _ _)).mono ?_
    rintro e w1 ⟨rfl, rfl⟩
    go_wp2_with fail
    refine (C0.out _ (Below.refl _ _)).mono ?_
    rintro e w1 ⟨v1, rfl, o1, b1⟩
    have s1 := b1.size
    go_wp2_with (at_builtin; refine wpList_append_ownC rfl _ _ rfl w.heap.size _ l0 rfl (o1.alloc _) ⟨w1.heap.size, 0, none⟩ 1 1 [x] rfl rfl [.int .u8 x.toNat] rfl (World.news_of_block (cs := #[.int .u8 x.toNat]) (t := 5) (fr := (0, 0)) (row_new _ rfl)) (by simp; omega) (by simp; omega) ?_)
    intro v2 w2 o2 g2 _
    have b2 : Below w.heap.size w w2 := Below.grown (Below.alloc b1 s1 _) g2 (by simp; omega) (fun k e => (o1.lt k e).1)
    clear o1 b1 s1 g2
    have s2 := b2.size
    obtain ⟨B, d, rfl, y2, _⟩ := o2.bys
    go_wp2_with fail
    with_reducible refine Calls.mono (E0.out _ _ _ _ y2 (by simp)) ?_
    rintro e w3 ⟨rfl, rfl⟩
    clear o2 y2
    go_wp2_with fail
    refine (C1.out _ b2).mono ?_
    rintro e w4 ⟨v4, rfl, o4, b4⟩
    have o4 := o4.mono s2
    obtain ⟨b4, s4⟩ := Below.next b2 s2 b4
    go_wp2_with (at_builtin; refine wpList_append_ownC rfl _ _ rfl w.heap.size _ l1 rfl (o4.alloc _) ⟨w4.heap.size, 0, none⟩ 1 1 [x] rfl rfl [.int .u8 x.toNat] rfl (World.news_of_block (cs := #[.int .u8 x.toNat]) (t := 5) (fr := (0, 0)) (row_new _ rfl)) (by simp; omega) (by simp; omega) ?_)
    intro v5 w5 o5 g5 _
    have b5 : Below w.heap.size w w5 := Below.grown (Below.alloc b4 s4 _) g5 (by simp; omega) (fun k e => (o4.lt k e).1)
    clear o4 b4 s4 g5 b2 s2
    obtain ⟨B, d, rfl, y5, _⟩ := o5.bys
    go_wp2_with fail
    with_reducible refine Calls.mono (E1.out _ _ _ _ y5 (by simp)) ?_
    rintro e w6 ⟨rfl, rfl⟩
    clear o5 y5
    go_wp2_with fail
    go_ret
    exact ⟨rfl, b5⟩
end Go.Proofs.Ytdfgkjbhbplamaa
