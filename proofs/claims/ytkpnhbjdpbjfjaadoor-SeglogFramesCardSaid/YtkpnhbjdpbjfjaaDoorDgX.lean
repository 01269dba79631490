/-
  The walk of DigestBlocks.
-/
import Derived.Test.YtkpnhbjdpbjfjaaDoorDgV
namespace Go.Proofs.YtkpnhbjdpbjfjaaDoor
open Go.RowKit
set_option linter.unusedVariables false
set_option maxRecDepth 100000

theorem noughts_row (w : World) (m : Nat) (hm : m ≤ 1000) : OwnR (w.alloc (.cells (madeCells #[.int .u8 0] m) 5)) w.heap.size (.slice (some ⟨w.heap.size, 0, none⟩) m m) (List.replicate m 0) := by
  have h := OwnR.made (w := w) (base := w.heap.size) (l := List.replicate m 0) (cs := madeCells #[.int .u8 0] m) (Nat.le_refl _) (by apply Array.ext'; rw [toList_madeCells_one]; simp [byteV]) (by simp [maxLen]; omega)
  rw [List.length_replicate] at h
  exact h
theorem run_make_noughts (m : Nat) (hm : m ≤ 1000) (w : World) : (Instr.makeSlice 22 (.int .i64 m) (.int .i64 m)).run Tryd.prog w = .ok (.slice (some ⟨w.heap.size, 0, none⟩) m m) (w.alloc (.cells (madeCells #[.int .u8 0] m) 5)) := by
  obtain ⟨i0, hi, hz0, hz1, hz2⟩ := info_parts info_u8
  have h := run_make (P := Tryd.prog) w 22 5 i0 (.int .u8 0) Tryd.underlying22 hi hz0 .i64 .i64 m m (by omega) (by omega) (by rw [hz2]; omega) (by omega)
  rw [hz1] at h
  simpa [Value.cells] using h
theorem size_of (n : Int) : ∃ m : Nat, wrap64 (1 + wrap64 ((IntKind.u64.wrap n).tmod 300)) = m ∧ 1 ≤ m ∧ m ≤ 300 := by
  have h0 : 0 ≤ IntKind.u64.wrap n := by rw [IntKind.wrap_u64]; omega
  rw [Int.tmod_eq_emod_of_nonneg h0]
  generalize IntKind.u64.wrap n = u at *
  refine ⟨(1 + u % 300).toNat, ?_, by omega, by omega⟩
  unfold wrap64
  omega
theorem place_of (n : Int) (m : Nat) (h1 : 1 ≤ m) (h2 : m ≤ 300) : ∃ t : Nat, wrap64 ((IntKind.u64.wrap n).tmod (m : Int)) = t ∧ t < m := by
  have h0 : 0 ≤ IntKind.u64.wrap n := by rw [IntKind.wrap_u64]; omega
  rw [Int.tmod_eq_emod_of_nonneg h0]
  generalize IntKind.u64.wrap n = u at *
  have a1 := Int.emod_nonneg u (b := (m : Int)) (by omega)
  have a2 := Int.emod_lt_of_pos u (b := (m : Int)) (by omega)
  generalize u % (m : Int) = r at *
  refine ⟨r.toNat, ?_, by omega⟩
  unfold wrap64
  omega
theorem byte_of (n : Int) : ∃ y : UInt8, bits .xor .u8 0 (n % 256) = (y.toNat : Int) := by
  have hw : 0 ≤ n % 256 ∧ n % 256 < 256 := by omega
  generalize n % 256 = u at *
  obtain ⟨a, rfl⟩ := Int.eq_ofNat_of_zero_le hw.1
  refine ⟨UInt8.ofNat a, ?_⟩
  have := xor_u8v 0 a (by omega) (by omega)
  rw [Nat.zero_xor] at this
  rw [UInt8.toNat_ofNat']
  rw [Nat.mod_eq_of_lt (by omega)]
  exact this
set_option maxHeartbeats 2000000 in
set_option maxRecDepth 100000 in
theorem DigestBlocks_any (n at' by' : Int) (w : World) (hT : TabK w) :
    Calls Tryd.prog 4 #[.int .i64 n, .int .i64 at', .int .i64 by'] w fun e w' => e = .returned (.bool true) ∧ Below w.heap.size w w' := by
  obtain ⟨m, hm, hm1, hm2⟩ := size_of n
  obtain ⟨t, ht, htm⟩ := place_of at' m hm1 hm2
  obtain ⟨z, hz⟩ : ∃ z, z = List.replicate m (0 : UInt8) := ⟨_, rfl⟩
  have hzl : z.length = m := by rw [hz, List.length_replicate]
  have mk := run_make_noughts m (by omega)
  have R := Lib.hid (fun W => by have := noughts_row W m (by omega); rw [← hz] at this; exact this)
  have S0 := Lib.hid (fun A' l k c' W (h : Sl W A' c' l) (hk : k = l.length) (h5 : l.length ≤ 1000) (hB : Below w.heap.size w W) => by have := Sum_any A' l c' W h (by omega) (hT.on hB); rw [← hk] at this; exact this)
  have S1 := Lib.hid (fun A' l k c' W (h : Sl W A' c' l) (hk : k = l.length) (h5 : l.length ≤ 1000) => by have := docSum_any A' l c' W h (by omega); rw [← hk] at this; exact this)
  have E0 := Lib.hid (fun A1 A2 (l : Bs) c1 c2 W (h1 : Bys W A1 (sha l)) (h2 : Bys W A2 (sha l)) => by have := EqualB_any A1 A2 (sha l) (sha l) 32 32 c1 c2 W h1 h2 (sha_length l).symm (sha_length l).symm; rw [show (sha l == sha l) = true by simp] at this; exact this)
  clear hT
  obtain ⟨W0, hW0⟩ : ∃ W0, W0 = w.alloc (.cells (madeCells #[.int .u8 0] m) 5) := ⟨_, rfl⟩
  have hR0 := R.out w
  have hB0 : Below w.heap.size w W0 := by rw [hW0]; exact Below.alloc (Below.refl _ _) (Nat.le_refl _) _
  have hs0 : w.heap.size < W0.heap.size := by rw [hW0]; simp
  rw [← hW0] at hR0
  have HW0 := Lib.hid hW0
  obtain ⟨k0, hk0⟩ : ∃ k, k = m - 1 := ⟨_, rfl⟩
  have hsub : IntKind.i64.wrap ((m : Int) - 1) = (k0 : Int) := by rw [IntKind.wrap_i64]; omega
  have HZ0 : Hid (∀ j (h : j < z.length), z[j] = 0) := Lib.hid (fun j h => by simp [hz])
  obtain ⟨y, hy⟩ := byte_of (IntKind.u64.wrap (1 + (IntKind.u64.wrap by').tmod 255))
  clear hW0 hz
  go_enter Tryd.func4, Tryd.ntmps4
  go_wp2_with fail
  rw [← HW0.out]
  have y0 : Sl W0 (some ⟨w.heap.size, 0, none⟩) m z := by
    obtain ⟨A', c', hA, hy⟩ := hR0.ownB.bysN
    injection hA with h1 h2 h3
    rw [← h1, ← h3] at hy
    exact hy
  with_reducible refine Calls.mono (S0.out _ z m _ _ y0 hzl.symm (by omega) hB0) ?_
  rintro e w1 ⟨v1, rfl, o1, j1⟩
  have hR1 := OwnR.below hR0 j1
  obtain ⟨B1, s1⟩ := Below.next hB0 (Nat.le_of_lt hs0) j1
  have hR1' := hR1
  rw [← hzl] at hR1'
  obtain ⟨x0, hx0⟩ : ∃ x, x = z[t]'(by omega) := ⟨_, rfl⟩
  have hx00 : x0 = 0 := by rw [hx0]; exact HZ0.out t (by omega)
  obtain ⟨hc, hf⟩ := OwnR.cellAt hR1' (j := t) (by omega)
  rw [← hx0, hx00] at hc
  have e1 : (0 : Int) ≤ (t : Int) ∧ (t : Int) < (m : Int) := by omega
  go_wp2_with fail
  obtain ⟨W2, hW2⟩ : ∃ W2, W2 = w1.setCell ⟨w.heap.size, t, none⟩ (.int .u8 y.toNat) := ⟨_, rfl⟩
  have hR2 := OwnR.set hR1' t y
  have B2 : Below w.heap.size w W2 := by rw [hW2]; exact B1.setCell (Nat.le_refl _) _
  have M2 : Mod (fun k => k = w.heap.size) w1 W2 := by rw [hW2]; exact ⟨rfl, rfl, rfl, by simp, fun k hk hn => Below.heap_setCell _ _ _ k hn⟩
  have o2 := OwnB.mod o1.ownB M2 (o1.ownB.offV (fun k hk => by subst hk; exact hs0))
  rw [← hW2] at hR2 ⊢
  rw [hzl] at hR2
  have hzl2 : (z.set t y).length = m := by rw [List.length_set]; exact hzl
  generalize z.set t y = z2 at *
  have y2 : Sl W2 (some ⟨w.heap.size, 0, none⟩) m z2 := by
    obtain ⟨A', c', hA, hy⟩ := hR2.ownB.bysN
    injection hA with h1 h2 h3
    rw [← h1, ← h3] at hy
    exact hy
  clear hc hf hR1 hR1' hR0 j1 o1 y0 M2 hx0 hx00
  have HY := Lib.hid hy
  have HW2 := Lib.hid hW2
  clear hy hW2
  with_reducible refine Calls.mono (S0.out _ z2 m _ _ y2 hzl2.symm (by omega) B2) ?_
  rintro e w3 ⟨v3, rfl, o3, j3⟩
  obtain ⟨B3, s3⟩ := Below.next B2 B2.size j3
  have y3 := y2.on j3
  have o2 := o2.below j3 (Nat.le_refl _)
  have hsl := slice_pre (some ⟨w.heap.size, 0, none⟩) z2 m k0 (k0 : Int) (by omega) (by omega) rfl
  rw [hzl2] at hsl
  rw [show (z2.take k0).length = k0 by rw [List.length_take]; omega] at hsl
  have hk0l : k0 = (z2.take k0).length := by rw [List.length_take]; omega
  have y4 : Sl w3 (some ⟨w.heap.size, 0, none⟩) m (z2.take k0) := ⟨y3.bys.pre _, by rw [List.length_take]; omega, y3.max, y3.nil⟩
  have HK0 := Lib.hid hk0l
  have HZ2 := Lib.hid hzl2
  have h5 : (z2.take k0).length ≤ 1000 := by rw [List.length_take]; omega
  generalize z2.take k0 = z4 at *
  clear hk0l hzl2 hk0
  go_wp2_with fail
  with_reducible refine Calls.mono (S0.out _ z4 k0 _ _ y4 HK0.out h5 B3) ?_
  rintro e w4 ⟨v4, rfl, o4, j4⟩
  obtain ⟨B4, s4⟩ := Below.next B3 s3 j4
  have o2 := o2.below j4 (Nat.le_refl _)
  have o3 := (OwnR.below o3 j4).ownB
  have o4 := o4.ownB
  obtain ⟨A1, c1, hv1, y1⟩ := o2.bysN
  obtain ⟨A3, c3, hv3, y3'⟩ := o3.bysN
  obtain ⟨A4, c4, hv4, y4'⟩ := o4.bysN
  rw [sha_length] at hv1 hv3 hv4
  subst hv1 hv3 hv4
  have y3 := y3.on j4
  have y4 := y4.on j4
  clear o2 o3 o4 j4 j3 y2
  have hR5 := R.out w4
  have B5 : Below w.heap.size w (w4.alloc (.cells (madeCells #[.int .u8 0] m) 5)) := Below.alloc B4 s4 _
  have J5 : Below w4.heap.size w4 (w4.alloc (.cells (madeCells #[.int .u8 0] m) 5)) := Below.alloc (Below.refl _ _) (Nat.le_refl _) _
  have HB5 := Lib.hid B5
  have HJ5 := Lib.hid J5
  have HR5 : Hid (Sl (w4.alloc (.cells (madeCells #[.int .u8 0] m) 5)) (some ⟨w4.heap.size, 0, none⟩) m z) := Lib.hid (by
    obtain ⟨A', c', hA, hy⟩ := hR5.ownB.bysN
    injection hA with h1 h2 h3
    rw [← h1, ← h3] at hy
    exact hy)
  clear hR5 B5 J5
  go_wp2_with fail
  with_reducible refine Calls.mono (S1.out _ z m _ _ HR5.out hzl.symm (by omega)) ?_
  rintro e w6 ⟨v6, rfl, o6, j6⟩
  obtain ⟨J6, t6⟩ := Below.next HJ5.out HJ5.out.size j6
  obtain ⟨B6, s6⟩ := Below.next HB5.out HB5.out.size j6
  obtain ⟨A6, c6, hv6, y6⟩ := o6.bysN
  rw [sha_length] at hv6
  subst hv6
  clear o6 j6
  go_wp2_with fail
  with_reducible refine Calls.mono (E0.out _ _ z _ _ _ (y1.on J6).bys y6.bys) ?_
  rintro e w7 ⟨rfl, rfl⟩
  clear y6
  go_wp2_with fail
  with_reducible refine Calls.mono (S1.out _ z2 m _ _ (y3.on J6) HZ2.out.symm (by have := HZ2.out; omega)) ?_
  rintro e w7 ⟨v7, rfl, o7, j7⟩
  obtain ⟨J7, t7⟩ := Below.next J6 t6 j7
  obtain ⟨B7, s7⟩ := Below.next B6 s6 j7
  obtain ⟨A7, c7, hv7, y7⟩ := o7.bysN
  rw [sha_length] at hv7
  subst hv7
  clear o7 j7
  go_wp2_with fail
  with_reducible refine Calls.mono (E0.out _ _ z2 _ _ _ (y3'.on J7).bys y7.bys) ?_
  rintro e w8 ⟨rfl, rfl⟩
  clear y7
  go_wp2_with fail
  with_reducible refine Calls.mono (S1.out _ z4 k0 _ _ (y4.on J7) HK0.out h5) ?_
  rintro e w8 ⟨v8, rfl, o8, j8⟩
  obtain ⟨J8, t8⟩ := Below.next J7 t7 j8
  obtain ⟨B8, s8⟩ := Below.next B7 s7 j8
  obtain ⟨A8, c8, hv8, y8⟩ := o8.bysN
  rw [sha_length] at hv8
  subst hv8
  clear o8 j8
  go_wp2_with fail
  with_reducible refine Calls.mono (E0.out _ _ z4 _ _ _ (y4'.on J8).bys y8.bys) ?_
  rintro e w9 ⟨rfl, rfl⟩
  go_wp2_with fail
  go_ret
  exact ⟨rfl, B8⟩
end Go.Proofs.YtkpnhbjdpbjfjaaDoor
