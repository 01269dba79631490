/-
  The walks of RdataOthers and RdataNamed.
-/
import Derived.Test.YtbcgpdoljcokgaaRcF
import Derived.Test.YtbcgpdoljcokgaaRdP
namespace Go.Proofs.Ytbcgpdoljcokgaa
open Go.RowKit
set_option linter.unusedVariables false

theorem canD_other {t : Int} {l : Bs} (h1 : 256 ≤ t) (h2 : t ≤ 65535) (hl : l.length ≤ 65535) : canD t l = true := by
  rw [canD_in (by omega), if_neg (by omega), if_neg (by omega), if_neg (by omega), if_neg (by omega), if_neg (by omega), if_neg (by omega), if_neg (by omega)]
theorem namesD_other {t : Int} {l : Bs} (h1 : 256 ≤ t) : namesD t l = [] := by
  unfold namesD
  split
  · rw [if_neg (by omega), if_neg (by omega), if_neg (by omega)]
  · rfl

theorem other_type (t : Int) : 256 ≤ wrap64 (256 + wrap64 ((IntKind.u64.wrap t).tmod 65280)) ∧ wrap64 (256 + wrap64 ((IntKind.u64.wrap t).tmod 65280)) ≤ 65535 := by
  have h0 : 0 ≤ IntKind.u64.wrap t := by rw [IntKind.wrap_u64]; omega
  rw [Int.tmod_eq_emod_of_nonneg h0]
  generalize IntKind.u64.wrap t = u at *
  unfold wrap64
  omega

set_option maxHeartbeats 400000 in
set_option maxRecDepth 100000 in
theorem Others_any (t : Int) (A : Option Addr) (l : Bs) (c : Nat) (w : World) (hS : Bys w A l) (hc : l.length ≤ c) (hcm : c ≤ 9223372036854775807) :
    Calls Try.prog 8 #[.int .i64 t, .slice A l.length c] w fun e w' => e = .returned (.bool true) ∧ Below w.heap.size w w' := by
  obtain ⟨k, hk⟩ : ∃ k, k = min l.length 65535 := ⟨_, rfl⟩
  have hkl : k ≤ l.length := by omega
  have hpre := slice_pre A l c k (min (l.length : Int) 65535) hkl hc (by omega)
  have hB := hS.pre k
  have hxl : (l.take k).length ≤ 65535 := by rw [List.length_take]; omega
  have hxc : (l.take k).length ≤ c := by rw [List.length_take]; omega
  generalize l.take k = x at *
  have C1 := Lib.hid (fun (T : Int) W (h1 : 256 ≤ T) (h2 : T ≤ 65535) (hW : Bys W A x) => by have := dCan_any T A x c W hW hxc hcm; rw [canD_other h1 h2 hxl] at this; exact this)
  have C2 := Lib.hid (fun (T : Int) W (h1 : 256 ≤ T) (hW : Bys W A x) => by have := dNames_any T A x c W hW hxc hcm; rw [namesD_other h1] at this; exact this)
  have C3 := Lib.hid (fun W (hW : Bys W A x) => by have := dCan_any (-1) A x c W hW hxc hcm; rw [canD_far (by omega)] at this; exact this)
  have C4 := Lib.hid (fun W (hW : Bys W A x) => by have := dCan_any 65536 A x c W hW hxc hcm; rw [canD_far (by omega)] at this; exact this)
  clear hxl hxc hk hkl
  go_enter Try.func8, Try.ntmps8
  go_wp2_with fail
  obtain ⟨g1, g2⟩ := other_type t
  generalize wrap64 (256 + wrap64 ((IntKind.u64.wrap t).tmod 65280)) = T at *
  refine (C1.out T _ g1 g2 hB).mono ?_
  rintro e w1 ⟨rfl, b1⟩
  have s1 := b1.size
  go_wp2_with fail
  refine (C2.out T _ g1 (hB.on b1)).mono ?_
  rintro e w2 ⟨B, d, rfl, _, _, b2⟩
  obtain ⟨b2, s2⟩ := Below.next b1 s1 b2
  clear b1 s1
  go_wp2_with fail
  refine (C3.out _ (hB.on b2)).mono ?_
  rintro e w3 ⟨rfl, b3⟩
  obtain ⟨b3, s3⟩ := Below.next b2 s2 b3
  clear b2 s2
  go_wp2_with fail
  refine (C4.out _ (hB.on b3)).mono ?_
  rintro e w4 ⟨rfl, b4⟩
  obtain ⟨b4, s4⟩ := Below.next b3 s3 b4
  go_wp2_with fail
  go_ret
  exact ⟨rfl, b4⟩
theorem tab_len (r : Nat) : (tab r).length ≤ 3 := by
  unfold tab
  split <;> simp
theorem enc_tab : ∀ l : Bs, (enc (l.map fun c => tab (c.toNat % 6))).length ≤ 4 * l.length
  | [] => by simp [enc]
  | c :: l => by
    have := enc_tab l
    have := tab_len (c.toNat % 6)
    rw [List.map_cons, enc_len_cons]
    simp; omega
theorem join_nameOf (l : Bs) : can (join (nameOf l)) = true ∧ labels (join (nameOf l)) = nameOf l :=
  can_join (nameOf_lab l) (by
    have := enc_tab (l.take 4)
    rw [List.length_take] at this
    rw [join_len]
    unfold nameOf
    omega)


theorem canD_name {t : Int} {n : Bs} (ht : t = 2 ∨ t = 5 ∨ t = 12) (hn : n.length ≤ 65535) : canD t n = can n := by
  rw [canD_in (by omega), if_neg (by omega), if_neg (by omega), if_pos ht]
theorem namesD_name {t : Int} {n : Bs} (ht : t = 2 ∨ t = 5 ∨ t = 12) (hc : can n = true) : namesD t n = [n] := by
  have hl := (can_out hc).1
  rw [namesD_in (by rw [canD_name ht (by omega), hc]), if_pos ht]
theorem canD_mx2 {n : Bs} (hc : can n = true) : canD 15 ([97, 98] ++ n) = true := by
  have hl := (can_out hc).1
  have h0 := List.length_pos_iff.2 (can_ne hc)
  rw [canD_in (by simp; omega), if_neg (by omega), if_neg (by omega), if_neg (by omega), if_pos rfl]
  simp [hc]; omega
theorem three (t : Int) : ∃ r : Nat, wrap64 ((IntKind.u64.wrap t).tmod 3) = r ∧ r < 3 := by
  have h0 : 0 ≤ IntKind.u64.wrap t := by rw [IntKind.wrap_u64]; omega
  rw [Int.tmod_eq_emod_of_nonneg h0]
  generalize IntKind.u64.wrap t = u at *
  refine ⟨(u % 3).toNat, ?_, by omega⟩
  unfold wrap64
  omega

set_option maxHeartbeats 1000000 in
set_option maxRecDepth 100000 in
theorem Named_any (A : Option Addr) (l : Bs) (c : Nat) (t : Int) (w : World) (hS : Bys w A l) (hc : l.length ≤ c) (hcm : c ≤ 9223372036854775807) :
    Calls Try.prog 6 #[.slice A l.length c, .int .i64 t] w fun e w' => e = .returned (.bool true) ∧ Below w.heap.size w w' := by
  have N := Lib.hid (Name_any A c l w hS hc hcm)
  have hcan := (join_nameOf l).1
  generalize join (nameOf l) = n at *
  have hl := (can_out hcan).1
  obtain ⟨r, hr, hr3⟩ := three t
  obtain ⟨T, hT, hTr⟩ : ∃ T : Int, (T = 2 ∨ T = 5 ∨ T = 12) ∧ #[Value.int .i64 2, .int .i64 5, .int .i64 12][r]? = some (.int .i64 T) := by
    match r, hr3 with
    | 0, _ => exact ⟨2, by simp, rfl⟩
    | 1, _ => exact ⟨5, by simp, rfl⟩
    | 2, _ => exact ⟨12, by simp, rfl⟩
  have X1 := Lib.hid (fun B d W (hW : Bys W B n) (h1 : n.length ≤ d) (h2 : d ≤ 9223372036854775807) => by have := dCan_any T B n d W hW h1 h2; rw [canD_name hT (by omega), hcan] at this; exact this)
  have X2 := Lib.hid (fun B d W (hW : Bys W B n) (h1 : n.length ≤ d) (h2 : d ≤ 9223372036854775807) => by have := dNames_any T B n d W hW h1 h2; rw [namesD_name hT hcan] at this; exact this)
  have X3 := Lib.hid (fun B d W (hW : Bys W B (n ++ [97])) (h1 : (n ++ [97]).length ≤ d) (h2 : d ≤ 9223372036854775807) => by have := dCan_any T B (n ++ [97]) d W hW h1 h2; rw [canD_name hT (by simp; omega), can_more hcan (by simp)] at this; exact this)
  have X4 := Lib.hid (fun B d W (hW : Bys W B ([97, 98] ++ n)) (h1 : ([97, 98] ++ n).length ≤ d) (h2 : d ≤ 9223372036854775807) => by have := dCan_any 15 B ([97, 98] ++ n) d W hW h1 h2; rw [canD_mx2 hcan] at this; exact this)
  have X5 := Lib.hid (fun W => by have := rCan_any n W; rw [hcan] at this; exact this)
  have X6 := Lib.hid (fun B D k d W (hW : Strs W B [n]) (hX : Strs W D [n]) => by have := EqualS_any B D [n] [n] 1 1 k d W hW hX rfl rfl (by omega); rw [show ([n] == [n]) = true by simp] at this; exact this)
  have hlen3 : (n ++ [97]).length ≤ 300 := by simp; omega
  have hlen4 : ([97, 98] ++ n).length ≤ 300 := by simp; omega
  have hr3' : (r : Int) < 3 := by omega
  have V1 := Lib.hid (fun W => conv_own n W (by omega))
  have V3 := Lib.hid (fun W => by have := conv_own (n ++ [97]) W (by omega); rw [← bs_append] at this; exact this)
  have V4 := Lib.hid (fun W => by have := conv_own ([97, 98] ++ n) W (by omega); rw [← bs_append] at this; exact this)
  obtain ⟨z3, hz3⟩ : ∃ z, z = n ++ [97] := ⟨_, rfl⟩
  obtain ⟨z4, hz4⟩ : ∃ z, z = [97, 98] ++ n := ⟨_, rfl⟩
  rw [← hz3] at X3 V3 hlen3
  rw [← hz4] at X4 V4 hlen4
  clear hz3 hz4 hcan hT hr3
  have hmax : ∀ d, d ≤ maxLen → d ≤ 9223372036854775807 := fun d h => by unfold maxLen at h; omega
  have HMAX := Lib.hid hmax
  clear hmax
  go_enter Try.func6, Try.ntmps6
  go_wp2_with fail
  refine N.out.mono ?_
  rintro e w1 ⟨rfl, b1⟩
  have s1 := b1.size
  have c6 : (w1.alloc (Obj.cells #[.int .i64 2, .int .i64 5, .int .i64 12] 3)).cell? ⟨w1.heap.size, r, none⟩ = some (.int .i64 T) := (cell_of_row _ _ _ _ _ _ (row_new _ rfl)).trans hTr
  have b2 : Below w.heap.size w (w1.alloc (Obj.cells #[.int .i64 2, .int .i64 5, .int .i64 12] 3)) := Below.alloc b1 s1 _
  have s2 := b2.size
  obtain ⟨v, w3, hcv, hown, b3⟩ := V1.out (w1.alloc (Obj.cells #[.int .i64 2, .int .i64 5, .int .i64 12] 3))
  obtain ⟨b3, s3⟩ := Below.next b2 s2 b3
  clear N hTr b1 b2 s1 s2
  obtain ⟨B, d, rfl, hB, hd, hdm⟩ := hown.bys
  clear hown
  go_wp2_with fail
  clear c6 hcv
  refine (X1.out B d _ hB hd (HMAX.out d hdm)).mono ?_
  rintro e w4 ⟨rfl, b4⟩
  obtain ⟨b4, s4⟩ := Below.next b3 s3 b4
  clear b3 s3 hB hd hdm
  obtain ⟨v, w5, hcv, hown, b5⟩ := V1.out w4
  obtain ⟨b5, s5⟩ := Below.next b4 s4 b5
  obtain ⟨B, d, rfl, hB, hd, hdm⟩ := hown.bys
  clear hown b4 s4
  go_wp2_with fail
  clear hcv
  refine (X2.out B d _ hB hd (HMAX.out d hdm)).mono ?_
  rintro e w6 ⟨B6, d6, rfl, st6, _, b6⟩
  obtain ⟨b6, s6⟩ := Below.next b5 s5 b6
  clear b5 s5 hB hd hdm
  go_wp2_with fail
  have st7 : Strs (w6.alloc (.cells #[.string (bs n)] 9)) (some ⟨w6.heap.size, 0, none⟩) [n] := strs_one
  have st6' := st6.on (w1 := w6.alloc (.cells #[.string (bs n)] 9)) (Below.alloc (Below.refl _ _) (Nat.le_refl _) _)
  have b7 := Below.alloc (o := .cells #[.string (bs n)] 9) b6 s6
  have s7 := b7.size
  clear b6 s6 st6
  refine (X6.out _ _ _ _ _ st6' st7).mono ?_
  rintro e w8 ⟨rfl, b8⟩
  obtain ⟨b8, s8⟩ := Below.next b7 s7 b8
  clear b7 s7 st6' st7
  obtain ⟨v, w9, hcv, hown, b9⟩ := V3.out w8
  obtain ⟨b9, s9⟩ := Below.next b8 s8 b9
  obtain ⟨B, d, rfl, hB, hd, hdm⟩ := hown.bys
  clear hown b8 s8
  go_wp2_with fail
  clear hcv
  refine (X3.out B d _ hB hd (HMAX.out d hdm)).mono ?_
  rintro e w10 ⟨rfl, b10⟩
  obtain ⟨b10, s10⟩ := Below.next b9 s9 b10
  clear b9 s9 hB hd hdm
  obtain ⟨v, w11, hcv, hown, b11⟩ := V4.out w10
  obtain ⟨b11, s11⟩ := Below.next b10 s10 b11
  obtain ⟨B, d, rfl, hB, hd, hdm⟩ := hown.bys
  clear hown b10 s10
  go_wp2_with fail
  clear hcv
  refine (X4.out B d _ hB hd (HMAX.out d hdm)).mono ?_
  rintro e w12 ⟨rfl, b12⟩
  obtain ⟨b12, s12⟩ := Below.next b11 s11 b12
  clear b11 s11 hB hd hdm
  go_wp2_with fail
  refine (X5.out _).mono ?_
  rintro e w13 ⟨rfl, rfl⟩
  go_wp2_with fail
  go_ret
  exact ⟨rfl, b12⟩
end Go.Proofs.Ytbcgpdoljcokgaa
