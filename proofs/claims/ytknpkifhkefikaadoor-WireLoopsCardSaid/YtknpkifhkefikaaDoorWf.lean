/-
  The document's own small functions of layer 2 by contracts: short, bit, Can.
  The document's own answer for a header's bytes, by its contract.
-/
import Derived.Test.YtknpkifhkefikaaDoorWe
import Derived.Deep.RegionWith
namespace Go.Proofs.YtknpkifhkefikaaDoor
open Go.RowKit

set_option maxHeartbeats 400000 in
theorem short_any (n : Int) (w : World) :
    Calls Tryd.prog 82 #[.int .i64 n] w fun e w' => e = .returned (.bool (decide (0 ≤ n) && decide (n ≤ 65535))) ∧ w = w' := by
  by_cases h : 0 ≤ n
  · go_enter Tryd.func82, Tryd.ntmps82
    go_wp2
    go_ret
    exact ⟨by simp [h], rfl⟩
  · go_enter Tryd.func82, Tryd.ntmps82
    go_wp2
    go_ret
    exact ⟨by simp; omega, rfl⟩

theorem short_yes (n : Int) (w : World) (h : 0 ≤ n ∧ n ≤ 65535) : Calls Tryd.prog 82 #[.int .i64 n] w fun e w' => e = .returned (.bool true) ∧ w = w' :=
  (short_any n w).mono fun _ _ ⟨he, hw⟩ => ⟨by rw [he]; simp [h.1, h.2], hw⟩
theorem short_no (n : Int) (w : World) (h : ¬ (0 ≤ n ∧ n ≤ 65535)) : Calls Tryd.prog 82 #[.int .i64 n] w fun e w' => e = .returned (.bool false) ∧ w = w' :=
  (short_any n w).mono fun _ _ ⟨he, hw⟩ => ⟨by rw [he]; simp; omega, hw⟩

set_option maxHeartbeats 400000 in
theorem bit_any (b : Bool) (k : Nat) (w : World) (h1 : k ≤ 15) :
    Calls Tryd.prog 75 #[.bool b, .int .i64 k] w fun e w' => e = .returned (.int .i64 (bi b * ((2 ^ k : Nat) : Int))) ∧ w = w' := by
  have hw : wrap64 (((2 ^ k : Nat) : Int)) = ((2 ^ k : Nat) : Int) := by
    have hp : (2 ^ k : Nat) ≤ 2 ^ 15 := Nat.pow_le_pow_right (by decide) h1
    generalize 2 ^ k = m at hp
    exact IntWalk.wrap64_in _ ⟨by omega, by omega⟩
  cases b
  · go_enter Tryd.func75, Tryd.ntmps75
    go_wp2
    go_ret
    exact ⟨by simp [bi], rfl⟩
  · go_enter Tryd.func75, Tryd.ntmps75
    go_wp2
    go_ret
    exact ⟨by simp at hw; simp [bi, hw], rfl⟩

set_option maxHeartbeats 800000 in
theorem hCan_any (i o c n0 n1 n2 n3 : Int) (r aa tc rd ra : Bool) (w : World) :
    Calls Tryd.prog 42 #[hdV i r o aa tc rd ra c, ctV n0 n1 n2 n3] w fun e w' => e = .returned (.bool (canH i o c n0 n1 n2 n3)) ∧ Below w.heap.size w w' := by
  have i0 : ∀ w : World, (Instr.index 63 (ctV n0 n1 n2 n3) (.int .i64 0)).run Tryd.prog w = .ok (.int .i64 n0) w := fun _ => by kernel_rfl
  have i1 : ∀ w : World, (Instr.index 63 (ctV n0 n1 n2 n3) (.int .i64 1)).run Tryd.prog w = .ok (.int .i64 n1) w := fun _ => by kernel_rfl
  have i2 : ∀ w : World, (Instr.index 63 (ctV n0 n1 n2 n3) (.int .i64 2)).run Tryd.prog w = .ok (.int .i64 n2) w := fun _ => by kernel_rfl
  have i3 : ∀ w : World, (Instr.index 63 (ctV n0 n1 n2 n3) (.int .i64 3)).run Tryd.prog w = .ok (.int .i64 n3) w := fun _ => by kernel_rfl
  go_enter Tryd.func42, Tryd.ntmps42
  go_wp2
  go_loop [8] (fun v => ∃ k : Nat, k ≤ 4 ∧ v = .int .i64 k ∧ (0 < k → 0 ≤ n0 ∧ n0 ≤ 65535) ∧ (1 < k → 0 ≤ n1 ∧ n1 ≤ 65535) ∧ (2 < k → 0 ≤ n2 ∧ n2 ≤ 65535) ∧ (3 < k → 0 ≤ n3 ∧ n3 ≤ 65535)) (fun v => 4 - (intOf v).toNat)
  case atStart => exact ⟨0, by omega, rfl, by omega, by omega, by omega, by omega⟩
  case round =>
    obtain ⟨k, hk, rfl, a0, a1, a2, a3⟩ := hrel
    have hk5 : k = 0 ∨ k = 1 ∨ k = 2 ∨ k = 3 ∨ k = 4 := by omega
    rcases hk5 with rfl | rfl | rfl | rfl | rfl
    · by_cases hf : 0 ≤ n0 ∧ n0 ≤ 65535
      · go_wp2_with (go_at_call 82; refine (short_yes _ _ hf).mono ?_; rintro e w' ⟨rfl, rfl⟩)
        exact ⟨⟨1, by omega, rfl, by omega, by omega, by omega, by omega⟩, by simp [intOf]⟩
      · go_wp2_with (go_at_call 82; refine (short_no _ _ hf).mono ?_; rintro e w' ⟨rfl, rfl⟩)
        go_ret
        exact ⟨ret_bool (canH_false (by omega)).symm, by go_grown⟩
    · by_cases hf : 0 ≤ n1 ∧ n1 ≤ 65535
      · go_wp2_with (go_at_call 82; refine (short_yes _ _ hf).mono ?_; rintro e w' ⟨rfl, rfl⟩)
        exact ⟨⟨2, by omega, rfl, by omega, by omega, by omega, by omega⟩, by simp [intOf]⟩
      · go_wp2_with (go_at_call 82; refine (short_no _ _ hf).mono ?_; rintro e w' ⟨rfl, rfl⟩)
        go_ret
        exact ⟨ret_bool (canH_false (by omega)).symm, by go_grown⟩
    · by_cases hf : 0 ≤ n2 ∧ n2 ≤ 65535
      · go_wp2_with (go_at_call 82; refine (short_yes _ _ hf).mono ?_; rintro e w' ⟨rfl, rfl⟩)
        exact ⟨⟨3, by omega, rfl, by omega, by omega, by omega, by omega⟩, by simp [intOf]⟩
      · go_wp2_with (go_at_call 82; refine (short_no _ _ hf).mono ?_; rintro e w' ⟨rfl, rfl⟩)
        go_ret
        exact ⟨ret_bool (canH_false (by omega)).symm, by go_grown⟩
    · by_cases hf : 0 ≤ n3 ∧ n3 ≤ 65535
      · go_wp2_with (go_at_call 82; refine (short_yes _ _ hf).mono ?_; rintro e w' ⟨rfl, rfl⟩)
        exact ⟨⟨4, by omega, rfl, by omega, by omega, by omega, by omega⟩, by simp [intOf]⟩
      · go_wp2_with (go_at_call 82; refine (short_no _ _ hf).mono ?_; rintro e w' ⟨rfl, rfl⟩)
        go_ret
        exact ⟨ret_bool (canH_false (by omega)).symm, by go_grown⟩
    · by_cases hf : 0 ≤ i ∧ i ≤ 65535
      · go_wp2_with (go_at_call 82; refine (short_yes _ _ hf).mono ?_; rintro e w' ⟨rfl, rfl⟩)
        all_goals first
          | (go_ret; exact ⟨ret_bool (canH_false (by omega)).symm, by go_grown⟩)
          | (go_ret; exact ⟨ret_bool (canH_iff (by omega)), by go_grown⟩)
      · go_wp2_with (go_at_call 82; refine (short_no _ _ hf).mono ?_; rintro e w' ⟨rfl, rfl⟩)
        go_ret
        exact ⟨ret_bool (canH_false (by omega)).symm, by go_grown⟩

end Go.Proofs.YtknpkifhkefikaaDoor
namespace Go.Proofs.YtknpkifhkefikaaDoor
open Go.RowKit

theorem cells6 {W : World} {g : Nat} {t : TypeId} {c0 c1 c2 c3 c4 c5 : Value} (h : W.heap[g]? = some (.cells #[c0, c1, c2, c3, c4, c5] t (0, 0))) :
    W.cell? ⟨g, 0, none⟩ = some c0 ∧ W.cell? ⟨g, 1, none⟩ = some c1 ∧ W.cell? ⟨g, 2, none⟩ = some c2 ∧ W.cell? ⟨g, 3, none⟩ = some c3 ∧ W.cell? ⟨g, 4, none⟩ = some c4 ∧ W.cell? ⟨g, 5, none⟩ = some c5 ∧ W.frozen? ⟨g, 0, none⟩ = false ∧ W.frozen? ⟨g, 1, none⟩ = false ∧ W.frozen? ⟨g, 2, none⟩ = false ∧ W.frozen? ⟨g, 3, none⟩ = false ∧ W.frozen? ⟨g, 4, none⟩ = false ∧ W.frozen? ⟨g, 5, none⟩ = false :=
  ⟨(cell_of_row _ _ _ _ _ _ h).trans rfl, (cell_of_row _ _ _ _ _ _ h).trans rfl, (cell_of_row _ _ _ _ _ _ h).trans rfl, (cell_of_row _ _ _ _ _ _ h).trans rfl, (cell_of_row _ _ _ _ _ _ h).trans rfl, (cell_of_row _ _ _ _ _ _ h).trans rfl, frozen_of_row _ _ _ _ _ h, frozen_of_row _ _ _ _ _ h, frozen_of_row _ _ _ _ _ h, frozen_of_row _ _ _ _ _ h, frozen_of_row _ _ _ _ _ h, frozen_of_row _ _ _ _ _ h⟩

theorem bit_at (b : Bool) (k : Nat) (j m : Int) (w : World) (hj : j = k) (hm : ((2 ^ k : Nat) : Int) = m) (h1 : k ≤ 15) :
    Calls Tryd.prog 75 #[.bool b, .int .i64 j] w fun e w' => e = .returned (.int .i64 (bi b * m)) ∧ w' = w := by
  subst hj hm
  exact (bit_any b k w h1).mono fun _ _ ⟨he, hw⟩ => ⟨he, hw.symm⟩

set_option maxHeartbeats 1000000 in
set_option maxRecDepth 100000 in
theorem refEncode_no (i o c n0 n1 n2 n3 : Int) (r aa tc rd ra : Bool) (w : World) (h : canH i o c n0 n1 n2 n3 = false) :
    Calls Tryd.prog 34 #[hdV i r o aa tc rd ra c, ctV n0 n1 n2 n3] w fun e w' => e = .returned (.tuple #[.slice none 0 0, .int .i64 1]) ∧ Below w.heap.size w w' := by
  go_enter Tryd.func34, Tryd.ntmps34
  go_wp2_with fail
  refine (hCan_any _ _ _ _ _ _ _ _ _ _ _ _ _).mono ?_
  rintro e w' ⟨rfl, hB⟩
  go_wp2_with fail
  go_ret2
  refine ⟨rfl, Below.trans ?_ (hB.mono (by simp; omega))⟩
  (repeat first | (with_reducible exact Below.refl _ _) | (with_reducible assumption) | (with_reducible refine below_drewN ?_ _) | (with_reducible refine Below.drew ?_) | (with_reducible refine Below.alloc ?_ (by go_size) _) | (with_reducible refine Below.setCell ?_ (by go_size) _))

/-- The bytes behind k of the six numbers. -/
def refK (i fl n0 n1 n2 n3 : Int) : Nat → List Value
  | 0 => []
  | 1 => [.int .u8 (i / 256), .int .u8 (i % 256)]
  | k + 2 => encK i fl n0 n1 n2 n3 k

set_option maxHeartbeats 2000000 in
set_option maxRecDepth 100000 in
theorem refEncode_yes (i o c n0 n1 n2 n3 : Int) (r aa tc rd ra : Bool) (w : World) (h : canH i o c n0 n1 n2 n3 = true) :
    Calls Tryd.prog 34 #[hdV i r o aa tc rd ra c, ctV n0 n1 n2 n3] w fun e w' => ∃ v, e = .returned (.tuple #[v, .int .i64 0]) ∧ w'.ownsRow w.heap.size 5 1 v 12 (encB i (flags o c r aa tc rd ra) n0 n1 n2 n3) ∧ Below w.heap.size w w' := by
  obtain ⟨b0, b1, b2, b3, bI, bO, bC⟩ := canH_out h
  have dr := bi_bd r
  have daa := bi_bd aa
  have dtc := bi_bd tc
  have drd := bi_bd rd
  have dra := bi_bd ra
  go_enter Tryd.func34, Tryd.ntmps34
  go_wp2_with fail
  refine (hCan_any _ _ _ _ _ _ _ _ _ _ _ _ _).mono ?_
  rintro e w1 ⟨rfl, hB1⟩
  have hB : Below w.heap.size w w1 := Below.trans (by (repeat first | (with_reducible exact Below.refl _ _) | (with_reducible assumption) | (with_reducible refine below_drewN ?_ _) | (with_reducible refine Below.drew ?_) | (with_reducible refine Below.alloc ?_ (by go_size) _) | (with_reducible refine Below.setCell ?_ (by go_size) _))) (hB1.mono (by simp; omega))
  have s1 : w.heap.size + 1 < w1.heap.size := by have := hB1.size; simp at this; omega
  have s0 : w.heap.size < w1.heap.size := by omega
  have r2 := (hB1.block w.heap.size (by simp; omega)).trans (rows2 w _ _ 0).1
  have r3 := (hB1.block (w.heap.size + 1) (by simp)).trans (rows2 w _ _ 0).2
  have c2 := cells8 r2
  have c3 := cells4 r3
  clear r2 r3 hB1
  go_wp2_with fail
  go_quiet ((first | (go_at_call_of 75 (Value.bool r); exact Calls.quiet_of_same (bit_at r 15 _ 32768 _ (by rfl) (by decide) (by decide))) | (go_at_call_of 75 (Value.bool aa); exact Calls.quiet_of_same (bit_at aa 10 _ 1024 _ (by rfl) (by decide) (by decide))) | (go_at_call_of 75 (Value.bool tc); exact Calls.quiet_of_same (bit_at tc 9 _ 512 _ (by rfl) (by decide) (by decide))) | (go_at_call_of 75 (Value.bool rd); exact Calls.quiet_of_same (bit_at rd 8 _ 256 _ (by rfl) (by decide) (by decide))) | (go_at_call_of 75 (Value.bool ra); exact Calls.quiet_of_same (bit_at ra 7 _ 128 _ (by rfl) (by decide) (by decide)))))
  go_wp2_with fail
  have eF : bi r * 32768 + o * 2048 + bi aa * 1024 + bi tc * 512 + bi rd * 256 + bi ra * 128 + c = flags o c r aa tc rd ra := by simp only [flags, flk]; omega
  have bF := flags_bd r aa tc rd ra bO bC
  rw [eF]
  generalize hW : World.alloc (w1.drewN nq) _ = W
  have rI : W.heap[w1.heap.size]? = some (.cells #[.int .i64 i, .int .i64 (flags o c r aa tc rd ra), .int .i64 n0, .int .i64 n1, .int .i64 n2, .int .i64 n3] 3 (0, 0)) := by rw [← hW]; exact hrow_new _ rfl
  have sW : w1.heap.size + 1 = W.heap.size := by rw [← hW]; simp
  have hBW : Below w.heap.size w W := by rw [← hW]; exact (below_drewN hB nq).alloc (by simp; omega) _
  clear c2 c3 hB hW eF
  have SW := Lib.hid sW
  have RI := Lib.hid rI
  clear sW rI
  obtain ⟨i0, hi, hz0, hz1, hz2⟩ := info_parts hinfo_u8
  go_loopw [7, 53] (fun x v wr => ∃ k : Nat, k ≤ 6 ∧ v = .int .i64 k ∧ wr.ownsRow W.heap.size 5 1 x (2 * k) (refK i (flags o c r aa tc rd ra) n0 n1 n2 n3 k) ∧ Below W.heap.size W wr) (fun _ v _ => 6 - (intOf v).toNat)
  case atStart => exact ⟨0, by omega, rfl, World.ownsRow_nil _ _ _ _, Below.refl _ _⟩
  case round =>
    obtain ⟨k, hk, rfl, hown, hBk⟩ := hrel
    have sk := hBk.size
    have lt1 : w1.heap.size < W.heap.size := by have := SW.out; omega
    have rk := (hBk.block w1.heap.size lt1).trans RI.out
    obtain ⟨a0, a1, a2, a3, a4, a5, _⟩ := cells6 rk
    have HX : Hid (wr.ownsRow W.heap.size 5 1 u7 (2 * k) (refK i (flags o c r aa tc rd ra) n0 n1 n2 n3 k)) := Lib.hid hown
    clear rk hown
    have hk5 : k = 0 ∨ k = 1 ∨ k = 2 ∨ k = 3 ∨ k = 4 ∨ k = 5 ∨ k = 6 := by omega
    rcases hk5 with rfl | rfl | rfl | rfl | rfl | rfl | rfl
    · go_wp2_with (at_builtin; refine wpList_append_own _ rfl _ _ 29 rfl W.heap.size 5 i0 (.int .u8 0) 1 1 Tryd.underlying29 hi hz0 hz1 hz2 rfl (by decide) _ 0 _ rfl (HX.out.alloc _) ⟨wr.heap.size, 0, none⟩ 2 2 [.int .u8 (i / 256), .int .u8 (i % 256)] rfl rfl ?a1 ?a2 ?a3 ?a4 ?a5 ?_)
      case a1 => exact World.news_of_block (cs := #[.int .u8 (i / 256), .int .u8 (i % 256)]) (t := 5) (fr := (0, 0)) (heap_alloc_new wr _)
      case a2 => simp [Value.oneCell']
      case a3 => unfold maxLen; omega
      case a4 => omega
      case a5 => simp; omega
      intro v' w2 hown' hgrow _
      have hb2 := hBk.trans (below_grown HX.out sk hgrow)
      clear hgrow
      go_wp2_with fail
      go_roundw
      case rel => first | exact ⟨1, by omega, rfl, hown', hb2⟩ | ((repeat apply Exists.intro); exact ⟨⟨1, by omega, rfl, hown', hb2⟩, rfl⟩)
      case measure => simp [intOf]
    · go_wp2_with (at_builtin; refine wpList_append_own _ rfl _ _ 29 rfl W.heap.size 5 i0 (.int .u8 0) 1 1 Tryd.underlying29 hi hz0 hz1 hz2 rfl (by decide) _ 2 _ rfl (HX.out.alloc _) ⟨wr.heap.size, 0, none⟩ 2 2 [.int .u8 ((flags o c r aa tc rd ra) / 256), .int .u8 ((flags o c r aa tc rd ra) % 256)] rfl rfl ?a1 ?a2 ?a3 ?a4 ?a5 ?_)
      case a1 => exact World.news_of_block (cs := #[.int .u8 ((flags o c r aa tc rd ra) / 256), .int .u8 ((flags o c r aa tc rd ra) % 256)]) (t := 5) (fr := (0, 0)) (heap_alloc_new wr _)
      case a2 => simp [Value.oneCell']
      case a3 => unfold maxLen; omega
      case a4 => omega
      case a5 => simp; omega
      intro v' w2 hown' hgrow _
      have hb2 := hBk.trans (below_grown HX.out sk hgrow)
      clear hgrow
      go_wp2_with fail
      go_roundw
      case rel => first | exact ⟨2, by omega, rfl, hown', hb2⟩ | ((repeat apply Exists.intro); exact ⟨⟨2, by omega, rfl, hown', hb2⟩, rfl⟩)
      case measure => simp [intOf]
    · go_wp2_with (at_builtin; refine wpList_append_own _ rfl _ _ 29 rfl W.heap.size 5 i0 (.int .u8 0) 1 1 Tryd.underlying29 hi hz0 hz1 hz2 rfl (by decide) _ 4 _ rfl (HX.out.alloc _) ⟨wr.heap.size, 0, none⟩ 2 2 [.int .u8 (n0 / 256), .int .u8 (n0 % 256)] rfl rfl ?a1 ?a2 ?a3 ?a4 ?a5 ?_)
      case a1 => exact World.news_of_block (cs := #[.int .u8 (n0 / 256), .int .u8 (n0 % 256)]) (t := 5) (fr := (0, 0)) (heap_alloc_new wr _)
      case a2 => simp [Value.oneCell']
      case a3 => unfold maxLen; omega
      case a4 => omega
      case a5 => simp; omega
      intro v' w2 hown' hgrow _
      have hb2 := hBk.trans (below_grown HX.out sk hgrow)
      clear hgrow
      go_wp2_with fail
      go_roundw
      case rel => first | exact ⟨3, by omega, rfl, hown', hb2⟩ | ((repeat apply Exists.intro); exact ⟨⟨3, by omega, rfl, hown', hb2⟩, rfl⟩)
      case measure => simp [intOf]
    · go_wp2_with (at_builtin; refine wpList_append_own _ rfl _ _ 29 rfl W.heap.size 5 i0 (.int .u8 0) 1 1 Tryd.underlying29 hi hz0 hz1 hz2 rfl (by decide) _ 6 _ rfl (HX.out.alloc _) ⟨wr.heap.size, 0, none⟩ 2 2 [.int .u8 (n1 / 256), .int .u8 (n1 % 256)] rfl rfl ?a1 ?a2 ?a3 ?a4 ?a5 ?_)
      case a1 => exact World.news_of_block (cs := #[.int .u8 (n1 / 256), .int .u8 (n1 % 256)]) (t := 5) (fr := (0, 0)) (heap_alloc_new wr _)
      case a2 => simp [Value.oneCell']
      case a3 => unfold maxLen; omega
      case a4 => omega
      case a5 => simp; omega
      intro v' w2 hown' hgrow _
      have hb2 := hBk.trans (below_grown HX.out sk hgrow)
      clear hgrow
      go_wp2_with fail
      go_roundw
      case rel => first | exact ⟨4, by omega, rfl, hown', hb2⟩ | ((repeat apply Exists.intro); exact ⟨⟨4, by omega, rfl, hown', hb2⟩, rfl⟩)
      case measure => simp [intOf]
    · go_wp2_with (at_builtin; refine wpList_append_own _ rfl _ _ 29 rfl W.heap.size 5 i0 (.int .u8 0) 1 1 Tryd.underlying29 hi hz0 hz1 hz2 rfl (by decide) _ 8 _ rfl (HX.out.alloc _) ⟨wr.heap.size, 0, none⟩ 2 2 [.int .u8 (n2 / 256), .int .u8 (n2 % 256)] rfl rfl ?a1 ?a2 ?a3 ?a4 ?a5 ?_)
      case a1 => exact World.news_of_block (cs := #[.int .u8 (n2 / 256), .int .u8 (n2 % 256)]) (t := 5) (fr := (0, 0)) (heap_alloc_new wr _)
      case a2 => simp [Value.oneCell']
      case a3 => unfold maxLen; omega
      case a4 => omega
      case a5 => simp; omega
      intro v' w2 hown' hgrow _
      have hb2 := hBk.trans (below_grown HX.out sk hgrow)
      clear hgrow
      go_wp2_with fail
      go_roundw
      case rel => first | exact ⟨5, by omega, rfl, hown', hb2⟩ | ((repeat apply Exists.intro); exact ⟨⟨5, by omega, rfl, hown', hb2⟩, rfl⟩)
      case measure => simp [intOf]
    · go_wp2_with (at_builtin; refine wpList_append_own _ rfl _ _ 29 rfl W.heap.size 5 i0 (.int .u8 0) 1 1 Tryd.underlying29 hi hz0 hz1 hz2 rfl (by decide) _ 10 _ rfl (HX.out.alloc _) ⟨wr.heap.size, 0, none⟩ 2 2 [.int .u8 (n3 / 256), .int .u8 (n3 % 256)] rfl rfl ?a1 ?a2 ?a3 ?a4 ?a5 ?_)
      case a1 => exact World.news_of_block (cs := #[.int .u8 (n3 / 256), .int .u8 (n3 % 256)]) (t := 5) (fr := (0, 0)) (heap_alloc_new wr _)
      case a2 => simp [Value.oneCell']
      case a3 => unfold maxLen; omega
      case a4 => omega
      case a5 => simp; omega
      intro v' w2 hown' hgrow _
      have hb2 := hBk.trans (below_grown HX.out sk hgrow)
      clear hgrow
      go_wp2_with fail
      go_roundw
      case rel => first | exact ⟨6, by omega, rfl, hown', hb2⟩ | ((repeat apply Exists.intro); exact ⟨⟨6, by omega, rfl, hown', hb2⟩, rfl⟩)
      case measure => simp [intOf]
    · go_wp2_with fail
      go_ret2
      exact ⟨_, rfl, ownsRow_mono HX.out (by have := hBW.size; omega), hBW.trans (hBk.mono hBW.size)⟩

end Go.Proofs.YtknpkifhkefikaaDoor
