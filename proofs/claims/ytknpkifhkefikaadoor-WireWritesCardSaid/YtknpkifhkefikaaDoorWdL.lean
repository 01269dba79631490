/-
  The statements' own small call 'awake': a small message is written and read.
-/
import Derived.Test.YtknpkifhkefikaaDoorWdK
namespace Go.Proofs.YtknpkifhkefikaaDoor
open Go.RowKit Go.Maps
set_option linter.unusedVariables false
set_option maxRecDepth 100000

set_option maxHeartbeats 2000000 in
set_option maxRecDepth 100000 in
theorem dec_none (gv c : Nat) (w : World) (hm : Masks w) (hr : OwnR w 0 (.slice (some ⟨gv, 0, none⟩) 12 c) b7) : Calls Tryd.prog 16 #[.slice (some ⟨gv, 0, none⟩) 12 c] w fun e w' => e = .returned (.tuple #[.agg m7C, .int .i64 0]) ∧ Below w.heap.size w w' := by
  obtain ⟨Z, hZ⟩ : ∃ Z : Obj, Z = .cells #[.int .i64 0, .bool false, .int .i64 0, .bool false, .bool false, .bool false, .bool false, .int .i64 0, .slice none 0 0, .slice none 0 0, .slice none 0 0, .slice none 0 0] 27 (0, 0) := ⟨_, rfl⟩
  have b1 : Below w.heap.size w (w.alloc Z) := Below.alloc (Below.refl _ _) (Nat.le_refl _) _
  have HK := Lib.hid (hdec_none gv c (w.alloc Z) (hm.on b1) (hr.alloc _))
  have r2 : Hid ((w.alloc Z).heap[w.heap.size]? = some Z) := Lib.hid (row_new _ rfl)
  have HB1 := Lib.hid b1
  rw [hZ] at HK r2 HB1
  clear hZ b1 hm hr
  go_enter Tryd.func16, Tryd.ntmps16
  go_wp2_with fail
  refine HK.out.mono ?_
  rintro e w2 ⟨rfl, b2⟩
  have R2 := (b2.block _ (by simp)).trans r2.out
  have HB2 := Lib.hid (Below.trans HB1.out (b2.mono HB1.out.size))
  unfold h7 hdC
  obtain ⟨W3, hW3⟩ : ∃ W3, W3 = ((w2.alloc (.cells #[.int .i64 7, .bool false, .int .i64 0, .bool false, .bool false, .bool false, .bool false, .int .i64 0] 23)).alloc (.cells #[.int .i64 0, .int .i64 0, .int .i64 0, .int .i64 0] 63)).alloc (.cells #[.slice (some ⟨gv, 0, none⟩) 12 c, .int .i64 12, .int .i64 20] 92) := ⟨_, rfl⟩
  have rH : W3.heap[w2.heap.size]? = some (.cells #[.int .i64 7, .bool false, .int .i64 0, .bool false, .bool false, .bool false, .bool false, .int .i64 0] 23 (0, 0)) := by
    subst hW3
    exact row_old _ (row_old _ (row_new _ rfl))
  have rC : W3.heap[w2.heap.size + 1]? = some (.cells #[.int .i64 0, .int .i64 0, .int .i64 0, .int .i64 0] 63 (0, 0)) := by
    subst hW3
    exact row_old _ (row_new (w := w2.alloc (.cells #[.int .i64 7, .bool false, .int .i64 0, .bool false, .bool false, .bool false, .bool false, .int .i64 0] 23)) _ (by simp))
  have rR : W3.heap[w2.heap.size + 1 + 1]? = some (.cells #[.slice (some ⟨gv, 0, none⟩) 12 c, .int .i64 12, .int .i64 20] 92 (0, 0)) := by
    subst hW3
    exact row_new _ (by simp)
  have b3 : Below w2.heap.size w2 W3 := by
    subst hW3
    exact Below.alloc (Below.alloc (Below.alloc (Below.refl _ _) (Nat.le_refl _) _) (by simp) _) (by simp; omega) _
  have R3 := (b3.block _ (Array.getElem?_eq_some_iff.1 R2).1).trans R2
  have HB3 := Lib.hid (Below.trans HB2.out (b3.mono HB2.out.size))
  have MC := message_none (w2.heap.size + 1 + 1) gv c W3 rR
  unfold h7 hdC at MC
  have MC := Lib.hid MC
  have HW3 := Lib.hid hW3
  have i23 : Hid ((Tryd.prog.info? 23).map (·.size) = some (#[.int .i64 7, .bool false, .int .i64 0, .bool false, .bool false, .bool false, .bool false, .int .i64 0] : Array Value).size) := Lib.hid (by kernel_rfl)
  have i63 : Hid ((Tryd.prog.info? 63).map (·.size) = some (#[.int .i64 0, .int .i64 0, .int .i64 0, .int .i64 0] : Array Value).size) := Lib.hid (by kernel_rfl)
  have i27 : Hid ((Tryd.prog.info? 27).map (·.size) = some m7C.size) := Lib.hid info_ms
  have one27 : Hid (m7C.all (·.oneCell') = true) := Lib.hid (by simp [Value.oneCell'])
  have RH := Lib.hid rH
  have RC := Lib.hid rC
  have R3 := Lib.hid R3
  clear hW3 rH rC rR b3 R2 HK r2 HB1 b2 HB2
  go_upto_region 7 with fail
  rw [← HW3.out]
  go_wp2_with (first
    | (refine wpList_load_row rfl 23 (.tmp 4) rfl w2.heap.size rfl 23 _ (0, 0) _ RH.out Tryd.underlying23 rfl i23.out ?_)
    | (refine wpList_load_row rfl 63 (.tmp 5) rfl (w2.heap.size + 1) rfl 63 _ (0, 0) _ RC.out Tryd.underlying63 rfl i63.out ?_)
    | fail)
  refine MC.out.mono ?_
  rintro e w4 ⟨rfl, b4⟩
  have R4 := (b4.block _ (Array.getElem?_eq_some_iff.1 R3.out).1).trans R3.out
  have HB4 := Lib.hid (Below.trans HB3.out (b4.mono HB3.out.size))
  obtain ⟨W5, hW5⟩ : ∃ W5, W5 = w4.setRow w.heap.size m7C := ⟨_, rfl⟩
  have HB5 : Hid (Below w.heap.size w W5) := Lib.hid (by subst hW5; exact Below.setRow HB4.out (Nat.le_refl _) _)
  have q0 : (loadVar 27 ⟨w.heap.size, 0, none⟩).run Tryd.prog W5 = .ok (.agg m7C) W5 := by
    subst hW5
    exact run_loadVar_row _ _ 27 27 m7C (0, 0) _ (setRow_heap _ _ _ m7C _ _ R4) Tryd.underlying27 rfl i27.out
  have HQ := Lib.hid q0
  have HW5 := Lib.hid hW5
  clear b4 hW5 q0 R3 RH RC MC
  go_wp2_with (first
    | (refine wpList_store_row rfl 27 (.tmp 2) (.tmp 27) rfl w.heap.size m7C rfl rfl 27 _ R4 i27.out rfl one27.out ?_; rw [← HW5.out])
    | fail)
  have q0 := HQ.out
  refine bodyPost_ret (v := .tuple #[.agg m7C, .int .i64 0]) (by simp [results, Tryd.results16, asAddr, q0]) rfl ?_
  exact ⟨rfl, HB5.out⟩
def m7 : Msg := ⟨h7, [], [], [], []⟩
def v7 : MV := ⟨none, none, none, none, 0, 0, 0, 0⟩
set_option maxHeartbeats 2000000 in
set_option maxRecDepth 100000 in
theorem awake4_any (w : World) (hm : Masks w) : Calls Tryd.prog 15 #[] w fun e w' => e = .returned (.bool true) ∧ Below w.heap.size w w' := by
  have hM : Ms w m7 v7 := ⟨fun h => absurd h (by simp [m7]), fun h => absurd h (by simp [m7]), fun h => absurd h (by simp [m7]), fun h => absurd h (by simp [m7]), by simp [m7, v7], by simp [m7, v7], by simp [m7, v7], by simp [m7, v7]⟩
  have EC := Encode_any m7 v7 w hM hm
  have e0 : (msL m7 v7).toArray = m7C := rfl
  rw [e0] at EC
  have hb : (headM m7).b = b7 := by decide
  have hx : encX m7 = some (headM m7) := rfl
  have hc : canM m7 = true := by decide
  have EC2 : Calls Tryd.prog 9 #[.agg m7C] w fun e w' => ∃ gv c, e = .returned (.tuple #[.slice (some ⟨gv, 0, none⟩) 12 c, .int .i64 0]) ∧ Below w.heap.size w w' ∧ OwnR w' w.heap.size (.slice (some ⟨gv, 0, none⟩) 12 c) b7 := by
    refine EC.mono fun e w' ⟨v, k, h1, h2, _, _, h5⟩ => ?_
    obtain ⟨rfl, o, n⟩ := h5 _ hc hx
    rw [hb] at o
    obtain ⟨gv, c, hv, -⟩ := OwnR.slice_form o n
    subst hv
    exact ⟨gv, c, h1, h2, o⟩
  have HE := Lib.hid EC2
  have HMK := Lib.hid hm
  clear EC EC2 hM e0 hb hx hc hm
  go_enter Tryd.func15, Tryd.ntmps15
  go_wp2_with fail
  refine HE.out.mono ?_
  rintro e w1 ⟨gv, c, rfl, b1, o1⟩
  have DC := Lib.hid (dec_none gv c w1 (HMK.out.on b1) (o1.lower (Nat.zero_le _)))
  have HB1 := Lib.hid b1
  clear HE b1 o1
  go_wp2_with fail
  refine DC.out.mono ?_
  rintro e w2 ⟨rfl, b2⟩
  have HB2 := Lib.hid (Below.trans HB1.out (b2.mono HB1.out.size))
  clear DC b2
  have HB3 : Hid (Below w.heap.size w (w2.alloc (.cells m7C 27))) := Lib.hid (Below.alloc HB2.out HB2.out.size _)
  have c0 : (w2.alloc (.cells m7C 27)).cell? ⟨w2.heap.size, 0, none⟩ = some (.int .i64 7) := (cell_of_row _ _ 0 _ _ _ (row_new _ rfl)).trans rfl
  go_wp2_with fail
  go_ret
  exact ⟨rfl, HB3.out⟩
end Go.Proofs.YtknpkifhkefikaaDoor
