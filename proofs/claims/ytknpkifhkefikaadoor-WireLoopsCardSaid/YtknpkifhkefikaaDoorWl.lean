/-
  The landed Decode on twelve bytes that count nothing.
  The statements' own small call 'awake': a small message is written and read.
-/
import Derived.Test.YtknpkifhkefikaaDoorWrL
import Derived.Test.YtknpkifhkefikaaDoorWg
import Derived.Defers
import Derived.Recover
import Derived.Deep.CutBlock
import Derived.Deep.DeepCutAuto
namespace Go.Proofs.YtknpkifhkefikaaDoor
open Go.RowKit Go.Maps
set_option linter.unusedVariables false
set_option maxRecDepth 100000

set_option maxHeartbeats 1000000 in
set_option maxRecDepth 100000 in
theorem catch_idle (p q : Addr) (w : World) :
    CallsD Tryd.prog 88 #[.pointer (some p), .pointer (some q)] .returning w fun e u' w' => e = .returned (.tuple #[]) ∧ u' = .returning ∧ w' = w := by
  refine callsD_of_wpS Tryd.func88 rfl fun c₀ cs hu => ?_
  apply wpS_seq
  apply wpS_region
  simp [wpOpsS, go_sem, recoverD, hu, Tryd.ntmps88, Exit.thenS]
  apply wpS_seq
  apply wpS_seq
  apply wpS_region
  simp [wpOpsS, go_sem, Exit.thenS]
  refine wpS_cond (t := true) (by simp [Act.eval, Array.replicate]) ?_
  simp only [if_true]
  refine wpS_of_wp (wp_ret ?_)
  cases c₀
  simp_all [bodyPostS, results, Exit.thenS, Tryd.results88]
theorem records_none (r : Value) (w : World) : Calls Tryd.prog 90 #[r, .int .i64 0] w fun e w' => e = .returned (.slice none 0 0) ∧ w' = w := by
  go_enter Tryd.func90, Tryd.ntmps90
  go_wp2_with fail
  go_loopw [5, 7] (fun v5 v7 wr => v5 = .slice none 0 0 ∧ v7 = .int .i64 0 ∧ wr = w) (fun _ v7 _ => 0)
  case atStart => exact ⟨rfl, rfl, rfl⟩
  case round =>
    obtain ⟨rfl, rfl, rfl⟩ := hrel
    go_wp2_with fail
    go_ret
    exact ⟨rfl, rfl⟩
def h7 : Hd := ⟨7, false, 0, false, false, false, false, 0⟩
abbrev m7C : Array Value := #[.int .i64 7, .bool false, .int .i64 0, .bool false, .bool false, .bool false, .bool false, .int .i64 0, .slice none 0 0, .slice none 0 0, .slice none 0 0, .slice none 0 0]
/-- The reader's boxes, a message of nothing but its number. -/
structure M7 (w : World) (rb gv c : Nat) (W : World) : Prop where
  r5 : W.heap[w.heap.size + 1]? = some (.cells #[.int .i64 0, .int .i64 0, .int .i64 0, .int .i64 0] 63 (0, 0))
  r6 : W.heap[w.heap.size + 1 + 1]? = some (.cells m7C 27 (0, 0))
  r7 : W.heap[w.heap.size + 1 + 1 + 1]? = some (.cells #[.int .i64 0] 30 (0, 0))
  rrow : W.heap[rb]? = some (.cells #[.slice (some ⟨gv, 0, none⟩) 12 c, .int .i64 12, .int .i64 20] 92 (0, 0))
  be : Below w.heap.size w W
  lt : rb < w.heap.size
theorem M7.set {w W : World} {rb gv c : Nat} (h : M7 w rb gv c W) (i : Nat) (hi : m7C.setIfInBounds i (.slice none 0 0) = m7C) : M7 w rb gv c (W.setCell ⟨w.heap.size + 1 + 1, i, none⟩ (.slice none 0 0)) := by
  obtain ⟨h5, h6, h7, h8, h9, h10⟩ := h
  refine ⟨row_other _ h5 (by omega), ?_, row_other _ h7 (by omega), row_other _ h8 (by omega), Below.setCell h9 (by show w.heap.size ≤ w.heap.size + 1 + 1; omega) _, h10⟩
  rw [← hi]
  exact row_set _ h6
theorem M7.on {w W W' : World} {rb gv c : Nat} (h : M7 w rb gv c W) (k : Below W.heap.size W W') : M7 w rb gv c W' :=
  ⟨(k.block _ (Array.getElem?_eq_some_iff.1 h.r5).1).trans h.r5, (k.block _ (Array.getElem?_eq_some_iff.1 h.r6).1).trans h.r6, (k.block _ (Array.getElem?_eq_some_iff.1 h.r7).1).trans h.r7, (k.block _ (Array.getElem?_eq_some_iff.1 h.rrow).1).trans h.rrow, Below.trans h.be (k.mono h.be.size), h.lt⟩
theorem M7.row {w W : World} {rb gv c : Nat} (h : M7 w rb gv c W) : M7 w rb gv c (W.setRow (w.heap.size + 1 + 1) m7C) := by
  obtain ⟨h5, h6, h7, h8, h9, h10⟩ := h
  exact ⟨(setRow_other _ _ _ _ (by omega)).trans h5, setRow_heap _ _ _ m7C _ _ h6, (setRow_other _ _ _ _ (by omega)).trans h7, (setRow_other _ _ _ _ (by omega)).trans h8, Below.setRow h9 (by omega) _, h10⟩
theorem M7.err {w W : World} {rb gv c : Nat} (h : M7 w rb gv c W) : M7 w rb gv c (W.setCell ⟨w.heap.size + 1 + 1 + 1, 0, none⟩ (.int .i64 0)) := by
  obtain ⟨h5, h6, h7, h8, h9, h10⟩ := h
  refine ⟨row_other _ h5 (by omega), row_other _ h6 (by omega), ?_, row_other _ h8 (by omega), Below.setCell h9 (by show w.heap.size ≤ w.heap.size + 1 + 1 + 1; omega) _, h10⟩
  exact row_set _ h7
theorem M7.facts {w W : World} {rb gv c : Nat} (h : M7 w rb gv c W) : W.cell? ⟨w.heap.size + 1, 1, none⟩ = some (.int .i64 0) ∧ W.cell? ⟨w.heap.size + 1, 2, none⟩ = some (.int .i64 0) ∧ W.cell? ⟨w.heap.size + 1, 3, none⟩ = some (.int .i64 0) ∧ W.cell? ⟨w.heap.size + 1 + 1, 9, none⟩ = some (.slice none 0 0) ∧ W.cell? ⟨w.heap.size + 1 + 1, 10, none⟩ = some (.slice none 0 0) ∧ W.cell? ⟨w.heap.size + 1 + 1, 11, none⟩ = some (.slice none 0 0) ∧ (∀ j, W.frozen? ⟨w.heap.size + 1 + 1, j, none⟩ = false) ∧ W.cell? ⟨rb, 0, none⟩ = some (.slice (some ⟨gv, 0, none⟩) 12 c) ∧ W.cell? ⟨rb, 1, none⟩ = some (.int .i64 12) :=
  ⟨(cell_of_row _ _ 1 _ _ _ h.r5).trans rfl, (cell_of_row _ _ 2 _ _ _ h.r5).trans rfl, (cell_of_row _ _ 3 _ _ _ h.r5).trans rfl, (cell_of_row _ _ 9 _ _ _ h.r6).trans rfl, (cell_of_row _ _ 10 _ _ _ h.r6).trans rfl, (cell_of_row _ _ 11 _ _ _ h.r6).trans rfl, fun j => frozen_of_row _ _ j _ _ h.r6, (cell_of_row _ _ 0 _ _ _ h.rrow).trans rfl, (cell_of_row _ _ 1 _ _ _ h.rrow).trans rfl⟩
set_option maxHeartbeats 2000000 in
set_option maxRecDepth 100000 in
theorem message_none (rb gv c : Nat) (w : World) (hr : w.heap[rb]? = some (.cells #[.slice (some ⟨gv, 0, none⟩) 12 c, .int .i64 12, .int .i64 20] 92 (0, 0))) : Calls Tryd.prog 49 #[.pointer (some ⟨rb, 0, none⟩), .agg (hdC h7), ctV 0 0 0 0] w fun e w' => e = .returned (.tuple #[.agg m7C, .int .i64 0]) ∧ Below w.heap.size w w' := by
  have hmf : ∀ (fn : Fn) (first cap : Array Value) (w : World), (Instr.makeFunc fn first cap).run Tryd.prog w = .ok (.func fn first cap) w := fun _ _ _ _ => rfl
  have R0 := Lib.hid (fun r W => records_none r W)
  obtain ⟨W, hW⟩ : ∃ W, W = (((w.alloc (.cells #[.int .i64 7, .bool false, .int .i64 0, .bool false, .bool false, .bool false, .bool false, .int .i64 0] 23)).alloc (.cells #[.int .i64 0, .int .i64 0, .int .i64 0, .int .i64 0] 63)).alloc (.cells m7C 27)).alloc (.cells #[.int .i64 0] 30) := ⟨_, rfl⟩
  have hlt := (Array.getElem?_eq_some_iff.1 hr).1
  have HM : Hid (M7 w rb gv c W) := Lib.hid (by
    subst hW
    have r5 := row_new (w := w.alloc (.cells #[.int .i64 7, .bool false, .int .i64 0, .bool false, .bool false, .bool false, .bool false, .int .i64 0] 23)) (k := w.heap.size + 1) (.cells #[.int .i64 0, .int .i64 0, .int .i64 0, .int .i64 0] 63 (0, 0)) (by simp)
    have r6 := row_new (w := (w.alloc (.cells #[.int .i64 7, .bool false, .int .i64 0, .bool false, .bool false, .bool false, .bool false, .int .i64 0] 23)).alloc (.cells #[.int .i64 0, .int .i64 0, .int .i64 0, .int .i64 0] 63)) (k := w.heap.size + 1 + 1) (.cells m7C 27 (0, 0)) (by simp)
    refine ⟨row_old _ (row_old _ r5), row_old _ r6, row_new _ (by simp), row_old _ (row_old _ (row_old _ (row_old _ hr))), Below.alloc (Below.alloc (Below.alloc (Below.alloc (Below.refl _ _) (Nat.le_refl _) _) (by simp) _) (by simp; omega) _) (by simp; omega) _, hlt⟩)
  have HW := Lib.hid hW
  clear hW hr
  unfold h7 hdC
  go_enter_defers Tryd.func49, Tryd.ntmps49
  go_upto_region 3 with fail
  rw [← HW.out]
  have c0 := (cell_of_row _ _ 0 _ _ _ HM.out.r5).trans rfl
  go_wp2_with fail
  go_loopw [13] (fun v13 wr => v13 = .int .i64 0 ∧ wr = W) (fun _ _ => 0)
  case atStart => exact ⟨rfl, rfl⟩
  case round =>
    obtain ⟨rfl, rfl⟩ := hrel
    clear HW c0
    obtain ⟨a1, a2, a3, a4, a5, a6, a7, a8, a9⟩ := HM.out.facts
    have f7 := a7 9
    go_upto_region 8 with (first | (go_at_call 90; refine (R0.out _ _).mono ?_; rintro e w5 ⟨rfl, rfl⟩) | fail)
    have HM1 := Lib.hid (HM.out.set 9 rfl)
    generalize hW1 : World.setCell _ ⟨w.heap.size + 1 + 1, 9, none⟩ (.slice none 0 0) = W1 at *
    clear hW1 a1 a2 a3 a4 a5 a6 a7 a8 a9 f7
    obtain ⟨a1, a2, a3, a4, a5, a6, a7, a8, a9⟩ := HM1.out.facts
    have f7 := a7 10
    go_upto_region 9 with (first | (go_at_call 90; refine (R0.out _ _).mono ?_; rintro e w5 ⟨rfl, rfl⟩) | fail)
    have HM2 := Lib.hid (HM1.out.set 10 rfl)
    generalize hW2 : World.setCell _ ⟨w.heap.size + 1 + 1, 10, none⟩ (.slice none 0 0) = W2 at *
    clear hW2 a1 a2 a3 a4 a5 a6 a7 a8 a9 f7
    obtain ⟨a1, a2, a3, a4, a5, a6, a7, a8, a9⟩ := HM2.out.facts
    have f7 := a7 11
    go_upto_region 10 with (first | (go_at_call 90; refine (R0.out _ _).mono ?_; rintro e w5 ⟨rfl, rfl⟩) | fail)
    have HM3 := Lib.hid (HM2.out.set 11 rfl)
    generalize hW3 : World.setCell _ ⟨w.heap.size + 1 + 1, 11, none⟩ (.slice none 0 0) = W3 at *
    clear hW3 a1 a2 a3 a4 a5 a6 a7 a8 a9 f7
    obtain ⟨a1, a2, a3, a4, a5, a6, a7, a8, a9⟩ := HM3.out.facts
    have HM4 := Lib.hid (HM3.out.on (Below.drew (Below.refl _ _)))
    have i1 : Hid ((Tryd.prog.info? 27).map (·.size) = some m7C.size) := Lib.hid info_ms
    have one1 : Hid (m7C.all (·.oneCell') = true) := Lib.hid (by simp [Value.oneCell'])
    have z1 : Hid (m7C.size = m7C.size) := Lib.hid rfl
    have HM5 := Lib.hid HM4.out.row
    have HM6 := Lib.hid HM5.out.err
    clear a1 a2 a3 a4 a5 a6 a7 HM HM1 HM2
    go_region
    generalize hW4 : W3.drew = W4 at *
    generalize hW5 : W4.setRow (w.heap.size + 1 + 1) m7C = W5 at *
    have HW5 := Lib.hid hW5
    have e0 := (cell_of_row _ _ 0 _ _ _ HM5.out.r7).trans rfl
    have e1 := frozen_of_row _ _ 0 _ _ HM5.out.r7
    clear hW4 hW5
    go_wp2_with (first
      | (refine wpList_load_row rfl 27 (.tmp 6) rfl (w.heap.size + 1 + 1) rfl 27 m7C (0, 0) _ HM4.out.r6 Tryd.underlying27 rfl i1.out ?_)
      | (refine wpList_store_row rfl 27 (.tmp 6) (.tmp 49) rfl (w.heap.size + 1 + 1) m7C rfl rfl 27 _ HM4.out.r6 i1.out rfl one1.out ?_; rw [HW5.out])
      | fail)
    have q6 : (loadVar 27 ⟨w.heap.size + 1 + 1, 0, none⟩).run Tryd.prog (W5.setCell ⟨w.heap.size + 1 + 1 + 1, 0, none⟩ (.int .i64 0)) = .ok (.agg m7C) (W5.setCell ⟨w.heap.size + 1 + 1 + 1, 0, none⟩ (.int .i64 0)) := run_loadVar_row _ _ 27 27 m7C (0, 0) _ HM6.out.r6 Tryd.underlying27 rfl i1.out
    have q7 : (W5.setCell ⟨w.heap.size + 1 + 1 + 1, 0, none⟩ (.int .i64 0)).cell? ⟨w.heap.size + 1 + 1 + 1, 0, none⟩ = some (.int .i64 0) := (cell_of_row _ _ 0 _ _ _ HM6.out.r7).trans rfl
    refine leaves_cons (f := 88) (args := #[.pointer (some ⟨w.heap.size + 1 + 1, 0, none⟩), .pointer (some ⟨w.heap.size + 1 + 1 + 1, 0, none⟩)]) (by simp) (by simp [go_sem]) ?_
    refine (catch_idle ⟨w.heap.size + 1 + 1, 0, none⟩ ⟨w.heap.size + 1 + 1 + 1, 0, none⟩ _).mono ?_
    rintro e u' w'' ⟨rfl, rfl, rfl⟩
    refine ⟨_, ?_, rfl, HM6.out.be⟩
    generalize (W5.setCell ⟨w.heap.size + 1 + 1 + 1, 0, none⟩ (.int .i64 0)) = W6 at *
    have q8 : (loadVar 30 ⟨w.heap.size + 1 + 1 + 1, 0, none⟩).run Tryd.prog W6 = .ok (.int .i64 0) W6 := by simp [go_sem, q7]
    simp [results, Tryd.results49, asAddr, q6, q8]
theorem ownR_bysK {w : World} {base k n c : Nat} {l : Bs} (h : OwnR w base (.slice (some ⟨k, 0, none⟩) n c) l) : Bys w (some ⟨k, 0, none⟩) l := by
  obtain ⟨A', c', e, hb, -⟩ := h.ownB.bysN
  injection e with e _ _
  rw [e]
  exact hb
abbrev b7 : Bs := [0, 7, 0, 0, 0, 0, 0, 0, 0, 0, 0, 0]
def z7 (i : Nat) : Int := if i = 1 then 7 else 0
theorem hdec_none (gv c : Nat) (w : World) (hm : Masks w) (hr : OwnR w 0 (.slice (some ⟨gv, 0, none⟩) 12 c) b7) : Calls Tryd.prog 48 #[.slice (some ⟨gv, 0, none⟩) 12 c] w fun e w' => e = .returned (.tuple #[.agg (hdC h7), ctV 0 0 0 0, .int .i64 0]) ∧ Below w.heap.size w w' := by
  have hlt := (OwnR.slice_form hr (by intro h; cases h))
  have hb := ownR_bysK hr
  have ht : Twelve w gv 0 z7 := by
    refine ⟨fun i hi => ?_, fun i => by unfold z7; split <;> omega, (hr.lt _ rfl).2⟩
    obtain ⟨g, off, hp, hc⟩ := hb (by simp)
    injection hp with hp
    injection hp with h1 h2 _
    subst h1
    subst h2
    have h3 := hc i hi
    rw [h3]
    have : i = 0 ∨ i = 1 ∨ i = 2 ∨ i = 3 ∨ i = 4 ∨ i = 5 ∨ i = 6 ∨ i = 7 ∨ i = 8 ∨ i = 9 ∨ i = 10 ∨ i = 11 := by omega
    rcases this with rfl | rfl | rfl | rfl | rfl | rfl | rfl | rfl | rfl | rfl | rfl | rfl <;> rfl
  refine (Decode_long gv 0 12 c z7 w (by omega) (by omega) hm ht (by decide)).mono fun e w' ⟨h1, h2⟩ => ⟨?_, h2⟩
  rw [h1]
  rfl
end Go.Proofs.YtknpkifhkefikaaDoor
namespace Go.Proofs.YtknpkifhkefikaaDoor
open Go.RowKit Go.Maps
set_option linter.unusedVariables false
set_option maxRecDepth 100000

set_option maxHeartbeats 2000000 in
set_option maxRecDepth 100000 in
theorem dec_none (gv c : Nat) (w : World) (hm : Masks w) (hr : OwnR w 0 (.slice (some ⟨gv, 0, none⟩) 12 c) b7) : Calls Tryd.prog 16 #[.slice (some ⟨gv, 0, none⟩) 12 c] w fun e w' => e = .returned (.tuple #[.agg m7C, .int .i64 0]) ∧ Below w.heap.size w w' := by
  obtain ⟨Z, hZ⟩ : ∃ Z : Obj, Z = .cells #[.int .i64 0, .bool false, .int .i64 0, .bool false, .bool false, .bool false, .bool false, .int .i64 0, .slice none 0 0, .slice none 0 0, .slice none 0 0, .slice none 0 0] 27 (0, 0) := ⟨_, rfl⟩
  have b1 : Below w.heap.size w (w.alloc Z) := Below.alloc (Below.refl _ _) (Nat.le_refl _) _
  have HK := Lib.hid (hdec_none gv c (w.alloc Z) (hm.on b1) (hr.alloc _))
  have r2 : Hid ((w.alloc Z).heap[w.heap.size]? = some Z) := Lib.hid (row_new _ rfl)
  have HB1 := Lib.hid b1
  rw [hZ] at HK r2 HB1
  clear hZ b1 hm hr
  go_enter Tryd.func16, Tryd.ntmps16
  go_wp2_with fail
  refine HK.out.mono ?_
  rintro e w2 ⟨rfl, b2⟩
  have R2 := (b2.block _ (by simp)).trans r2.out
  have HB2 := Lib.hid (Below.trans HB1.out (b2.mono HB1.out.size))
  unfold h7 hdC
  obtain ⟨W3, hW3⟩ : ∃ W3, W3 = ((w2.alloc (.cells #[.int .i64 7, .bool false, .int .i64 0, .bool false, .bool false, .bool false, .bool false, .int .i64 0] 23)).alloc (.cells #[.int .i64 0, .int .i64 0, .int .i64 0, .int .i64 0] 63)).alloc (.cells #[.slice (some ⟨gv, 0, none⟩) 12 c, .int .i64 12, .int .i64 20] 92) := ⟨_, rfl⟩
  have rH : W3.heap[w2.heap.size]? = some (.cells #[.int .i64 7, .bool false, .int .i64 0, .bool false, .bool false, .bool false, .bool false, .int .i64 0] 23 (0, 0)) := by
    subst hW3
    exact row_old _ (row_old _ (row_new _ rfl))
  have rC : W3.heap[w2.heap.size + 1]? = some (.cells #[.int .i64 0, .int .i64 0, .int .i64 0, .int .i64 0] 63 (0, 0)) := by
    subst hW3
    exact row_old _ (row_new (w := w2.alloc (.cells #[.int .i64 7, .bool false, .int .i64 0, .bool false, .bool false, .bool false, .bool false, .int .i64 0] 23)) _ (by simp))
  have rR : W3.heap[w2.heap.size + 1 + 1]? = some (.cells #[.slice (some ⟨gv, 0, none⟩) 12 c, .int .i64 12, .int .i64 20] 92 (0, 0)) := by
    subst hW3
    exact row_new _ (by simp)
  have b3 : Below w2.heap.size w2 W3 := by
    subst hW3
    exact Below.alloc (Below.alloc (Below.alloc (Below.refl _ _) (Nat.le_refl _) _) (by simp) _) (by simp; omega) _
  have R3 := (b3.block _ (Array.getElem?_eq_some_iff.1 R2).1).trans R2
  have HB3 := Lib.hid (Below.trans HB2.out (b3.mono HB2.out.size))
  have MC := message_none (w2.heap.size + 1 + 1) gv c W3 rR
  unfold h7 hdC at MC
  have MC := Lib.hid MC
  have HW3 := Lib.hid hW3
  have i23 : Hid ((Tryd.prog.info? 23).map (·.size) = some (#[.int .i64 7, .bool false, .int .i64 0, .bool false, .bool false, .bool false, .bool false, .int .i64 0] : Array Value).size) := Lib.hid (by kernel_rfl)
  have i63 : Hid ((Tryd.prog.info? 63).map (·.size) = some (#[.int .i64 0, .int .i64 0, .int .i64 0, .int .i64 0] : Array Value).size) := Lib.hid (by kernel_rfl)
  have i27 : Hid ((Tryd.prog.info? 27).map (·.size) = some m7C.size) := Lib.hid info_ms
  have one27 : Hid (m7C.all (·.oneCell') = true) := Lib.hid (by simp [Value.oneCell'])
  have RH := Lib.hid rH
  have RC := Lib.hid rC
  have R3 := Lib.hid R3
  clear hW3 rH rC rR b3 R2 HK r2 HB1 b2 HB2
  go_upto_region 7 with fail
  rw [← HW3.out]
  go_wp2_with (first
    | (refine wpList_load_row rfl 23 (.tmp 4) rfl w2.heap.size rfl 23 _ (0, 0) _ RH.out Tryd.underlying23 rfl i23.out ?_)
    | (refine wpList_load_row rfl 63 (.tmp 5) rfl (w2.heap.size + 1) rfl 63 _ (0, 0) _ RC.out Tryd.underlying63 rfl i63.out ?_)
    | fail)
  refine MC.out.mono ?_
  rintro e w4 ⟨rfl, b4⟩
  have R4 := (b4.block _ (Array.getElem?_eq_some_iff.1 R3.out).1).trans R3.out
  have HB4 := Lib.hid (Below.trans HB3.out (b4.mono HB3.out.size))
  obtain ⟨W5, hW5⟩ : ∃ W5, W5 = w4.setRow w.heap.size m7C := ⟨_, rfl⟩
  have HB5 : Hid (Below w.heap.size w W5) := Lib.hid (by subst hW5; exact Below.setRow HB4.out (Nat.le_refl _) _)
  have q0 : (loadVar 27 ⟨w.heap.size, 0, none⟩).run Tryd.prog W5 = .ok (.agg m7C) W5 := by
    subst hW5
    exact run_loadVar_row _ _ 27 27 m7C (0, 0) _ (setRow_heap _ _ _ m7C _ _ R4) Tryd.underlying27 rfl i27.out
  have HQ := Lib.hid q0
  have HW5 := Lib.hid hW5
  clear b4 hW5 q0 R3 RH RC MC
  go_wp2_with (first
    | (refine wpList_store_row rfl 27 (.tmp 2) (.tmp 27) rfl w.heap.size m7C rfl rfl 27 _ R4 i27.out rfl one27.out ?_; rw [← HW5.out])
    | fail)
  have q0 := HQ.out
  refine bodyPost_ret (v := .tuple #[.agg m7C, .int .i64 0]) (by simp [results, Tryd.results16, asAddr, q0]) rfl ?_
  exact ⟨rfl, HB5.out⟩
def m7 : Msg := ⟨h7, [], [], [], []⟩
def v7 : MV := ⟨none, none, none, none, 0, 0, 0, 0⟩
set_option maxHeartbeats 2000000 in
set_option maxRecDepth 100000 in
theorem awake4_any (w : World) (hm : Masks w) : Calls Tryd.prog 15 #[] w fun e w' => e = .returned (.bool true) ∧ Below w.heap.size w w' := by
  have hM : Ms w m7 v7 := ⟨fun h => absurd h (by simp [m7]), fun h => absurd h (by simp [m7]), fun h => absurd h (by simp [m7]), fun h => absurd h (by simp [m7]), by simp [m7, v7], by simp [m7, v7], by simp [m7, v7], by simp [m7, v7]⟩
  have EC := Encode_any m7 v7 w hM hm
  have e0 : (msL m7 v7).toArray = m7C := rfl
  rw [e0] at EC
  have hb : (headM m7).b = b7 := by decide
  have hx : encX m7 = some (headM m7) := rfl
  have hc : canM m7 = true := by decide
  have EC2 : Calls Tryd.prog 9 #[.agg m7C] w fun e w' => ∃ gv c, e = .returned (.tuple #[.slice (some ⟨gv, 0, none⟩) 12 c, .int .i64 0]) ∧ Below w.heap.size w w' ∧ OwnR w' w.heap.size (.slice (some ⟨gv, 0, none⟩) 12 c) b7 := by
    refine EC.mono fun e w' ⟨v, k, h1, h2, _, _, h5⟩ => ?_
    obtain ⟨rfl, o, n⟩ := h5 _ hc hx
    rw [hb] at o
    obtain ⟨gv, c, hv, -⟩ := OwnR.slice_form o n
    subst hv
    exact ⟨gv, c, h1, h2, o⟩
  have HE := Lib.hid EC2
  have HMK := Lib.hid hm
  clear EC EC2 hM e0 hb hx hc hm
  go_enter Tryd.func15, Tryd.ntmps15
  go_wp2_with fail
  refine HE.out.mono ?_
  rintro e w1 ⟨gv, c, rfl, b1, o1⟩
  have DC := Lib.hid (dec_none gv c w1 (HMK.out.on b1) (o1.lower (Nat.zero_le _)))
  have HB1 := Lib.hid b1
  clear HE b1 o1
  go_wp2_with fail
  refine DC.out.mono ?_
  rintro e w2 ⟨rfl, b2⟩
  have HB2 := Lib.hid (Below.trans HB1.out (b2.mono HB1.out.size))
  clear DC b2
  have HB3 : Hid (Below w.heap.size w (w2.alloc (.cells m7C 27))) := Lib.hid (Below.alloc HB2.out HB2.out.size _)
  have c0 : (w2.alloc (.cells m7C 27)).cell? ⟨w2.heap.size, 0, none⟩ = some (.int .i64 7) := (cell_of_row _ _ 0 _ _ _ (row_new _ rfl)).trans rfl
  go_wp2_with fail
  go_ret
  exact ⟨rfl, HB3.out⟩
end Go.Proofs.YtknpkifhkefikaaDoor
