/-
  The walk of HeaderFlags: one way for each of the five flags.
-/
import Derived.Test.YtigpkcpdccgnfabDoorHdG
import Derived.StillTailTactics
import Derived.Laws.BitsAllLaws
namespace Go.Proofs.YtigpkcpdccgnfabDoor
open Go.RowKit

theorem Masks.below {w W : World} (h : Masks w) (hB : Below w.heap.size w W) : Masks W :=
  ⟨(hB.cell (p := ⟨0, 0, none⟩) h.lt).trans h.m0, (hB.cell (p := ⟨0, 1, none⟩) h.lt).trans h.m1, (hB.cell (p := ⟨0, 2, none⟩) h.lt).trans h.m2, (hB.cell (p := ⟨0, 3, none⟩) h.lt).trans h.m3, (hB.cell (p := ⟨0, 4, none⟩) h.lt).trans h.m4, Nat.lt_of_lt_of_le h.lt hB.size⟩

/-- Twelve bytes in a block of the call's own. -/
theorem Encode_row (i o c n0 n1 n2 n3 F : Int) (r aa tc rd ra : Bool) (w : World) (h : canH i o c n0 n1 n2 n3 = true) (hm : Masks w) (hF : flags o c r aa tc rd ra = F) :
    Calls Tryd.prog 4 #[hdV i r o aa tc rd ra c, ctV n0 n1 n2 n3] w fun e w' => ∃ g cap cur, e = .returned (.tuple #[.slice (some ⟨g, 0, none⟩) 12 cap, .int .i64 0]) ∧ w.heap.size ≤ g ∧ w'.heap[g]? = some (.cells cur 5 (0, 0)) ∧ cur.toList.take 12 = encB i F n0 n1 n2 n3 ∧ Below w.heap.size w w' := by
  refine (Encode_yes i o c n0 n1 n2 n3 r aa tc rd ra w h hm).mono ?_
  rintro e w' ⟨v, rfl, hown, hB⟩
  rw [hF] at hown
  obtain ⟨hl, h2⟩ := hown
  rcases h2 with ⟨_, h0⟩ | ⟨g, cap, cur, rfl, hg, hh, hn, hc, hs, ht⟩
  · omega
  · exact ⟨g, cap, cur, rfl, hg, hh, by simpa using ht, hB⟩

/-- Bytes that a block begins with, made a string. -/
theorem take_string {w : World} {g n cap : Nat} {cs : Array Value} {xs : List Int} (h : w.heap[g]? = some (.cells cs 5 (0, 0))) (hc : cs.toList.take n = xs.map (Value.int .u8)) (hn : xs.length = n) :
    (convert 25 9 (.slice (some ⟨g, 0, none⟩) n cap)).run Tryd.prog w = .ok (.string (strOfNums xs)) w := by
  refine run_convert_bytes_arg (P := Tryd.prog) w 25 5 Tryd.underlying25 Tryd.underlying5 g 0 n cap xs hn ?_ 9 Tryd.underlying9
  intro i hi
  rw [cell_of_row _ _ _ _ _ _ h, ← Array.getElem?_toList]
  have := congrArg (fun l => l[0 + i]?) hc
  simp only [List.getElem?_take, List.getElem?_map] at this
  rw [if_pos (by omega)] at this
  rw [this]
  simp [List.getElem?_eq_getElem (show i < xs.length by omega)]

abbrev encN (i fl : Int) : List Int := [i / 256, i % 256, fl / 256, fl % 256, 0, 0, 0, 0, 0, 0, 0, 0]
theorem encB_N (i fl : Int) : encB i fl 0 0 0 0 = (encN i fl).map (Value.int .u8) := by simp [encB]

theorem cell_take {w : World} {g : Nat} {cur : Array Value} {xs : List Value} (h : w.heap[g]? = some (.cells cur 5 (0, 0))) (ht : cur.toList.take 12 = xs) (i : Nat) (hi : i < 12) : w.cell? ⟨g, i, none⟩ = xs[i]? := by
  rw [cell_of_row _ _ _ _ _ _ h, ← ht, List.getElem?_take, if_pos hi, Array.getElem?_toList]

theorem take_set2 {cur : Array Value} {i F F' : Int} (ht : cur.toList.take 12 = encB i F 0 0 0 0) : ((cur.setIfInBounds 2 (.int .u8 (F' / 256))).setIfInBounds 3 (.int .u8 (F' % 256))).toList.take 12 = encB i F' 0 0 0 0 := by
  simp only [Array.toList_setIfInBounds, List.take_set, ht]
  rfl

set_option maxHeartbeats 2000000 in
set_option maxRecDepth 100000 in
theorem Flags_0 (i o c which i' o' c' F F' : Int) (r aa tc rd ra : Bool) (w : World) (hm : Masks w)
    (eI : wrap64 ((IntKind.u64.wrap i).tmod 65536) = i') (eO : wrap64 ((IntKind.u64.wrap o).tmod 16) = o') (eC : wrap64 ((IntKind.u64.wrap c).tmod 16) = c') (eW : wrap64 ((IntKind.u64.wrap which).tmod 5) = 0)
    (bI : 0 ≤ i' ∧ i' ≤ 65535) (bO : 0 ≤ o' ∧ o' ≤ 15) (bC : 0 ≤ c' ∧ c' ≤ 15) (bF : 0 ≤ F ∧ F ≤ 65535) (hF : Hid (flags o' c' r aa tc rd ra = F)) (hF' : Hid (flags o' c' (!r) aa tc rd ra = F'))
    (e2 : bits .xor .u8 (F / 256) 128 = F' / 256) (e3 : bits .xor .u8 (F % 256) 0 = F' % 256) :
    Calls Tryd.prog 3 #[hdV i r o aa tc rd ra c, .int .i64 which] w fun e w' => e = .returned (.bool true) ∧ Below w.heap.size w w' := by
  have hcan : canH i' o' c' 0 0 0 0 = true := canH_true ⟨by omega, by omega, by omega, by omega, by omega, by omega, by omega⟩
  go_enter Tryd.func3, Tryd.ntmps3
  go_wp2_with fail
  refine (Encode_row _ _ _ _ _ _ _ _ _ _ _ _ _ _ hcan (hm.below (by (repeat first | (with_reducible exact Below.refl _ _) | (with_reducible assumption) | (with_reducible refine below_drewN ?_ _) | (with_reducible refine Below.drew ?_) | (with_reducible refine Below.alloc ?_ (by go_size) _) | (with_reducible refine Below.setCell ?_ (by go_size) _)))) hF.out).mono ?_
  rintro e w1 ⟨g, cap, cur, rfl, hg, hrow, htake, hB1⟩
  have hB : Below w.heap.size w w1 := Below.trans (by (repeat first | (with_reducible exact Below.refl _ _) | (with_reducible assumption) | (with_reducible refine below_drewN ?_ _) | (with_reducible refine Below.drew ?_) | (with_reducible refine Below.alloc ?_ (by go_size) _) | (with_reducible refine Below.setCell ?_ (by go_size) _))) (hB1.mono (by simp))
  have s0 : w.heap.size < w1.heap.size := by have := hB1.size; simp at this; omega
  have g0 : w.heap.size < g := by simp at hg; omega
  have g1 : g < w1.heap.size := (Array.getElem?_eq_some_iff.1 hrow).1
  have c2 := cells8 ((hB1.block w.heap.size (by simp)).trans (rows1 w _ 0))
  clear hB1 hg
  go_wp2_with fail
  generalize hW : World.alloc _ (Obj.cells #[.int .i64 32768, .int .i64 1024, .int .i64 512, .int .i64 256, .int .i64 128] _ _) = W
  have hBW : Below w.heap.size w W := by rw [← hW]; refine Below.alloc ?_ (by simp; omega) _; exact hB.setCell (Nat.le_refl _) _
  have rM : W.heap[w1.heap.size]? = some (.cells #[.int .i64 32768, .int .i64 1024, .int .i64 512, .int .i64 256, .int .i64 128] 3 (0, 0)) := by rw [← hW]; exact row_new _ (by simp)
  have rG : W.heap[g]? = some (.cells cur 5 (0, 0)) := by rw [← hW]; exact row_old _ (row_other _ hrow (by omega))
  have lM : w1.heap.size < W.heap.size := by rw [← hW]; simp
  clear hW c2 hrow hB
  refine (Encode_row _ _ _ _ _ _ _ _ _ _ _ _ _ _ hcan (hm.below hBW) hF'.out).mono ?_
  rintro e w2 ⟨g', cap', cur', rfl, hg', hrow', htake', hB2⟩
  have hC := hBW.trans (hB2.mono hBW.size)
  have rM2 := (hB2.block _ lM).trans rM
  have cM := cells5 rM2
  have RM := Lib.hid rM2
  have rG2 := (hB2.block g (by omega)).trans rG
  have x2 : w2.cell? ⟨g, 2, none⟩ = some (.int .u8 (F / 256)) := cell_take rG2 htake 2 (by omega)
  have x3 : w2.cell? ⟨g, 3, none⟩ = some (.int .u8 (F % 256)) := cell_take rG2 htake 3 (by omega)
  have f2 : w2.frozen? ⟨g, 2, none⟩ = false := frozen_of_row _ _ _ _ _ rG2
  have f3 : w2.frozen? ⟨g, 3, none⟩ = false := frozen_of_row _ _ _ _ _ rG2
  have RG := Lib.hid rG2
  have RG' := Lib.hid hrow'
  have HT := Lib.hid htake
  have HT' := Lib.hid htake'
  clear rM rM2 rG rG2 hrow' htake htake' hB2 hBW eI eO eC
  go_wp2_with fail
  go_still_tail 11, (by kernel_rfl)
  change wpList _ _ _ _ _ w2.drew
  go_wp2_with fail
  generalize hW3 : World.drew _ = w3
  have hC3 : Below w.heap.size w w3 := by rw [← hW3]; exact (hC.setCell (by simp; omega) _).drew
  have RG3 : Hid (w3.heap[g]? = some (.cells (cur.setIfInBounds 2 (.int .u8 (F' / 256))) 5 (0, 0))) := by rw [← hW3]; first | exact Lib.hid (row_drew (heap_setCell_same _ _ _ _ _ _ RG.out)) | (rw [e2]; exact Lib.hid (row_drew (heap_setCell_same _ _ _ _ _ _ RG.out)))
  have RG3' : Hid (w3.heap[g']? = some (.cells cur' 5 (0, 0))) := by rw [← hW3]; exact Lib.hid (row_drew (row_other _ RG'.out (by omega)))
  have RM3 : Hid (w3.heap[w1.heap.size]? = some (.cells #[.int .i64 32768, .int .i64 1024, .int .i64 512, .int .i64 256, .int .i64 128] 3 (0, 0))) := by rw [← hW3]; exact Lib.hid (row_drew (row_other _ RM.out (by omega)))
  have x3' : w3.cell? ⟨g, 3, none⟩ = some (.int .u8 (F % 256)) := by rw [← hW3]; exact (World.cell?_setCell_other _ _ _ _ (by simp)).trans x3
  have f3' : w3.frozen? ⟨g, 3, none⟩ = false := frozen_of_row _ _ _ _ _ RG3.out
  have cM3 := cells5 RM3.out
  clear hW3 hC RG RG' x2 x3 f2 f3 cM
  go_still_tail 10, (by kernel_rfl)
  change wpList _ _ _ _ _ w3.drew
  go_wp2_with fail
  generalize hW4 : World.drew _ = w4
  have hC4 : Below w.heap.size w w4 := by rw [← hW4]; exact (hC3.setCell (by simp; omega) _).drew
  have r4 : w4.heap[g]? = some (.cells ((cur.setIfInBounds 2 (.int .u8 (F' / 256))).setIfInBounds 3 (.int .u8 (F' % 256))) 5 (0, 0)) := by rw [← hW4]; first | exact row_drew (heap_setCell_same _ _ _ _ _ _ RG3.out) | (rw [e3]; exact row_drew (heap_setCell_same _ _ _ _ _ _ RG3.out))
  have r4' : w4.heap[g']? = some (.cells cur' 5 (0, 0)) := by rw [← hW4]; exact row_drew (row_other _ RG3'.out (by omega))
  have t1 := take_string (cap := cap) r4 ((take_set2 HT.out).trans (encB_N i' F')) rfl
  have t2 := take_string (cap := cap') r4' (HT'.out.trans (encB_N i' F')) rfl
  clear hW4 hC3 r4 r4' RG3 RG3' x3' f3' cM3
  refine (Equal_same _ _ _ _ t1 t2).mono ?_
  rintro e w5 ⟨rfl, rfl⟩
  go_wp2_with fail
  go_ret
  exact ⟨rfl, hC4⟩

set_option maxHeartbeats 2000000 in
set_option maxRecDepth 100000 in
theorem Flags_1 (i o c which i' o' c' F F' : Int) (r aa tc rd ra : Bool) (w : World) (hm : Masks w)
    (eI : wrap64 ((IntKind.u64.wrap i).tmod 65536) = i') (eO : wrap64 ((IntKind.u64.wrap o).tmod 16) = o') (eC : wrap64 ((IntKind.u64.wrap c).tmod 16) = c') (eW : wrap64 ((IntKind.u64.wrap which).tmod 5) = 1)
    (bI : 0 ≤ i' ∧ i' ≤ 65535) (bO : 0 ≤ o' ∧ o' ≤ 15) (bC : 0 ≤ c' ∧ c' ≤ 15) (bF : 0 ≤ F ∧ F ≤ 65535) (hF : Hid (flags o' c' r aa tc rd ra = F)) (hF' : Hid (flags o' c' r (!aa) tc rd ra = F'))
    (e2 : bits .xor .u8 (F / 256) 4 = F' / 256) (e3 : bits .xor .u8 (F % 256) 0 = F' % 256) :
    Calls Tryd.prog 3 #[hdV i r o aa tc rd ra c, .int .i64 which] w fun e w' => e = .returned (.bool true) ∧ Below w.heap.size w w' := by
  have hcan : canH i' o' c' 0 0 0 0 = true := canH_true ⟨by omega, by omega, by omega, by omega, by omega, by omega, by omega⟩
  go_enter Tryd.func3, Tryd.ntmps3
  go_wp2_with fail
  refine (Encode_row _ _ _ _ _ _ _ _ _ _ _ _ _ _ hcan (hm.below (by (repeat first | (with_reducible exact Below.refl _ _) | (with_reducible assumption) | (with_reducible refine below_drewN ?_ _) | (with_reducible refine Below.drew ?_) | (with_reducible refine Below.alloc ?_ (by go_size) _) | (with_reducible refine Below.setCell ?_ (by go_size) _)))) hF.out).mono ?_
  rintro e w1 ⟨g, cap, cur, rfl, hg, hrow, htake, hB1⟩
  have hB : Below w.heap.size w w1 := Below.trans (by (repeat first | (with_reducible exact Below.refl _ _) | (with_reducible assumption) | (with_reducible refine below_drewN ?_ _) | (with_reducible refine Below.drew ?_) | (with_reducible refine Below.alloc ?_ (by go_size) _) | (with_reducible refine Below.setCell ?_ (by go_size) _))) (hB1.mono (by simp))
  have s0 : w.heap.size < w1.heap.size := by have := hB1.size; simp at this; omega
  have g0 : w.heap.size < g := by simp at hg; omega
  have g1 : g < w1.heap.size := (Array.getElem?_eq_some_iff.1 hrow).1
  have c2 := cells8 ((hB1.block w.heap.size (by simp)).trans (rows1 w _ 0))
  clear hB1 hg
  go_wp2_with fail
  generalize hW : World.alloc _ (Obj.cells #[.int .i64 32768, .int .i64 1024, .int .i64 512, .int .i64 256, .int .i64 128] _ _) = W
  have hBW : Below w.heap.size w W := by rw [← hW]; refine Below.alloc ?_ (by simp; omega) _; exact hB.setCell (Nat.le_refl _) _
  have rM : W.heap[w1.heap.size]? = some (.cells #[.int .i64 32768, .int .i64 1024, .int .i64 512, .int .i64 256, .int .i64 128] 3 (0, 0)) := by rw [← hW]; exact row_new _ (by simp)
  have rG : W.heap[g]? = some (.cells cur 5 (0, 0)) := by rw [← hW]; exact row_old _ (row_other _ hrow (by omega))
  have lM : w1.heap.size < W.heap.size := by rw [← hW]; simp
  clear hW c2 hrow hB
  refine (Encode_row _ _ _ _ _ _ _ _ _ _ _ _ _ _ hcan (hm.below hBW) hF'.out).mono ?_
  rintro e w2 ⟨g', cap', cur', rfl, hg', hrow', htake', hB2⟩
  have hC := hBW.trans (hB2.mono hBW.size)
  have rM2 := (hB2.block _ lM).trans rM
  have cM := cells5 rM2
  have RM := Lib.hid rM2
  have rG2 := (hB2.block g (by omega)).trans rG
  have x2 : w2.cell? ⟨g, 2, none⟩ = some (.int .u8 (F / 256)) := cell_take rG2 htake 2 (by omega)
  have x3 : w2.cell? ⟨g, 3, none⟩ = some (.int .u8 (F % 256)) := cell_take rG2 htake 3 (by omega)
  have f2 : w2.frozen? ⟨g, 2, none⟩ = false := frozen_of_row _ _ _ _ _ rG2
  have f3 : w2.frozen? ⟨g, 3, none⟩ = false := frozen_of_row _ _ _ _ _ rG2
  have RG := Lib.hid rG2
  have RG' := Lib.hid hrow'
  have HT := Lib.hid htake
  have HT' := Lib.hid htake'
  clear rM rM2 rG rG2 hrow' htake htake' hB2 hBW eI eO eC
  go_wp2_with fail
  go_still_tail 11, (by kernel_rfl)
  change wpList _ _ _ _ _ w2.drew
  go_wp2_with fail
  generalize hW3 : World.drew _ = w3
  have hC3 : Below w.heap.size w w3 := by rw [← hW3]; exact (hC.setCell (by simp; omega) _).drew
  have RG3 : Hid (w3.heap[g]? = some (.cells (cur.setIfInBounds 2 (.int .u8 (F' / 256))) 5 (0, 0))) := by rw [← hW3]; first | exact Lib.hid (row_drew (heap_setCell_same _ _ _ _ _ _ RG.out)) | (rw [e2]; exact Lib.hid (row_drew (heap_setCell_same _ _ _ _ _ _ RG.out)))
  have RG3' : Hid (w3.heap[g']? = some (.cells cur' 5 (0, 0))) := by rw [← hW3]; exact Lib.hid (row_drew (row_other _ RG'.out (by omega)))
  have RM3 : Hid (w3.heap[w1.heap.size]? = some (.cells #[.int .i64 32768, .int .i64 1024, .int .i64 512, .int .i64 256, .int .i64 128] 3 (0, 0))) := by rw [← hW3]; exact Lib.hid (row_drew (row_other _ RM.out (by omega)))
  have x3' : w3.cell? ⟨g, 3, none⟩ = some (.int .u8 (F % 256)) := by rw [← hW3]; exact (World.cell?_setCell_other _ _ _ _ (by simp)).trans x3
  have f3' : w3.frozen? ⟨g, 3, none⟩ = false := frozen_of_row _ _ _ _ _ RG3.out
  have cM3 := cells5 RM3.out
  clear hW3 hC RG RG' x2 x3 f2 f3 cM
  go_still_tail 10, (by kernel_rfl)
  change wpList _ _ _ _ _ w3.drew
  go_wp2_with fail
  generalize hW4 : World.drew _ = w4
  have hC4 : Below w.heap.size w w4 := by rw [← hW4]; exact (hC3.setCell (by simp; omega) _).drew
  have r4 : w4.heap[g]? = some (.cells ((cur.setIfInBounds 2 (.int .u8 (F' / 256))).setIfInBounds 3 (.int .u8 (F' % 256))) 5 (0, 0)) := by rw [← hW4]; first | exact row_drew (heap_setCell_same _ _ _ _ _ _ RG3.out) | (rw [e3]; exact row_drew (heap_setCell_same _ _ _ _ _ _ RG3.out))
  have r4' : w4.heap[g']? = some (.cells cur' 5 (0, 0)) := by rw [← hW4]; exact row_drew (row_other _ RG3'.out (by omega))
  have t1 := take_string (cap := cap) r4 ((take_set2 HT.out).trans (encB_N i' F')) rfl
  have t2 := take_string (cap := cap') r4' (HT'.out.trans (encB_N i' F')) rfl
  clear hW4 hC3 r4 r4' RG3 RG3' x3' f3' cM3
  refine (Equal_same _ _ _ _ t1 t2).mono ?_
  rintro e w5 ⟨rfl, rfl⟩
  go_wp2_with fail
  go_ret
  exact ⟨rfl, hC4⟩

set_option maxHeartbeats 2000000 in
set_option maxRecDepth 100000 in
theorem Flags_2 (i o c which i' o' c' F F' : Int) (r aa tc rd ra : Bool) (w : World) (hm : Masks w)
    (eI : wrap64 ((IntKind.u64.wrap i).tmod 65536) = i') (eO : wrap64 ((IntKind.u64.wrap o).tmod 16) = o') (eC : wrap64 ((IntKind.u64.wrap c).tmod 16) = c') (eW : wrap64 ((IntKind.u64.wrap which).tmod 5) = 2)
    (bI : 0 ≤ i' ∧ i' ≤ 65535) (bO : 0 ≤ o' ∧ o' ≤ 15) (bC : 0 ≤ c' ∧ c' ≤ 15) (bF : 0 ≤ F ∧ F ≤ 65535) (hF : Hid (flags o' c' r aa tc rd ra = F)) (hF' : Hid (flags o' c' r aa (!tc) rd ra = F'))
    (e2 : bits .xor .u8 (F / 256) 2 = F' / 256) (e3 : bits .xor .u8 (F % 256) 0 = F' % 256) :
    Calls Tryd.prog 3 #[hdV i r o aa tc rd ra c, .int .i64 which] w fun e w' => e = .returned (.bool true) ∧ Below w.heap.size w w' := by
  have hcan : canH i' o' c' 0 0 0 0 = true := canH_true ⟨by omega, by omega, by omega, by omega, by omega, by omega, by omega⟩
  go_enter Tryd.func3, Tryd.ntmps3
  go_wp2_with fail
  refine (Encode_row _ _ _ _ _ _ _ _ _ _ _ _ _ _ hcan (hm.below (by (repeat first | (with_reducible exact Below.refl _ _) | (with_reducible assumption) | (with_reducible refine below_drewN ?_ _) | (with_reducible refine Below.drew ?_) | (with_reducible refine Below.alloc ?_ (by go_size) _) | (with_reducible refine Below.setCell ?_ (by go_size) _)))) hF.out).mono ?_
  rintro e w1 ⟨g, cap, cur, rfl, hg, hrow, htake, hB1⟩
  have hB : Below w.heap.size w w1 := Below.trans (by (repeat first | (with_reducible exact Below.refl _ _) | (with_reducible assumption) | (with_reducible refine below_drewN ?_ _) | (with_reducible refine Below.drew ?_) | (with_reducible refine Below.alloc ?_ (by go_size) _) | (with_reducible refine Below.setCell ?_ (by go_size) _))) (hB1.mono (by simp))
  have s0 : w.heap.size < w1.heap.size := by have := hB1.size; simp at this; omega
  have g0 : w.heap.size < g := by simp at hg; omega
  have g1 : g < w1.heap.size := (Array.getElem?_eq_some_iff.1 hrow).1
  have c2 := cells8 ((hB1.block w.heap.size (by simp)).trans (rows1 w _ 0))
  clear hB1 hg
  go_wp2_with fail
  generalize hW : World.alloc _ (Obj.cells #[.int .i64 32768, .int .i64 1024, .int .i64 512, .int .i64 256, .int .i64 128] _ _) = W
  have hBW : Below w.heap.size w W := by rw [← hW]; refine Below.alloc ?_ (by simp; omega) _; exact hB.setCell (Nat.le_refl _) _
  have rM : W.heap[w1.heap.size]? = some (.cells #[.int .i64 32768, .int .i64 1024, .int .i64 512, .int .i64 256, .int .i64 128] 3 (0, 0)) := by rw [← hW]; exact row_new _ (by simp)
  have rG : W.heap[g]? = some (.cells cur 5 (0, 0)) := by rw [← hW]; exact row_old _ (row_other _ hrow (by omega))
  have lM : w1.heap.size < W.heap.size := by rw [← hW]; simp
  clear hW c2 hrow hB
  refine (Encode_row _ _ _ _ _ _ _ _ _ _ _ _ _ _ hcan (hm.below hBW) hF'.out).mono ?_
  rintro e w2 ⟨g', cap', cur', rfl, hg', hrow', htake', hB2⟩
  have hC := hBW.trans (hB2.mono hBW.size)
  have rM2 := (hB2.block _ lM).trans rM
  have cM := cells5 rM2
  have RM := Lib.hid rM2
  have rG2 := (hB2.block g (by omega)).trans rG
  have x2 : w2.cell? ⟨g, 2, none⟩ = some (.int .u8 (F / 256)) := cell_take rG2 htake 2 (by omega)
  have x3 : w2.cell? ⟨g, 3, none⟩ = some (.int .u8 (F % 256)) := cell_take rG2 htake 3 (by omega)
  have f2 : w2.frozen? ⟨g, 2, none⟩ = false := frozen_of_row _ _ _ _ _ rG2
  have f3 : w2.frozen? ⟨g, 3, none⟩ = false := frozen_of_row _ _ _ _ _ rG2
  have RG := Lib.hid rG2
  have RG' := Lib.hid hrow'
  have HT := Lib.hid htake
  have HT' := Lib.hid htake'
  clear rM rM2 rG rG2 hrow' htake htake' hB2 hBW eI eO eC
  go_wp2_with fail
  go_still_tail 11, (by kernel_rfl)
  change wpList _ _ _ _ _ w2.drew
  go_wp2_with fail
  generalize hW3 : World.drew _ = w3
  have hC3 : Below w.heap.size w w3 := by rw [← hW3]; exact (hC.setCell (by simp; omega) _).drew
  have RG3 : Hid (w3.heap[g]? = some (.cells (cur.setIfInBounds 2 (.int .u8 (F' / 256))) 5 (0, 0))) := by rw [← hW3]; first | exact Lib.hid (row_drew (heap_setCell_same _ _ _ _ _ _ RG.out)) | (rw [e2]; exact Lib.hid (row_drew (heap_setCell_same _ _ _ _ _ _ RG.out)))
  have RG3' : Hid (w3.heap[g']? = some (.cells cur' 5 (0, 0))) := by rw [← hW3]; exact Lib.hid (row_drew (row_other _ RG'.out (by omega)))
  have RM3 : Hid (w3.heap[w1.heap.size]? = some (.cells #[.int .i64 32768, .int .i64 1024, .int .i64 512, .int .i64 256, .int .i64 128] 3 (0, 0))) := by rw [← hW3]; exact Lib.hid (row_drew (row_other _ RM.out (by omega)))
  have x3' : w3.cell? ⟨g, 3, none⟩ = some (.int .u8 (F % 256)) := by rw [← hW3]; exact (World.cell?_setCell_other _ _ _ _ (by simp)).trans x3
  have f3' : w3.frozen? ⟨g, 3, none⟩ = false := frozen_of_row _ _ _ _ _ RG3.out
  have cM3 := cells5 RM3.out
  clear hW3 hC RG RG' x2 x3 f2 f3 cM
  go_still_tail 10, (by kernel_rfl)
  change wpList _ _ _ _ _ w3.drew
  go_wp2_with fail
  generalize hW4 : World.drew _ = w4
  have hC4 : Below w.heap.size w w4 := by rw [← hW4]; exact (hC3.setCell (by simp; omega) _).drew
  have r4 : w4.heap[g]? = some (.cells ((cur.setIfInBounds 2 (.int .u8 (F' / 256))).setIfInBounds 3 (.int .u8 (F' % 256))) 5 (0, 0)) := by rw [← hW4]; first | exact row_drew (heap_setCell_same _ _ _ _ _ _ RG3.out) | (rw [e3]; exact row_drew (heap_setCell_same _ _ _ _ _ _ RG3.out))
  have r4' : w4.heap[g']? = some (.cells cur' 5 (0, 0)) := by rw [← hW4]; exact row_drew (row_other _ RG3'.out (by omega))
  have t1 := take_string (cap := cap) r4 ((take_set2 HT.out).trans (encB_N i' F')) rfl
  have t2 := take_string (cap := cap') r4' (HT'.out.trans (encB_N i' F')) rfl
  clear hW4 hC3 r4 r4' RG3 RG3' x3' f3' cM3
  refine (Equal_same _ _ _ _ t1 t2).mono ?_
  rintro e w5 ⟨rfl, rfl⟩
  go_wp2_with fail
  go_ret
  exact ⟨rfl, hC4⟩

set_option maxHeartbeats 2000000 in
set_option maxRecDepth 100000 in
theorem Flags_3 (i o c which i' o' c' F F' : Int) (r aa tc rd ra : Bool) (w : World) (hm : Masks w)
    (eI : wrap64 ((IntKind.u64.wrap i).tmod 65536) = i') (eO : wrap64 ((IntKind.u64.wrap o).tmod 16) = o') (eC : wrap64 ((IntKind.u64.wrap c).tmod 16) = c') (eW : wrap64 ((IntKind.u64.wrap which).tmod 5) = 3)
    (bI : 0 ≤ i' ∧ i' ≤ 65535) (bO : 0 ≤ o' ∧ o' ≤ 15) (bC : 0 ≤ c' ∧ c' ≤ 15) (bF : 0 ≤ F ∧ F ≤ 65535) (hF : Hid (flags o' c' r aa tc rd ra = F)) (hF' : Hid (flags o' c' r aa tc (!rd) ra = F'))
    (e2 : bits .xor .u8 (F / 256) 1 = F' / 256) (e3 : bits .xor .u8 (F % 256) 0 = F' % 256) :
    Calls Tryd.prog 3 #[hdV i r o aa tc rd ra c, .int .i64 which] w fun e w' => e = .returned (.bool true) ∧ Below w.heap.size w w' := by
  have hcan : canH i' o' c' 0 0 0 0 = true := canH_true ⟨by omega, by omega, by omega, by omega, by omega, by omega, by omega⟩
  go_enter Tryd.func3, Tryd.ntmps3
  go_wp2_with fail
  refine (Encode_row _ _ _ _ _ _ _ _ _ _ _ _ _ _ hcan (hm.below (by (repeat first | (with_reducible exact Below.refl _ _) | (with_reducible assumption) | (with_reducible refine below_drewN ?_ _) | (with_reducible refine Below.drew ?_) | (with_reducible refine Below.alloc ?_ (by go_size) _) | (with_reducible refine Below.setCell ?_ (by go_size) _)))) hF.out).mono ?_
  rintro e w1 ⟨g, cap, cur, rfl, hg, hrow, htake, hB1⟩
  have hB : Below w.heap.size w w1 := Below.trans (by (repeat first | (with_reducible exact Below.refl _ _) | (with_reducible assumption) | (with_reducible refine below_drewN ?_ _) | (with_reducible refine Below.drew ?_) | (with_reducible refine Below.alloc ?_ (by go_size) _) | (with_reducible refine Below.setCell ?_ (by go_size) _))) (hB1.mono (by simp))
  have s0 : w.heap.size < w1.heap.size := by have := hB1.size; simp at this; omega
  have g0 : w.heap.size < g := by simp at hg; omega
  have g1 : g < w1.heap.size := (Array.getElem?_eq_some_iff.1 hrow).1
  have c2 := cells8 ((hB1.block w.heap.size (by simp)).trans (rows1 w _ 0))
  clear hB1 hg
  go_wp2_with fail
  generalize hW : World.alloc _ (Obj.cells #[.int .i64 32768, .int .i64 1024, .int .i64 512, .int .i64 256, .int .i64 128] _ _) = W
  have hBW : Below w.heap.size w W := by rw [← hW]; refine Below.alloc ?_ (by simp; omega) _; exact hB.setCell (Nat.le_refl _) _
  have rM : W.heap[w1.heap.size]? = some (.cells #[.int .i64 32768, .int .i64 1024, .int .i64 512, .int .i64 256, .int .i64 128] 3 (0, 0)) := by rw [← hW]; exact row_new _ (by simp)
  have rG : W.heap[g]? = some (.cells cur 5 (0, 0)) := by rw [← hW]; exact row_old _ (row_other _ hrow (by omega))
  have lM : w1.heap.size < W.heap.size := by rw [← hW]; simp
  clear hW c2 hrow hB
  refine (Encode_row _ _ _ _ _ _ _ _ _ _ _ _ _ _ hcan (hm.below hBW) hF'.out).mono ?_
  rintro e w2 ⟨g', cap', cur', rfl, hg', hrow', htake', hB2⟩
  have hC := hBW.trans (hB2.mono hBW.size)
  have rM2 := (hB2.block _ lM).trans rM
  have cM := cells5 rM2
  have RM := Lib.hid rM2
  have rG2 := (hB2.block g (by omega)).trans rG
  have x2 : w2.cell? ⟨g, 2, none⟩ = some (.int .u8 (F / 256)) := cell_take rG2 htake 2 (by omega)
  have x3 : w2.cell? ⟨g, 3, none⟩ = some (.int .u8 (F % 256)) := cell_take rG2 htake 3 (by omega)
  have f2 : w2.frozen? ⟨g, 2, none⟩ = false := frozen_of_row _ _ _ _ _ rG2
  have f3 : w2.frozen? ⟨g, 3, none⟩ = false := frozen_of_row _ _ _ _ _ rG2
  have RG := Lib.hid rG2
  have RG' := Lib.hid hrow'
  have HT := Lib.hid htake
  have HT' := Lib.hid htake'
  clear rM rM2 rG rG2 hrow' htake htake' hB2 hBW eI eO eC
  go_wp2_with fail
  go_still_tail 11, (by kernel_rfl)
  change wpList _ _ _ _ _ w2.drew
  go_wp2_with fail
  generalize hW3 : World.drew _ = w3
  have hC3 : Below w.heap.size w w3 := by rw [← hW3]; exact (hC.setCell (by simp; omega) _).drew
  have RG3 : Hid (w3.heap[g]? = some (.cells (cur.setIfInBounds 2 (.int .u8 (F' / 256))) 5 (0, 0))) := by rw [← hW3]; first | exact Lib.hid (row_drew (heap_setCell_same _ _ _ _ _ _ RG.out)) | (rw [e2]; exact Lib.hid (row_drew (heap_setCell_same _ _ _ _ _ _ RG.out)))
  have RG3' : Hid (w3.heap[g']? = some (.cells cur' 5 (0, 0))) := by rw [← hW3]; exact Lib.hid (row_drew (row_other _ RG'.out (by omega)))
  have RM3 : Hid (w3.heap[w1.heap.size]? = some (.cells #[.int .i64 32768, .int .i64 1024, .int .i64 512, .int .i64 256, .int .i64 128] 3 (0, 0))) := by rw [← hW3]; exact Lib.hid (row_drew (row_other _ RM.out (by omega)))
  have x3' : w3.cell? ⟨g, 3, none⟩ = some (.int .u8 (F % 256)) := by rw [← hW3]; exact (World.cell?_setCell_other _ _ _ _ (by simp)).trans x3
  have f3' : w3.frozen? ⟨g, 3, none⟩ = false := frozen_of_row _ _ _ _ _ RG3.out
  have cM3 := cells5 RM3.out
  clear hW3 hC RG RG' x2 x3 f2 f3 cM
  go_still_tail 10, (by kernel_rfl)
  change wpList _ _ _ _ _ w3.drew
  go_wp2_with fail
  generalize hW4 : World.drew _ = w4
  have hC4 : Below w.heap.size w w4 := by rw [← hW4]; exact (hC3.setCell (by simp; omega) _).drew
  have r4 : w4.heap[g]? = some (.cells ((cur.setIfInBounds 2 (.int .u8 (F' / 256))).setIfInBounds 3 (.int .u8 (F' % 256))) 5 (0, 0)) := by rw [← hW4]; first | exact row_drew (heap_setCell_same _ _ _ _ _ _ RG3.out) | (rw [e3]; exact row_drew (heap_setCell_same _ _ _ _ _ _ RG3.out))
  have r4' : w4.heap[g']? = some (.cells cur' 5 (0, 0)) := by rw [← hW4]; exact row_drew (row_other _ RG3'.out (by omega))
  have t1 := take_string (cap := cap) r4 ((take_set2 HT.out).trans (encB_N i' F')) rfl
  have t2 := take_string (cap := cap') r4' (HT'.out.trans (encB_N i' F')) rfl
  clear hW4 hC3 r4 r4' RG3 RG3' x3' f3' cM3
  refine (Equal_same _ _ _ _ t1 t2).mono ?_
  rintro e w5 ⟨rfl, rfl⟩
  go_wp2_with fail
  go_ret
  exact ⟨rfl, hC4⟩

set_option maxHeartbeats 2000000 in
set_option maxRecDepth 100000 in
theorem Flags_4 (i o c which i' o' c' F F' : Int) (r aa tc rd ra : Bool) (w : World) (hm : Masks w)
    (eI : wrap64 ((IntKind.u64.wrap i).tmod 65536) = i') (eO : wrap64 ((IntKind.u64.wrap o).tmod 16) = o') (eC : wrap64 ((IntKind.u64.wrap c).tmod 16) = c') (eW : wrap64 ((IntKind.u64.wrap which).tmod 5) = 4)
    (bI : 0 ≤ i' ∧ i' ≤ 65535) (bO : 0 ≤ o' ∧ o' ≤ 15) (bC : 0 ≤ c' ∧ c' ≤ 15) (bF : 0 ≤ F ∧ F ≤ 65535) (hF : Hid (flags o' c' r aa tc rd ra = F)) (hF' : Hid (flags o' c' r aa tc rd (!ra) = F'))
    (e2 : bits .xor .u8 (F / 256) 0 = F' / 256) (e3 : bits .xor .u8 (F % 256) 128 = F' % 256) :
    Calls Tryd.prog 3 #[hdV i r o aa tc rd ra c, .int .i64 which] w fun e w' => e = .returned (.bool true) ∧ Below w.heap.size w w' := by
  have hcan : canH i' o' c' 0 0 0 0 = true := canH_true ⟨by omega, by omega, by omega, by omega, by omega, by omega, by omega⟩
  go_enter Tryd.func3, Tryd.ntmps3
  go_wp2_with fail
  refine (Encode_row _ _ _ _ _ _ _ _ _ _ _ _ _ _ hcan (hm.below (by (repeat first | (with_reducible exact Below.refl _ _) | (with_reducible assumption) | (with_reducible refine below_drewN ?_ _) | (with_reducible refine Below.drew ?_) | (with_reducible refine Below.alloc ?_ (by go_size) _) | (with_reducible refine Below.setCell ?_ (by go_size) _)))) hF.out).mono ?_
  rintro e w1 ⟨g, cap, cur, rfl, hg, hrow, htake, hB1⟩
  have hB : Below w.heap.size w w1 := Below.trans (by (repeat first | (with_reducible exact Below.refl _ _) | (with_reducible assumption) | (with_reducible refine below_drewN ?_ _) | (with_reducible refine Below.drew ?_) | (with_reducible refine Below.alloc ?_ (by go_size) _) | (with_reducible refine Below.setCell ?_ (by go_size) _))) (hB1.mono (by simp))
  have s0 : w.heap.size < w1.heap.size := by have := hB1.size; simp at this; omega
  have g0 : w.heap.size < g := by simp at hg; omega
  have g1 : g < w1.heap.size := (Array.getElem?_eq_some_iff.1 hrow).1
  have c2 := cells8 ((hB1.block w.heap.size (by simp)).trans (rows1 w _ 0))
  clear hB1 hg
  go_wp2_with fail
  generalize hW : World.alloc _ (Obj.cells #[.int .i64 32768, .int .i64 1024, .int .i64 512, .int .i64 256, .int .i64 128] _ _) = W
  have hBW : Below w.heap.size w W := by rw [← hW]; refine Below.alloc ?_ (by simp; omega) _; exact hB.setCell (Nat.le_refl _) _
  have rM : W.heap[w1.heap.size]? = some (.cells #[.int .i64 32768, .int .i64 1024, .int .i64 512, .int .i64 256, .int .i64 128] 3 (0, 0)) := by rw [← hW]; exact row_new _ (by simp)
  have rG : W.heap[g]? = some (.cells cur 5 (0, 0)) := by rw [← hW]; exact row_old _ (row_other _ hrow (by omega))
  have lM : w1.heap.size < W.heap.size := by rw [← hW]; simp
  clear hW c2 hrow hB
  refine (Encode_row _ _ _ _ _ _ _ _ _ _ _ _ _ _ hcan (hm.below hBW) hF'.out).mono ?_
  rintro e w2 ⟨g', cap', cur', rfl, hg', hrow', htake', hB2⟩
  have hC := hBW.trans (hB2.mono hBW.size)
  have rM2 := (hB2.block _ lM).trans rM
  have cM := cells5 rM2
  have RM := Lib.hid rM2
  have rG2 := (hB2.block g (by omega)).trans rG
  have x2 : w2.cell? ⟨g, 2, none⟩ = some (.int .u8 (F / 256)) := cell_take rG2 htake 2 (by omega)
  have x3 : w2.cell? ⟨g, 3, none⟩ = some (.int .u8 (F % 256)) := cell_take rG2 htake 3 (by omega)
  have f2 : w2.frozen? ⟨g, 2, none⟩ = false := frozen_of_row _ _ _ _ _ rG2
  have f3 : w2.frozen? ⟨g, 3, none⟩ = false := frozen_of_row _ _ _ _ _ rG2
  have RG := Lib.hid rG2
  have RG' := Lib.hid hrow'
  have HT := Lib.hid htake
  have HT' := Lib.hid htake'
  clear rM rM2 rG rG2 hrow' htake htake' hB2 hBW eI eO eC
  go_wp2_with fail
  go_still_tail 11, (by kernel_rfl)
  change wpList _ _ _ _ _ w2.drew
  go_wp2_with fail
  generalize hW3 : World.drew _ = w3
  have hC3 : Below w.heap.size w w3 := by rw [← hW3]; exact (hC.setCell (by simp; omega) _).drew
  have RG3 : Hid (w3.heap[g]? = some (.cells (cur.setIfInBounds 2 (.int .u8 (F' / 256))) 5 (0, 0))) := by rw [← hW3]; first | exact Lib.hid (row_drew (heap_setCell_same _ _ _ _ _ _ RG.out)) | (rw [e2]; exact Lib.hid (row_drew (heap_setCell_same _ _ _ _ _ _ RG.out)))
  have RG3' : Hid (w3.heap[g']? = some (.cells cur' 5 (0, 0))) := by rw [← hW3]; exact Lib.hid (row_drew (row_other _ RG'.out (by omega)))
  have RM3 : Hid (w3.heap[w1.heap.size]? = some (.cells #[.int .i64 32768, .int .i64 1024, .int .i64 512, .int .i64 256, .int .i64 128] 3 (0, 0))) := by rw [← hW3]; exact Lib.hid (row_drew (row_other _ RM.out (by omega)))
  have x3' : w3.cell? ⟨g, 3, none⟩ = some (.int .u8 (F % 256)) := by rw [← hW3]; exact (World.cell?_setCell_other _ _ _ _ (by simp)).trans x3
  have f3' : w3.frozen? ⟨g, 3, none⟩ = false := frozen_of_row _ _ _ _ _ RG3.out
  have cM3 := cells5 RM3.out
  clear hW3 hC RG RG' x2 x3 f2 f3 cM
  go_still_tail 10, (by kernel_rfl)
  change wpList _ _ _ _ _ w3.drew
  go_wp2_with fail
  generalize hW4 : World.drew _ = w4
  have hC4 : Below w.heap.size w w4 := by rw [← hW4]; exact (hC3.setCell (by simp; omega) _).drew
  have r4 : w4.heap[g]? = some (.cells ((cur.setIfInBounds 2 (.int .u8 (F' / 256))).setIfInBounds 3 (.int .u8 (F' % 256))) 5 (0, 0)) := by rw [← hW4]; first | exact row_drew (heap_setCell_same _ _ _ _ _ _ RG3.out) | (rw [e3]; exact row_drew (heap_setCell_same _ _ _ _ _ _ RG3.out))
  have r4' : w4.heap[g']? = some (.cells cur' 5 (0, 0)) := by rw [← hW4]; exact row_drew (row_other _ RG3'.out (by omega))
  have t1 := take_string (cap := cap) r4 ((take_set2 HT.out).trans (encB_N i' F')) rfl
  have t2 := take_string (cap := cap') r4' (HT'.out.trans (encB_N i' F')) rfl
  clear hW4 hC3 r4 r4' RG3 RG3' x3' f3' cM3
  refine (Equal_same _ _ _ _ t1 t2).mono ?_
  rintro e w5 ⟨rfl, rfl⟩
  go_wp2_with fail
  go_ret
  exact ⟨rfl, hC4⟩

set_option maxRecDepth 100000 in
theorem xor128 (a : Fin 256) : a.val ^^^ 128 = if a.val / 128 % 2 = 0 then a.val + 128 else a.val - 128 := by revert a; decide
set_option maxRecDepth 100000 in
theorem xor4 (a : Fin 256) : a.val ^^^ 4 = if a.val / 4 % 2 = 0 then a.val + 4 else a.val - 4 := by revert a; decide
set_option maxRecDepth 100000 in
theorem xor2 (a : Fin 256) : a.val ^^^ 2 = if a.val / 2 % 2 = 0 then a.val + 2 else a.val - 2 := by revert a; decide
set_option maxRecDepth 100000 in
theorem xor1 (a : Fin 256) : a.val ^^^ 1 = if a.val / 1 % 2 = 0 then a.val + 1 else a.val - 1 := by revert a; decide
theorem xor_at (m : Nat) (hm : m < 256) (hx : ∀ a : Fin 256, a.val ^^^ m = if a.val / m % 2 = 0 then a.val + m else a.val - m) (x : Int) (h0 : 0 ≤ x) (h1 : x ≤ 255) :
    bits .xor .u8 x m = if x / m % 2 = 0 then x + m else x - m := by
  obtain ⟨a, rfl⟩ := Int.eq_ofNat_of_zero_le h0
  rw [u8_xor_nat a m (by omega) hm, hx ⟨a, by omega⟩]
  simp only
  have hle : a / m % 2 = 0 ∨ m ≤ a := by
    rcases Nat.lt_or_ge a m with h | h
    · left; rw [Nat.div_eq_of_lt h]
    · right; exact h
  have e : ((a : Int) / (m : Int) % 2 = 0) ↔ (a / m % 2 = 0) := by
    constructor
    · intro h; exact_mod_cast h
    · intro h; exact_mod_cast h
  by_cases h : a / m % 2 = 0
  · rw [if_pos h, if_pos (e.2 h)]; simp
  · rw [if_neg h, if_neg (fun q => h (e.1 q))]
    have : m ≤ a := by rcases hle with q | q
                       · exact absurd q h
                       · exact q
    omega
theorem xor0 (x : Int) (h0 : 0 ≤ x) (h1 : x ≤ 255) : bits .xor .u8 x 0 = x := by
  obtain ⟨a, rfl⟩ := Int.eq_ofNat_of_zero_le h0
  have := u8_xor_nat a 0 (by omega) (by omega)
  simpa using this

theorem bi_not (b : Bool) : bi (!b) = 1 - bi b := by cases b <;> rfl

theorem Flags_any (i o c which : Int) (r aa tc rd ra : Bool) (w : World) (hm : Masks w) :
    Calls Tryd.prog 3 #[hdV i r o aa tc rd ra c, .int .i64 which] w fun e w' => e = .returned (.bool true) ∧ Below w.heap.size w w' := by
  have d (x m : Int) (hm0 : 0 < m) (hm1 : m ≤ 65536) : 0 ≤ wrap64 ((IntKind.u64.wrap x).tmod m) ∧ wrap64 ((IntKind.u64.wrap x).tmod m) ≤ m - 1 := by
    have h0 : 0 ≤ IntKind.u64.wrap x := by rw [IntKind.wrap_u64]; omega
    have e : (IntKind.u64.wrap x).tmod m = IntKind.u64.wrap x % m := Int.tmod_eq_emod_of_nonneg h0
    have l := Int.emod_lt_of_pos (IntKind.u64.wrap x) hm0
    have n := Int.emod_nonneg (IntKind.u64.wrap x) (show m ≠ 0 by omega)
    rw [e, IntWalk.wrap64_in _ ⟨by omega, by omega⟩]
    omega
  obtain ⟨i', eI⟩ : ∃ x, wrap64 ((IntKind.u64.wrap i).tmod 65536) = x := ⟨_, rfl⟩
  obtain ⟨o', eO⟩ : ∃ x, wrap64 ((IntKind.u64.wrap o).tmod 16) = x := ⟨_, rfl⟩
  obtain ⟨c', eC⟩ : ∃ x, wrap64 ((IntKind.u64.wrap c).tmod 16) = x := ⟨_, rfl⟩
  obtain ⟨k, eW⟩ : ∃ x, wrap64 ((IntKind.u64.wrap which).tmod 5) = x := ⟨_, rfl⟩
  have bI := d i 65536 (by omega) (by omega)
  have bO := d o 16 (by omega) (by omega)
  have bC := d c 16 (by omega) (by omega)
  have bW := d which 5 (by omega) (by omega)
  rw [eI] at bI
  rw [eO] at bO
  rw [eC] at bC
  rw [eW] at bW
  clear d
  have dr := bi_bd r
  have da := bi_bd aa
  have dt := bi_bd tc
  have dd := bi_bd rd
  have dx := bi_bd ra
  have bF := flags_bd r aa tc rd ra (show 0 ≤ o' ∧ o' ≤ 15 by omega) (show 0 ≤ c' ∧ c' ≤ 15 by omega)
  obtain ⟨F, hF⟩ : ∃ F, flags o' c' r aa tc rd ra = F := ⟨_, rfl⟩
  rw [hF] at bF
  have vF := hF
  simp only [flags, flk] at vF
  have hk : k = 0 ∨ k = 1 ∨ k = 2 ∨ k = 3 ∨ k = 4 := by omega
  rcases hk with rfl | rfl | rfl | rfl | rfl
  · obtain ⟨F', hF'⟩ : ∃ F', flags o' c' (!r) aa tc rd ra = F' := ⟨_, rfl⟩
    have vF' := hF'
    simp only [flags, flk, bi_not] at vF'
    exact Flags_0 i o c which i' o' c' F F' r aa tc rd ra w hm eI eO eC eW (by omega) (by omega) (by omega) bF hF hF'
      (by rw [show (128 : Int) = ((128 : Nat) : Int) from rfl, xor_at 128 (by omega) xor128 (F / 256) (by omega) (by omega)]; split <;> omega)
      (by rw [xor0 _ (by omega) (by omega)]; omega)
  · obtain ⟨F', hF'⟩ : ∃ F', flags o' c' r (!aa) tc rd ra = F' := ⟨_, rfl⟩
    have vF' := hF'
    simp only [flags, flk, bi_not] at vF'
    exact Flags_1 i o c which i' o' c' F F' r aa tc rd ra w hm eI eO eC eW (by omega) (by omega) (by omega) bF hF hF'
      (by rw [show (4 : Int) = ((4 : Nat) : Int) from rfl, xor_at 4 (by omega) xor4 (F / 256) (by omega) (by omega)]; split <;> omega)
      (by rw [xor0 _ (by omega) (by omega)]; omega)
  · obtain ⟨F', hF'⟩ : ∃ F', flags o' c' r aa (!tc) rd ra = F' := ⟨_, rfl⟩
    have vF' := hF'
    simp only [flags, flk, bi_not] at vF'
    exact Flags_2 i o c which i' o' c' F F' r aa tc rd ra w hm eI eO eC eW (by omega) (by omega) (by omega) bF hF hF'
      (by rw [show (2 : Int) = ((2 : Nat) : Int) from rfl, xor_at 2 (by omega) xor2 (F / 256) (by omega) (by omega)]; split <;> omega)
      (by rw [xor0 _ (by omega) (by omega)]; omega)
  · obtain ⟨F', hF'⟩ : ∃ F', flags o' c' r aa tc (!rd) ra = F' := ⟨_, rfl⟩
    have vF' := hF'
    simp only [flags, flk, bi_not] at vF'
    exact Flags_3 i o c which i' o' c' F F' r aa tc rd ra w hm eI eO eC eW (by omega) (by omega) (by omega) bF hF hF'
      (by rw [show (1 : Int) = ((1 : Nat) : Int) from rfl, xor_at 1 (by omega) xor1 (F / 256) (by omega) (by omega)]; split <;> omega)
      (by rw [xor0 _ (by omega) (by omega)]; omega)
  · obtain ⟨F', hF'⟩ : ∃ F', flags o' c' r aa tc rd (!ra) = F' := ⟨_, rfl⟩
    have vF' := hF'
    simp only [flags, flk, bi_not] at vF'
    exact Flags_4 i o c which i' o' c' F F' r aa tc rd ra w hm eI eO eC eW (by omega) (by omega) (by omega) bF hF hF'
      (by rw [xor0 _ (by omega) (by omega)]; omega)
      (by rw [show (128 : Int) = ((128 : Nat) : Int) from rfl, xor_at 128 (by omega) xor128 (F % 256) (by omega) (by omega)]; split <;> omega)

end Go.Proofs.YtigpkcpdccgnfabDoor
