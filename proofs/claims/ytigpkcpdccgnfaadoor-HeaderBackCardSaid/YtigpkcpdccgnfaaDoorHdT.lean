/-
  The document's own answer for a header's numbers, by its contract.
-/
import Derived.Test.YtigpkcpdccgnfaaDoorHdJ
import Derived.StillTailTactics
import Derived.Deep.RegionHeld3
import Derived.Deep.DeepCutAuto
import Derived.Deep.CutBlock
namespace Go.Proofs.YtigpkcpdccgnfaaDoor
open Go.RowKit

theorem results_ref {a b c : Value} {tmps : Array Value} {W : World} {g : Nat} {cs ds : Array Value} (h2 : tmps.getD 2 undef = .pointer (some ⟨g, 0, none⟩)) (h3 : tmps.getD 3 undef = .pointer (some ⟨g + 1, 0, none⟩)) (h4 : tmps.getD 4 undef = c)
    (r2 : W.heap[g]? = some (.cells cs 23 (0, 0))) (r3 : W.heap[g + 1]? = some (.cells ds 24 (0, 0))) (hs : cs.size = 8) (hd : ds.size = 4) (ha : a = .agg cs) (hb : b = .agg ds) :
    (results Tryd.f13 tmps).run Tryd.prog W = .ok (.tuple #[a, b, c]) W := by
  have q0 : (loadVar 23 ⟨g, 0, none⟩).run Tryd.prog W = .ok (.agg cs) W := run_loadVar_row W g 23 23 cs (0, 0) _ r2 Tryd.underlying23 rfl (by rw [hs]; exact size_hd)
  have q1 : (loadVar 24 ⟨g + 1, 0, none⟩).run Tryd.prog W = .ok (.agg ds) W := run_loadVar_row W (g + 1) 24 24 ds (0, 0) _ r3 Tryd.underlying24 rfl (by rw [hd]; exact size_ct)
  subst ha hb h4
  have h2' : tmps[2]?.getD undef = .pointer (some ⟨g, 0, none⟩) := by simpa using h2
  have h3' : tmps[3]?.getD undef = .pointer (some ⟨g + 1, 0, none⟩) := by simpa using h3
  simp [results, Tryd.results13, asAddr, h2', h3', q0, q1]

set_option maxHeartbeats 1000000 in
set_option maxRecDepth 100000 in
theorem refDecode_short (a : Option Addr) (len cap : Nat) (w : World) (h : (len : Int) < 12) :
    Calls Tryd.prog 13 #[.slice a len cap] w fun e w' => e = .returned (.tuple #[zeroH, zeroC, .int .i64 20]) ∧ Below w.heap.size w w' := by
  go_enter Tryd.func13, Tryd.ntmps13
  go_wp2
  go_returns
  exact ⟨rfl, by (repeat first | (with_reducible exact Below.refl _ _) | (with_reducible assumption) | (with_reducible refine below_drewN ?_ _) | (with_reducible refine Below.drew ?_) | (with_reducible refine Below.alloc ?_ (by go_size) _) | (with_reducible refine Below.setCell ?_ (by go_size) _))⟩

/-- The six numbers of a header's bytes, behind k rounds. -/
def numAt (i F n0 n1 n2 n3 : Int) : Nat → Array Value
  | 0 => #[.int .i64 0, .int .i64 0, .int .i64 0, .int .i64 0, .int .i64 0, .int .i64 0]
  | 1 => #[.int .i64 i, .int .i64 0, .int .i64 0, .int .i64 0, .int .i64 0, .int .i64 0]
  | 2 => #[.int .i64 i, .int .i64 F, .int .i64 0, .int .i64 0, .int .i64 0, .int .i64 0]
  | 3 => #[.int .i64 i, .int .i64 F, .int .i64 n0, .int .i64 0, .int .i64 0, .int .i64 0]
  | 4 => #[.int .i64 i, .int .i64 F, .int .i64 n0, .int .i64 n1, .int .i64 0, .int .i64 0]
  | 5 => #[.int .i64 i, .int .i64 F, .int .i64 n0, .int .i64 n1, .int .i64 n2, .int .i64 0]
  | _ => #[.int .i64 i, .int .i64 F, .int .i64 n0, .int .i64 n1, .int .i64 n2, .int .i64 n3]

/-- What stands in the blocks that the document's Decode makes. -/
structure Ref3 (w wr : World) (cs : Array Value) : Prop where
  below : Below w.heap.size w wr
  size : w.heap.size + 1 + 1 < wr.heap.size
  r2 : wr.heap[w.heap.size]? = some (.cells #[.int .i64 0, .bool false, .int .i64 0, .bool false, .bool false, .bool false, .bool false, .int .i64 0] 23 (0, 0))
  r3 : wr.heap[w.heap.size + 1]? = some (.cells #[.int .i64 0, .int .i64 0, .int .i64 0, .int .i64 0] 24 (0, 0))
  r5 : wr.heap[w.heap.size + 1 + 1]? = some (.cells cs 44 (0, 0))
theorem Ref3.step {w wr : World} {cs : Array Value} (h : Ref3 w wr cs) (i : Nat) (v : Value) : Ref3 w ((wr.setCell ⟨w.heap.size + 1 + 1, i, none⟩ v).drew) (cs.setIfInBounds i v) :=
  ⟨(h.below.setCell (by simp; omega) _).drew, by simpa using h.size, row_drew (row_other _ h.r2 (by omega)), row_drew (row_other _ h.r3 (by omega)), row_drew (heap_setCell_same _ _ _ _ _ _ h.r5)⟩
theorem Ref3.c5 {w wr : World} {i F n0 n1 n2 n3 : Int} {k : Nat} (h : Ref3 w wr (numAt i F n0 n1 n2 n3 k)) (j : Nat) (hj : j < 6) : ∃ v, wr.cell? ⟨w.heap.size + 1 + 1, j, none⟩ = some v ∧ wr.frozen? ⟨w.heap.size + 1 + 1, j, none⟩ = false := by
  have hs : (numAt i F n0 n1 n2 n3 k).size = 6 := by unfold numAt; split <;> rfl
  exact ⟨(numAt i F n0 n1 n2 n3 k)[j], by rw [cell_of_row _ _ _ _ _ _ h.r5]; simp [hs, hj], frozen_of_row _ _ _ _ _ h.r5⟩

/-- The numbers of the six words. -/
structure Words (z : Nat → Int) (i F n0 n1 n2 n3 : Int) : Prop where
  w0 : z 0 * 256 + z 1 = i
  w1 : z 2 * 256 + z 3 = F
  w2 : z 4 * 256 + z 5 = n0
  w3 : z 6 * 256 + z 7 = n1
  w4 : z 8 * 256 + z 9 = n2
  w5 : z 10 * 256 + z 11 = n3

set_option maxHeartbeats 2000000 in
set_option maxRecDepth 100000 in
theorem refDecode_bits (bk off len cap : Nat) (z : Nat → Int) (i F n0 n1 n2 n3 : Int) (w : World) (h : 12 ≤ (len : Int)) (hl : len ≤ 9223372036854775807) (ht : Twelve w bk off z) (hw : Words z i F n0 n1 n2 n3) (hz : (bits .and .i64 (F / 16) 7 != 0) = true) (bF : 0 ≤ F ∧ F ≤ 65535) :
    Calls Tryd.prog 13 #[.slice (some ⟨bk, off, none⟩) len cap] w fun e w' => e = .returned (.tuple #[zeroH, zeroC, .int .i64 21]) ∧ Below w.heap.size w w' := by
  have hb := ht.lt
  have b0 := ht.bd
  go_enter Tryd.func13, Tryd.ntmps13
  go_upto_block 0 with fail
  go_cut [] (fun wx => Ref3 w wx (numAt i F n0 n1 n2 n3 6))
  case first =>
    go_wp2_with fail
    go_loopw [14] (fun v wr => ∃ k : Nat, k ≤ 6 ∧ v = .int .i64 k ∧ Ref3 w wr (numAt i F n0 n1 n2 n3 k)) (fun v _ => 6 - (intOf v).toNat)
    case atStart => exact ⟨0, by omega, rfl, by (repeat first | (with_reducible exact Below.refl _ _) | (with_reducible assumption) | (with_reducible refine below_drewN ?_ _) | (with_reducible refine Below.drew ?_) | (with_reducible refine Below.alloc ?_ (by go_size) _) | (with_reducible refine Below.setCell ?_ (by go_size) _)), by simp, (rows3 w _ _ _ 0).1, (rows3 w _ _ _ 0).2.1, (rows3 w _ _ _ 0).2.2⟩
    case round =>
      obtain ⟨k, hk, hv, hD⟩ := hrel
      have hB := hD.below
      have hbr : bk < wr.heap.size := by have := hB.size; omega
      have sZ := hD.size
      have nq : bk ≠ w.heap.size + 1 + 1 := by omega
      have hk5 : k = 0 ∨ k = 1 ∨ k = 2 ∨ k = 3 ∨ k = 4 ∨ k = 5 ∨ k = 6 := by omega
      rcases hk5 with rfl | rfl | rfl | rfl | rfl | rfl | rfl
      · obtain rfl : u14 = .int .i64 0 := hv
        obtain ⟨v0, e0, g0⟩ := hD.c5 0 (by omega)
        have ya : wr.cell? ⟨bk, off, none⟩ = some (.int .u8 (z 0)) := (ht.below hB).at' 0 (by omega)
        have yb : wr.cell? ⟨bk, off + 1, none⟩ = some (.int .u8 (z 1)) := (ht.below hB).at' 1 (by omega)
        have ba := b0 0
        have bb := b0 1
        have p0 : IntKind.i64.wrap 0 = 0 := by decide
        have q0 : 0 ≤ IntKind.i64.wrap 0 ∧ IntKind.i64.wrap 0 < (len : Int) := by rw [p0]; omega
        have q1 : (IntKind.i64.wrap 0).toNat = 0 := by rw [p0]; rfl
        have q2 : 0 ≤ IntKind.i64.wrap (IntKind.i64.wrap 0 + 1) ∧ IntKind.i64.wrap (IntKind.i64.wrap 0 + 1) < (len : Int) := by rw [p0, show IntKind.i64.wrap (0 + 1) = 1 from by decide]; omega
        have q3 : (IntKind.i64.wrap (IntKind.i64.wrap 0 + 1)).toNat = 1 := by rw [p0]; decide
        clear p0
        have p1 : IntKind.i64.wrap 1 = 1 := by decide
        have p4 : IntKind.i64.wrap (z 0) = z 0 := IntWalk.i64_in _ ⟨by omega, by omega⟩
        have p5 : IntKind.i64.wrap (z 1) = z 1 := IntWalk.i64_in _ ⟨by omega, by omega⟩
        have p2 : IntKind.i64.wrap (z 0 * 256) = z 0 * 256 := IntWalk.i64_in _ ⟨by omega, by omega⟩
        have p3 : IntKind.i64.wrap i = i := IntWalk.i64_in _ (by have := hw.w0; constructor <;> omega)
        have la' : (0 : Int) < (len : Int) := by omega
        have lb' : (1 : Int) < (len : Int) := by omega
        have ew := hw.w0
        go_wp2_with fail
        go_still_tail 17, (by kernel_rfl)
        change wpList _ _ _ _ _ wr.drew
        go_wp2_with fail
        have hS := hD.step 0 (.int .i64 i)
        go_roundw
        case rel => first | exact ⟨1, by omega, rfl, hS⟩ | ((repeat apply Exists.intro); exact ⟨⟨1, by omega, rfl, hS⟩, rfl⟩)
        case measure => simp [intOf]
      · obtain rfl : u14 = .int .i64 1 := hv
        obtain ⟨v0, e0, g0⟩ := hD.c5 1 (by omega)
        have ya : wr.cell? ⟨bk, off + 2, none⟩ = some (.int .u8 (z 2)) := (ht.below hB).at' 2 (by omega)
        have yb : wr.cell? ⟨bk, off + 3, none⟩ = some (.int .u8 (z 3)) := (ht.below hB).at' 3 (by omega)
        have ba := b0 2
        have bb := b0 3
        have p0 : IntKind.i64.wrap 2 = 2 := by decide
        have p1 : IntKind.i64.wrap 3 = 3 := by decide
        have p4 : IntKind.i64.wrap (z 2) = z 2 := IntWalk.i64_in _ ⟨by omega, by omega⟩
        have p5 : IntKind.i64.wrap (z 3) = z 3 := IntWalk.i64_in _ ⟨by omega, by omega⟩
        have p2 : IntKind.i64.wrap (z 2 * 256) = z 2 * 256 := IntWalk.i64_in _ ⟨by omega, by omega⟩
        have p3 : IntKind.i64.wrap F = F := IntWalk.i64_in _ (by have := hw.w1; constructor <;> omega)
        have la' : (2 : Int) < (len : Int) := by omega
        have lb' : (3 : Int) < (len : Int) := by omega
        have ew := hw.w1
        go_wp2_with fail
        go_still_tail 17, (by kernel_rfl)
        change wpList _ _ _ _ _ wr.drew
        go_wp2_with fail
        have hS := hD.step 1 (.int .i64 F)
        go_roundw
        case rel => first | exact ⟨2, by omega, rfl, hS⟩ | ((repeat apply Exists.intro); exact ⟨⟨2, by omega, rfl, hS⟩, rfl⟩)
        case measure => simp [intOf]
      · obtain rfl : u14 = .int .i64 2 := hv
        obtain ⟨v0, e0, g0⟩ := hD.c5 2 (by omega)
        have ya : wr.cell? ⟨bk, off + 4, none⟩ = some (.int .u8 (z 4)) := (ht.below hB).at' 4 (by omega)
        have yb : wr.cell? ⟨bk, off + 5, none⟩ = some (.int .u8 (z 5)) := (ht.below hB).at' 5 (by omega)
        have ba := b0 4
        have bb := b0 5
        have p0 : IntKind.i64.wrap 4 = 4 := by decide
        have p1 : IntKind.i64.wrap 5 = 5 := by decide
        have p4 : IntKind.i64.wrap (z 4) = z 4 := IntWalk.i64_in _ ⟨by omega, by omega⟩
        have p5 : IntKind.i64.wrap (z 5) = z 5 := IntWalk.i64_in _ ⟨by omega, by omega⟩
        have p2 : IntKind.i64.wrap (z 4 * 256) = z 4 * 256 := IntWalk.i64_in _ ⟨by omega, by omega⟩
        have p3 : IntKind.i64.wrap n0 = n0 := IntWalk.i64_in _ (by have := hw.w2; constructor <;> omega)
        have la' : (4 : Int) < (len : Int) := by omega
        have lb' : (5 : Int) < (len : Int) := by omega
        have ew := hw.w2
        go_wp2_with fail
        go_still_tail 17, (by kernel_rfl)
        change wpList _ _ _ _ _ wr.drew
        go_wp2_with fail
        have hS := hD.step 2 (.int .i64 n0)
        go_roundw
        case rel => first | exact ⟨3, by omega, rfl, hS⟩ | ((repeat apply Exists.intro); exact ⟨⟨3, by omega, rfl, hS⟩, rfl⟩)
        case measure => simp [intOf]
      · obtain rfl : u14 = .int .i64 3 := hv
        obtain ⟨v0, e0, g0⟩ := hD.c5 3 (by omega)
        have ya : wr.cell? ⟨bk, off + 6, none⟩ = some (.int .u8 (z 6)) := (ht.below hB).at' 6 (by omega)
        have yb : wr.cell? ⟨bk, off + 7, none⟩ = some (.int .u8 (z 7)) := (ht.below hB).at' 7 (by omega)
        have ba := b0 6
        have bb := b0 7
        have p0 : IntKind.i64.wrap 6 = 6 := by decide
        have p1 : IntKind.i64.wrap 7 = 7 := by decide
        have p4 : IntKind.i64.wrap (z 6) = z 6 := IntWalk.i64_in _ ⟨by omega, by omega⟩
        have p5 : IntKind.i64.wrap (z 7) = z 7 := IntWalk.i64_in _ ⟨by omega, by omega⟩
        have p2 : IntKind.i64.wrap (z 6 * 256) = z 6 * 256 := IntWalk.i64_in _ ⟨by omega, by omega⟩
        have p3 : IntKind.i64.wrap n1 = n1 := IntWalk.i64_in _ (by have := hw.w3; constructor <;> omega)
        have la' : (6 : Int) < (len : Int) := by omega
        have lb' : (7 : Int) < (len : Int) := by omega
        have ew := hw.w3
        go_wp2_with fail
        go_still_tail 17, (by kernel_rfl)
        change wpList _ _ _ _ _ wr.drew
        go_wp2_with fail
        have hS := hD.step 3 (.int .i64 n1)
        go_roundw
        case rel => first | exact ⟨4, by omega, rfl, hS⟩ | ((repeat apply Exists.intro); exact ⟨⟨4, by omega, rfl, hS⟩, rfl⟩)
        case measure => simp [intOf]
      · obtain rfl : u14 = .int .i64 4 := hv
        obtain ⟨v0, e0, g0⟩ := hD.c5 4 (by omega)
        have ya : wr.cell? ⟨bk, off + 8, none⟩ = some (.int .u8 (z 8)) := (ht.below hB).at' 8 (by omega)
        have yb : wr.cell? ⟨bk, off + 9, none⟩ = some (.int .u8 (z 9)) := (ht.below hB).at' 9 (by omega)
        have ba := b0 8
        have bb := b0 9
        have p0 : IntKind.i64.wrap 8 = 8 := by decide
        have p1 : IntKind.i64.wrap 9 = 9 := by decide
        have p4 : IntKind.i64.wrap (z 8) = z 8 := IntWalk.i64_in _ ⟨by omega, by omega⟩
        have p5 : IntKind.i64.wrap (z 9) = z 9 := IntWalk.i64_in _ ⟨by omega, by omega⟩
        have p2 : IntKind.i64.wrap (z 8 * 256) = z 8 * 256 := IntWalk.i64_in _ ⟨by omega, by omega⟩
        have p3 : IntKind.i64.wrap n2 = n2 := IntWalk.i64_in _ (by have := hw.w4; constructor <;> omega)
        have la' : (8 : Int) < (len : Int) := by omega
        have lb' : (9 : Int) < (len : Int) := by omega
        have ew := hw.w4
        go_wp2_with fail
        go_still_tail 17, (by kernel_rfl)
        change wpList _ _ _ _ _ wr.drew
        go_wp2_with fail
        have hS := hD.step 4 (.int .i64 n2)
        go_roundw
        case rel => first | exact ⟨5, by omega, rfl, hS⟩ | ((repeat apply Exists.intro); exact ⟨⟨5, by omega, rfl, hS⟩, rfl⟩)
        case measure => simp [intOf]
      · obtain rfl : u14 = .int .i64 5 := hv
        obtain ⟨v0, e0, g0⟩ := hD.c5 5 (by omega)
        have ya : wr.cell? ⟨bk, off + 10, none⟩ = some (.int .u8 (z 10)) := (ht.below hB).at' 10 (by omega)
        have yb : wr.cell? ⟨bk, off + 11, none⟩ = some (.int .u8 (z 11)) := (ht.below hB).at' 11 (by omega)
        have ba := b0 10
        have bb := b0 11
        have p0 : IntKind.i64.wrap 10 = 10 := by decide
        have p1 : IntKind.i64.wrap 11 = 11 := by decide
        have p4 : IntKind.i64.wrap (z 10) = z 10 := IntWalk.i64_in _ ⟨by omega, by omega⟩
        have p5 : IntKind.i64.wrap (z 11) = z 11 := IntWalk.i64_in _ ⟨by omega, by omega⟩
        have p2 : IntKind.i64.wrap (z 10 * 256) = z 10 * 256 := IntWalk.i64_in _ ⟨by omega, by omega⟩
        have p3 : IntKind.i64.wrap n3 = n3 := IntWalk.i64_in _ (by have := hw.w5; constructor <;> omega)
        have la' : (10 : Int) < (len : Int) := by omega
        have lb' : (11 : Int) < (len : Int) := by omega
        have ew := hw.w5
        go_wp2_with fail
        go_still_tail 17, (by kernel_rfl)
        change wpList _ _ _ _ _ wr.drew
        go_wp2_with fail
        have hS := hD.step 5 (.int .i64 n3)
        go_roundw
        case rel => first | exact ⟨6, by omega, rfl, hS⟩ | ((repeat apply Exists.intro); exact ⟨⟨6, by omega, rfl, hS⟩, rfl⟩)
        case measure => simp [intOf]
      · obtain rfl : u14 = .int .i64 6 := hv
        go_wp2_with fail
        go_meet
        exact hD
  case rest =>
    have hB := hcut.below
    have sZ := hcut.size
    have R2 := Lib.hid hcut.r2
    have R3 := Lib.hid hcut.r3
    have c2 := cells8 hcut.r2
    have c3 := cells4 hcut.r3
    have c5 := cells6 hcut.r5
    clear hcut ht
    go_wp2_with fail
    generalize hW : World.setCell _ ⟨w.heap.size + 1, 3, none⟩ _ = W'
    have hB' : Below w.heap.size w W' := by rw [← hW]; (repeat first | (with_reducible exact Below.refl _ _) | (with_reducible assumption) | (with_reducible refine below_drewN ?_ _) | (with_reducible refine Below.drew ?_) | (with_reducible refine Below.alloc ?_ (by go_size) _) | (with_reducible refine Below.setCell ?_ (by go_size) _))
    have Q2 : W'.heap[w.heap.size]? = some (.cells #[.int .i64 0, .bool false, .int .i64 0, .bool false, .bool false, .bool false, .bool false, .int .i64 0] 23 (0, 0)) := by rw [← hW]; exact (stored R2.out R3.out).1
    have Q3 : W'.heap[w.heap.size + 1]? = some (.cells #[.int .i64 0, .int .i64 0, .int .i64 0, .int .i64 0] 24 (0, 0)) := by rw [← hW]; exact (stored R2.out R3.out).2
    clear hW R2 R3 c2 c3 c5 hB
    refine bodyPost_ret (v := .tuple #[zeroH, zeroC, .int .i64 21]) ?_ rfl ⟨rfl, hB'⟩
    exact results_ref (g := w.heap.size) rfl rfl rfl Q2 Q3 rfl rfl rfl rfl

end Go.Proofs.YtigpkcpdccgnfaaDoor
