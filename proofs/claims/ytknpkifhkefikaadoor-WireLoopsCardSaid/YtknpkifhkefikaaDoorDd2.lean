/-
  The document's own Decode of bytes that are a header.
  The document's reader: one question, no record.
  The document's Decode of one question.
  WireLoops' walk.
-/
import Derived.Test.YtknpkifhkefikaaDoorDc4
import Derived.Test.YtknpkifhkefikaaDoorWf
import Derived.StillTailTactics
import Derived.Deep.RegionHeld3
import Derived.Deep.DeepCutAuto
import Derived.Deep.CutBlock
import Derived.Test.YtknpkifhkefikaaDoorDc5
import Derived.Test.YtknpkifhkefikaaDoorDcM
import Derived.Test.YtknpkifhkefikaaDoorDd1
import Derived.Test.YtknpkifhkefikaaDoorWl
namespace Go.Proofs.YtknpkifhkefikaaDoor
open Go.RowKit
set_option linter.unusedVariables false
set_option maxRecDepth 100000

theorem Twelve.below {w W : World} {bk off : Nat} {z : Nat → Int} (h : Twelve w bk off z) (hB : Below w.heap.size w W) : Twelve W bk off z :=
  ⟨fun i hi => (hB.cell (p := ⟨bk, off + i, none⟩) h.lt).trans (h.at' i hi), h.bd, Nat.lt_of_lt_of_le h.lt hB.size⟩
theorem results_ref {a b c : Value} {tmps : Array Value} {W : World} {g : Nat} {cs ds : Array Value} (h2 : tmps.getD 2 undef = .pointer (some ⟨g, 0, none⟩)) (h3 : tmps.getD 3 undef = .pointer (some ⟨g + 1, 0, none⟩)) (h4 : tmps.getD 4 undef = c)
    (r2 : W.heap[g]? = some (.cells cs 23 (0, 0))) (r3 : W.heap[g + 1]? = some (.cells ds 63 (0, 0))) (hs : cs.size = 8) (hd : ds.size = 4) (ha : a = .agg cs) (hb : b = .agg ds) :
    (results Tryd.f52 tmps).run Tryd.prog W = .ok (.tuple #[a, b, c]) W := by
  have q0 : (loadVar 23 ⟨g, 0, none⟩).run Tryd.prog W = .ok (.agg cs) W := run_loadVar_row W g 23 23 cs (0, 0) _ r2 Tryd.underlying23 rfl (by rw [hs]; exact size_hd)
  have q1 : (loadVar 63 ⟨g + 1, 0, none⟩).run Tryd.prog W = .ok (.agg ds) W := run_loadVar_row W (g + 1) 63 63 ds (0, 0) _ r3 Tryd.underlying63 rfl (by rw [hd]; exact size_ct)
  subst ha hb h4
  have h2' : tmps[2]?.getD undef = .pointer (some ⟨g, 0, none⟩) := by simpa using h2
  have h3' : tmps[3]?.getD undef = .pointer (some ⟨g + 1, 0, none⟩) := by simpa using h3
  simp [results, Tryd.results52, asAddr, h2', h3', q0, q1]

set_option maxHeartbeats 1000000 in
set_option maxRecDepth 100000 in
theorem refDecode_short (a : Option Addr) (len cap : Nat) (w : World) (h : (len : Int) < 12) :
    Calls Tryd.prog 52 #[.slice a len cap] w fun e w' => e = .returned (.tuple #[zeroH, zeroC, .int .i64 20]) ∧ Below w.heap.size w w' := by
  go_enter Tryd.func52, Tryd.ntmps52
  go_wp2
  go_returns
  exact ⟨rfl, by (repeat first | (with_reducible exact Below.refl _ _) | (with_reducible assumption) | (with_reducible refine below_drewN ?_ _) | (with_reducible refine Below.drew ?_) | (with_reducible refine Below.alloc ?_ (by go_size) _) | (with_reducible refine Below.setCell ?_ (by go_size) _))⟩

/-- The six numbers of a header's bytes, behind k rounds. -/
def numAt (i F n0 n1 n2 n3 : Int) : Nat → Array Value
  | 0 => #[.int .i64 0, .int .i64 0, .int .i64 0, .int .i64 0, .int .i64 0, .int .i64 0]
  | 1 => #[.int .i64 i, .int .i64 0, .int .i64 0, .int .i64 0, .int .i64 0, .int .i64 0]
  | 2 => #[.int .i64 i, .int .i64 F, .int .i64 0, .int .i64 0, .int .i64 0, .int .i64 0]
  | 3 => #[.int .i64 i, .int .i64 F, .int .i64 n0, .int .i64 0, .int .i64 0, .int .i64 0]
  | 4 => #[.int .i64 i, .int .i64 F, .int .i64 n0, .int .i64 n1, .int .i64 0, .int .i64 0]
  | 5 => #[.int .i64 i, .int .i64 F, .int .i64 n0, .int .i64 n1, .int .i64 n2, .int .i64 0]
  | _ => #[.int .i64 i, .int .i64 F, .int .i64 n0, .int .i64 n1, .int .i64 n2, .int .i64 n3]

/-- What stands in the blocks that the document's Decode makes. -/
structure Ref3 (w wr : World) (cs : Array Value) : Prop where
  below : Below w.heap.size w wr
  size : w.heap.size + 1 + 1 < wr.heap.size
  r2 : wr.heap[w.heap.size]? = some (.cells #[.int .i64 0, .bool false, .int .i64 0, .bool false, .bool false, .bool false, .bool false, .int .i64 0] 23 (0, 0))
  r3 : wr.heap[w.heap.size + 1]? = some (.cells #[.int .i64 0, .int .i64 0, .int .i64 0, .int .i64 0] 63 (0, 0))
  r5 : wr.heap[w.heap.size + 1 + 1]? = some (.cells cs 157 (0, 0))
theorem Ref3.step {w wr : World} {cs : Array Value} (h : Ref3 w wr cs) (i : Nat) (v : Value) : Ref3 w ((wr.setCell ⟨w.heap.size + 1 + 1, i, none⟩ v).drew) (cs.setIfInBounds i v) :=
  ⟨(h.below.setCell (by simp; omega) _).drew, by simpa using h.size, hrow_drew (hrow_other _ h.r2 (by omega)), hrow_drew (hrow_other _ h.r3 (by omega)), hrow_drew (heap_setCell_same _ _ _ _ _ _ h.r5)⟩
theorem Ref3.c5 {w wr : World} {i F n0 n1 n2 n3 : Int} {k : Nat} (h : Ref3 w wr (numAt i F n0 n1 n2 n3 k)) (j : Nat) (hj : j < 6) : ∃ v, wr.cell? ⟨w.heap.size + 1 + 1, j, none⟩ = some v ∧ wr.frozen? ⟨w.heap.size + 1 + 1, j, none⟩ = false := by
  have hs : (numAt i F n0 n1 n2 n3 k).size = 6 := by unfold numAt; split <;> rfl
  exact ⟨(numAt i F n0 n1 n2 n3 k)[j], by rw [cell_of_row _ _ _ _ _ _ h.r5]; simp [hs, hj], frozen_of_row _ _ _ _ _ h.r5⟩

/-- The numbers of the six words. -/
structure Words (z : Nat → Int) (i F n0 n1 n2 n3 : Int) : Prop where
  w0 : z 0 * 256 + z 1 = i
  w1 : z 2 * 256 + z 3 = F
  w2 : z 4 * 256 + z 5 = n0
  w3 : z 6 * 256 + z 7 = n1
  w4 : z 8 * 256 + z 9 = n2
  w5 : z 10 * 256 + z 11 = n3

/-- How the document's Decode takes the flags apart. -/
structure Bits (F : Int) (r : Bool) (o : Int) (aa tc rd ra : Bool) (c : Int) : Prop where
  er : (bits .and .i64 (F / 32768) 1 == 1) = r
  eo : bits .and .i64 (F / 2048) 15 = o
  eaa : (bits .and .i64 (F / 1024) 1 == 1) = aa
  etc : (bits .and .i64 (F / 512) 1 == 1) = tc
  erd : (bits .and .i64 (F / 256) 1 == 1) = rd
  era : (bits .and .i64 (F / 128) 1 == 1) = ra
  ec : bits .and .i64 F 15 = c

set_option maxHeartbeats 2000000 in
set_option maxRecDepth 100000 in
theorem refDecode_ok (bk off len cap : Nat) (z : Nat → Int) (i F n0 n1 n2 n3 : Int) (r : Bool) (o : Int) (aa tc rd ra : Bool) (c : Int) (w : World) (h : 12 ≤ (len : Int)) (hl : len ≤ 9223372036854775807) (ht : Twelve w bk off z) (hw : Words z i F n0 n1 n2 n3)
    (hz : (bits .and .i64 (F / 16) 7 != 0) = false) (bF : 0 ≤ F ∧ F ≤ 65535) (hb' : Bits F r o aa tc rd ra c) :
    Calls Tryd.prog 52 #[.slice (some ⟨bk, off, none⟩) len cap] w fun e w' => e = .returned (.tuple #[hdV i r o aa tc rd ra c, ctV n0 n1 n2 n3, .int .i64 0]) ∧ Below w.heap.size w w' := by
  have hb := ht.lt
  have b0 := ht.bd
  go_enter Tryd.func52, Tryd.ntmps52
  go_upto_block 0 with fail
  go_cut [] (fun wx => Ref3 w wx (numAt i F n0 n1 n2 n3 6))
  case first =>
    go_wp2_with fail
    go_loopw [14] (fun v wr => ∃ k : Nat, k ≤ 6 ∧ v = .int .i64 k ∧ Ref3 w wr (numAt i F n0 n1 n2 n3 k)) (fun v _ => 6 - (intOf v).toNat)
    case atStart => exact ⟨0, by omega, rfl, by (repeat first | (with_reducible exact Below.refl _ _) | (with_reducible assumption) | (with_reducible refine below_drewN ?_ _) | (with_reducible refine Below.drew ?_) | (with_reducible refine Below.alloc ?_ (by go_size) _) | (with_reducible refine Below.setCell ?_ (by go_size) _)), by simp, (rows3 w _ _ _ 0).1, (rows3 w _ _ _ 0).2.1, (rows3 w _ _ _ 0).2.2⟩
    case round =>
      obtain ⟨k, hk, hv, hD⟩ := hrel
      have hB := hD.below
      have hbr : bk < wr.heap.size := by have := hB.size; omega
      have sZ := hD.size
      have nq : bk ≠ w.heap.size + 1 + 1 := by omega
      have hk5 : k = 0 ∨ k = 1 ∨ k = 2 ∨ k = 3 ∨ k = 4 ∨ k = 5 ∨ k = 6 := by omega
      rcases hk5 with rfl | rfl | rfl | rfl | rfl | rfl | rfl
      · obtain rfl : u14 = .int .i64 0 := hv
        obtain ⟨v0, e0, g0⟩ := hD.c5 0 (by omega)
        have ya : wr.cell? ⟨bk, off, none⟩ = some (.int .u8 (z 0)) := (ht.below hB).at' 0 (by omega)
        have yb : wr.cell? ⟨bk, off + 1, none⟩ = some (.int .u8 (z 1)) := (ht.below hB).at' 1 (by omega)
        have ba := b0 0
        have bb := b0 1
        have p0 : IntKind.i64.wrap 0 = 0 := by decide
        have q0 : 0 ≤ IntKind.i64.wrap 0 ∧ IntKind.i64.wrap 0 < (len : Int) := by rw [p0]; omega
        have q1 : (IntKind.i64.wrap 0).toNat = 0 := by rw [p0]; rfl
        have q2 : 0 ≤ IntKind.i64.wrap (IntKind.i64.wrap 0 + 1) ∧ IntKind.i64.wrap (IntKind.i64.wrap 0 + 1) < (len : Int) := by rw [p0, show IntKind.i64.wrap (0 + 1) = 1 from by decide]; omega
        have q3 : (IntKind.i64.wrap (IntKind.i64.wrap 0 + 1)).toNat = 1 := by rw [p0]; decide
        clear p0
        have p1 : IntKind.i64.wrap 1 = 1 := by decide
        have p4 : IntKind.i64.wrap (z 0) = z 0 := IntWalk.i64_in _ ⟨by omega, by omega⟩
        have p5 : IntKind.i64.wrap (z 1) = z 1 := IntWalk.i64_in _ ⟨by omega, by omega⟩
        have p2 : IntKind.i64.wrap (z 0 * 256) = z 0 * 256 := IntWalk.i64_in _ ⟨by omega, by omega⟩
        have p3 : IntKind.i64.wrap i = i := IntWalk.i64_in _ (by have := hw.w0; constructor <;> omega)
        have la' : (0 : Int) < (len : Int) := by omega
        have lb' : (1 : Int) < (len : Int) := by omega
        have ew := hw.w0
        go_wp2_with fail
        go_still_tail 17, (by kernel_rfl)
        change wpList _ _ _ _ _ wr.drew
        go_wp2_with fail
        have hS := hD.step 0 (.int .i64 i)
        go_roundw
        case rel => first | exact ⟨1, by omega, rfl, hS⟩ | ((repeat apply Exists.intro); exact ⟨⟨1, by omega, rfl, hS⟩, rfl⟩)
        case measure => simp [intOf]
      · obtain rfl : u14 = .int .i64 1 := hv
        obtain ⟨v0, e0, g0⟩ := hD.c5 1 (by omega)
        have ya : wr.cell? ⟨bk, off + 2, none⟩ = some (.int .u8 (z 2)) := (ht.below hB).at' 2 (by omega)
        have yb : wr.cell? ⟨bk, off + 3, none⟩ = some (.int .u8 (z 3)) := (ht.below hB).at' 3 (by omega)
        have ba := b0 2
        have bb := b0 3
        have p0 : IntKind.i64.wrap 2 = 2 := by decide
        have p1 : IntKind.i64.wrap 3 = 3 := by decide
        have p4 : IntKind.i64.wrap (z 2) = z 2 := IntWalk.i64_in _ ⟨by omega, by omega⟩
        have p5 : IntKind.i64.wrap (z 3) = z 3 := IntWalk.i64_in _ ⟨by omega, by omega⟩
        have p2 : IntKind.i64.wrap (z 2 * 256) = z 2 * 256 := IntWalk.i64_in _ ⟨by omega, by omega⟩
        have p3 : IntKind.i64.wrap F = F := IntWalk.i64_in _ (by have := hw.w1; constructor <;> omega)
        have la' : (2 : Int) < (len : Int) := by omega
        have lb' : (3 : Int) < (len : Int) := by omega
        have ew := hw.w1
        go_wp2_with fail
        go_still_tail 17, (by kernel_rfl)
        change wpList _ _ _ _ _ wr.drew
        go_wp2_with fail
        have hS := hD.step 1 (.int .i64 F)
        go_roundw
        case rel => first | exact ⟨2, by omega, rfl, hS⟩ | ((repeat apply Exists.intro); exact ⟨⟨2, by omega, rfl, hS⟩, rfl⟩)
        case measure => simp [intOf]
      · obtain rfl : u14 = .int .i64 2 := hv
        obtain ⟨v0, e0, g0⟩ := hD.c5 2 (by omega)
        have ya : wr.cell? ⟨bk, off + 4, none⟩ = some (.int .u8 (z 4)) := (ht.below hB).at' 4 (by omega)
        have yb : wr.cell? ⟨bk, off + 5, none⟩ = some (.int .u8 (z 5)) := (ht.below hB).at' 5 (by omega)
        have ba := b0 4
        have bb := b0 5
        have p0 : IntKind.i64.wrap 4 = 4 := by decide
        have p1 : IntKind.i64.wrap 5 = 5 := by decide
        have p4 : IntKind.i64.wrap (z 4) = z 4 := IntWalk.i64_in _ ⟨by omega, by omega⟩
        have p5 : IntKind.i64.wrap (z 5) = z 5 := IntWalk.i64_in _ ⟨by omega, by omega⟩
        have p2 : IntKind.i64.wrap (z 4 * 256) = z 4 * 256 := IntWalk.i64_in _ ⟨by omega, by omega⟩
        have p3 : IntKind.i64.wrap n0 = n0 := IntWalk.i64_in _ (by have := hw.w2; constructor <;> omega)
        have la' : (4 : Int) < (len : Int) := by omega
        have lb' : (5 : Int) < (len : Int) := by omega
        have ew := hw.w2
        go_wp2_with fail
        go_still_tail 17, (by kernel_rfl)
        change wpList _ _ _ _ _ wr.drew
        go_wp2_with fail
        have hS := hD.step 2 (.int .i64 n0)
        go_roundw
        case rel => first | exact ⟨3, by omega, rfl, hS⟩ | ((repeat apply Exists.intro); exact ⟨⟨3, by omega, rfl, hS⟩, rfl⟩)
        case measure => simp [intOf]
      · obtain rfl : u14 = .int .i64 3 := hv
        obtain ⟨v0, e0, g0⟩ := hD.c5 3 (by omega)
        have ya : wr.cell? ⟨bk, off + 6, none⟩ = some (.int .u8 (z 6)) := (ht.below hB).at' 6 (by omega)
        have yb : wr.cell? ⟨bk, off + 7, none⟩ = some (.int .u8 (z 7)) := (ht.below hB).at' 7 (by omega)
        have ba := b0 6
        have bb := b0 7
        have p0 : IntKind.i64.wrap 6 = 6 := by decide
        have p1 : IntKind.i64.wrap 7 = 7 := by decide
        have p4 : IntKind.i64.wrap (z 6) = z 6 := IntWalk.i64_in _ ⟨by omega, by omega⟩
        have p5 : IntKind.i64.wrap (z 7) = z 7 := IntWalk.i64_in _ ⟨by omega, by omega⟩
        have p2 : IntKind.i64.wrap (z 6 * 256) = z 6 * 256 := IntWalk.i64_in _ ⟨by omega, by omega⟩
        have p3 : IntKind.i64.wrap n1 = n1 := IntWalk.i64_in _ (by have := hw.w3; constructor <;> omega)
        have la' : (6 : Int) < (len : Int) := by omega
        have lb' : (7 : Int) < (len : Int) := by omega
        have ew := hw.w3
        go_wp2_with fail
        go_still_tail 17, (by kernel_rfl)
        change wpList _ _ _ _ _ wr.drew
        go_wp2_with fail
        have hS := hD.step 3 (.int .i64 n1)
        go_roundw
        case rel => first | exact ⟨4, by omega, rfl, hS⟩ | ((repeat apply Exists.intro); exact ⟨⟨4, by omega, rfl, hS⟩, rfl⟩)
        case measure => simp [intOf]
      · obtain rfl : u14 = .int .i64 4 := hv
        obtain ⟨v0, e0, g0⟩ := hD.c5 4 (by omega)
        have ya : wr.cell? ⟨bk, off + 8, none⟩ = some (.int .u8 (z 8)) := (ht.below hB).at' 8 (by omega)
        have yb : wr.cell? ⟨bk, off + 9, none⟩ = some (.int .u8 (z 9)) := (ht.below hB).at' 9 (by omega)
        have ba := b0 8
        have bb := b0 9
        have p0 : IntKind.i64.wrap 8 = 8 := by decide
        have p1 : IntKind.i64.wrap 9 = 9 := by decide
        have p4 : IntKind.i64.wrap (z 8) = z 8 := IntWalk.i64_in _ ⟨by omega, by omega⟩
        have p5 : IntKind.i64.wrap (z 9) = z 9 := IntWalk.i64_in _ ⟨by omega, by omega⟩
        have p2 : IntKind.i64.wrap (z 8 * 256) = z 8 * 256 := IntWalk.i64_in _ ⟨by omega, by omega⟩
        have p3 : IntKind.i64.wrap n2 = n2 := IntWalk.i64_in _ (by have := hw.w4; constructor <;> omega)
        have la' : (8 : Int) < (len : Int) := by omega
        have lb' : (9 : Int) < (len : Int) := by omega
        have ew := hw.w4
        go_wp2_with fail
        go_still_tail 17, (by kernel_rfl)
        change wpList _ _ _ _ _ wr.drew
        go_wp2_with fail
        have hS := hD.step 4 (.int .i64 n2)
        go_roundw
        case rel => first | exact ⟨5, by omega, rfl, hS⟩ | ((repeat apply Exists.intro); exact ⟨⟨5, by omega, rfl, hS⟩, rfl⟩)
        case measure => simp [intOf]
      · obtain rfl : u14 = .int .i64 5 := hv
        obtain ⟨v0, e0, g0⟩ := hD.c5 5 (by omega)
        have ya : wr.cell? ⟨bk, off + 10, none⟩ = some (.int .u8 (z 10)) := (ht.below hB).at' 10 (by omega)
        have yb : wr.cell? ⟨bk, off + 11, none⟩ = some (.int .u8 (z 11)) := (ht.below hB).at' 11 (by omega)
        have ba := b0 10
        have bb := b0 11
        have p0 : IntKind.i64.wrap 10 = 10 := by decide
        have p1 : IntKind.i64.wrap 11 = 11 := by decide
        have p4 : IntKind.i64.wrap (z 10) = z 10 := IntWalk.i64_in _ ⟨by omega, by omega⟩
        have p5 : IntKind.i64.wrap (z 11) = z 11 := IntWalk.i64_in _ ⟨by omega, by omega⟩
        have p2 : IntKind.i64.wrap (z 10 * 256) = z 10 * 256 := IntWalk.i64_in _ ⟨by omega, by omega⟩
        have p3 : IntKind.i64.wrap n3 = n3 := IntWalk.i64_in _ (by have := hw.w5; constructor <;> omega)
        have la' : (10 : Int) < (len : Int) := by omega
        have lb' : (11 : Int) < (len : Int) := by omega
        have ew := hw.w5
        go_wp2_with fail
        go_still_tail 17, (by kernel_rfl)
        change wpList _ _ _ _ _ wr.drew
        go_wp2_with fail
        have hS := hD.step 5 (.int .i64 n3)
        go_roundw
        case rel => first | exact ⟨6, by omega, rfl, hS⟩ | ((repeat apply Exists.intro); exact ⟨⟨6, by omega, rfl, hS⟩, rfl⟩)
        case measure => simp [intOf]
      · obtain rfl : u14 = .int .i64 6 := hv
        go_wp2_with fail
        go_meet
        exact hD
  case rest =>
    have hB := hcut.below
    have sZ := hcut.size
    have R2 := Lib.hid hcut.r2
    have R3 := Lib.hid hcut.r3
    have c2 := cells8 hcut.r2
    have c3 := cells4 hcut.r3
    have c5 := cells6 hcut.r5
    have R5 := Lib.hid hcut.r5
    clear hcut ht
    obtain ⟨er, eo, eaa, etc, erd, era, ec⟩ := hb'
    go_upto_region 13 with fail
    generalize hW : World.alloc wc _ = W
    have lW : w.heap.size + 1 + 1 < wc.heap.size := sZ
    have rS : W.heap[wc.heap.size]? = some (.cells #[.int .i64 i, .bool r, .int .i64 o, .bool aa, .bool tc, .bool rd, .bool ra, .int .i64 c] 23 (0, 0)) := by rw [← hW]; exact hrow_new _ rfl
    have s2 : W.heap[w.heap.size]? = some (.cells #[.int .i64 0, .bool false, .int .i64 0, .bool false, .bool false, .bool false, .bool false, .int .i64 0] 23 (0, 0)) := by rw [← hW]; exact hrow_old _ R2.out
    have s3 : W.heap[w.heap.size + 1]? = some (.cells #[.int .i64 0, .int .i64 0, .int .i64 0, .int .i64 0] 63 (0, 0)) := by rw [← hW]; exact hrow_old _ R3.out
    have s5 : W.heap[w.heap.size + 1 + 1]? = some (.cells #[.int .i64 i, .int .i64 F, .int .i64 n0, .int .i64 n1, .int .i64 n2, .int .i64 n3] 157 (0, 0)) := by rw [← hW]; exact hrow_old _ R5.out
    have hBW : Below w.heap.size w W := by rw [← hW]; exact hB.alloc (by omega) _
    have x0 : w.heap.size ≠ wc.heap.size := by omega
    have x1 : w.heap.size + 1 ≠ wc.heap.size := by omega
    have x2 : w.heap.size + 1 + 1 ≠ wc.heap.size := by omega
    clear hW R2 R3 R5 c2 c3 c5 hB er eo eaa etc erd era ec
    have d2 := cells8 s2
    have d3 := cells4 s3
    obtain ⟨k0, k1, k2, k3, k4, k5, _⟩ := cells6 s5
    obtain ⟨g0, g1, g2, g3, g4, g5, g6, g7, _⟩ := cells8 rS
    have R2 := Lib.hid s2
    have R3 := Lib.hid s3
    clear s2 s3 s5 rS
    go_region_held3 (fun w' => w'.cell? ⟨w.heap.size + 1 + 1, 2, none⟩ = some (.int .i64 n0) ∧ w'.cell? ⟨w.heap.size + 1 + 1, 3, none⟩ = some (.int .i64 n1) ∧ w'.cell? ⟨w.heap.size + 1 + 1, 4, none⟩ = some (.int .i64 n2) ∧ w'.cell? ⟨w.heap.size + 1 + 1, 5, none⟩ = some (.int .i64 n3) ∧ w'.cell? ⟨wc.heap.size, 0, none⟩ = some (.int .i64 i) ∧ w'.cell? ⟨wc.heap.size, 1, none⟩ = some (.bool r) ∧ w'.cell? ⟨wc.heap.size, 2, none⟩ = some (.int .i64 o) ∧ w'.cell? ⟨wc.heap.size, 3, none⟩ = some (.bool aa) ∧ w'.cell? ⟨wc.heap.size, 4, none⟩ = some (.bool tc) ∧ w'.cell? ⟨wc.heap.size, 5, none⟩ = some (.bool rd) ∧ w'.cell? ⟨wc.heap.size, 6, none⟩ = some (.bool ra) ∧ w'.cell? ⟨wc.heap.size, 7, none⟩ = some (.int .i64 c))
      (first | ((refine ⟨(World.cell?_of_block (w := W) ?_).trans k2, (World.cell?_of_block (w := W) ?_).trans k3, (World.cell?_of_block (w := W) ?_).trans k4, (World.cell?_of_block (w := W) ?_).trans k5, (World.cell?_of_block (w := W) ?_).trans g0, (World.cell?_of_block (w := W) ?_).trans g1, (World.cell?_of_block (w := W) ?_).trans g2, (World.cell?_of_block (w := W) ?_).trans g3, (World.cell?_of_block (w := W) ?_).trans g4, (World.cell?_of_block (w := W) ?_).trans g5, (World.cell?_of_block (w := W) ?_).trans g6, (World.cell?_of_block (w := W) ?_).trans g7⟩ <;> ((try dsimp only); repeat first | (with_reducible rfl) | (with_reducible refine hrow_drew ?_) | (with_reducible refine hrow_other _ ?_ (by omega)))); done) | go_keep)
      (first | fail)
    all_goals go_wp2
    all_goals (first | generalize hW' : World.drew _ = W' | generalize hW' : World.setCell _ ⟨w.heap.size + 1, 3, none⟩ _ = W')
    all_goals
      have hB' : Below w.heap.size w W' := by rw [← hW']; (repeat first | (with_reducible exact Below.refl _ _) | (with_reducible assumption) | (with_reducible refine below_drewN ?_ _) | (with_reducible refine Below.drew ?_) | (with_reducible refine Below.alloc ?_ (by go_size) _) | (with_reducible refine Below.setCell ?_ (by go_size) _))
      have Q2 : W'.heap[w.heap.size]? = some (.cells #[.int .i64 i, .bool r, .int .i64 o, .bool aa, .bool tc, .bool rd, .bool ra, .int .i64 c] 23 (0, 0)) := by rw [← hW']; first | exact hrow_drew (stored R2.out R3.out).1 | exact (stored (hrow_drew R2.out) (hrow_drew R3.out)).1
      have Q3 : W'.heap[w.heap.size + 1]? = some (.cells #[.int .i64 n0, .int .i64 n1, .int .i64 n2, .int .i64 n3] 63 (0, 0)) := by rw [← hW']; first | exact hrow_drew (stored R2.out R3.out).2 | exact (stored (hrow_drew R2.out) (hrow_drew R3.out)).2
      clear hW' R2 R3 d2 d3 hBW k0 k1 k2 k3 k4 k5 g0 g1 g2 g3 g4 g5 g6 g7
      refine bodyPost_ret (v := .tuple #[.agg #[.int .i64 i, .bool r, .int .i64 o, .bool aa, .bool tc, .bool rd, .bool ra, .int .i64 c], .agg #[.int .i64 n0, .int .i64 n1, .int .i64 n2, .int .i64 n3], .int .i64 0]) ?_ rfl ⟨rfl, hB'⟩
      exact results_ref (g := w.heap.size) rfl rfl rfl Q2 Q3 rfl rfl rfl rfl

end Go.Proofs.YtknpkifhkefikaaDoor
namespace Go.Proofs.YtknpkifhkefikaaDoor
open Go.RowKit
set_option linter.unusedVariables false
set_option maxRecDepth 100000

theorem numR_20 {b : Bs} {p k e : Nat} (h : numR 20 b p k = .no e) : e = 20 := by
  rcases takR_cases 20 b p k with ht | ⟨ht, -, -⟩
  · rw [numR_no ht] at h
    injection h with h
    exact h.symm
  · rw [numR_ok ht] at h
    cases h
/-- What one question's reading comes to. -/
def DqP (w : World) (rb : Nat) (A : Option Addr) (c : Nat) (b : Bs) : Rd Qu → Ending → World → Prop
  | .ok _ z, e, w' => ∃ A5 c5, e = .returned (.tuple #[.slice A5 1 c5, .int .i64 0]) ∧ RfM w' rb A c b z ∧ Mod (fun k => k = rb) w w'
  | .no k, e, w' => e = .returned (.tuple #[.slice none 0 0, .int .i64 k]) ∧ Mod (fun k => k = rb) w w'
theorem DqP.not {w w' : World} {rb : Nat} {A : Option Addr} {c : Nat} {b : Bs} {R : Rd Qu} {e : Ending} {k : Nat} (hR : R = .no k) (hm : Mod (fun k => k = rb) w w') (he : e = .returned (.tuple #[.slice none 0 0, .int .i64 k])) : DqP w rb A c b R e w' := by
  subst hR
  exact ⟨he, hm⟩
theorem DqP.yes {w w' : World} {rb : Nat} {A : Option Addr} {c : Nat} {b : Bs} {R : Rd Qu} {e : Ending} {x : Qu} {z : Nat} {A5 : Option Addr} {c5 : Nat} (hR : R = .ok x z) (h : RfM w' rb A c b z) (hm : Mod (fun k => k = rb) w w') (he : e = .returned (.tuple #[.slice A5 1 c5, .int .i64 0])) : DqP w rb A c b R e w' := by
  subst hR
  exact ⟨A5, c5, he, h, hm⟩
set_option maxHeartbeats 1000000 in
set_option maxRecDepth 100000 in
theorem dqu1_any (w : World) (rb : Nat) (A : Option Addr) (c : Nat) (b : Bs) (p : Nat) (h : RfM w rb A c b p) :
    Calls Tryd.prog 53 #[.pointer (some ⟨rb, 0, none⟩), .int .i64 1] w (DqP w rb A c b (quR b p)) := by
  obtain ⟨i0, hi, hz0, hz1, hz2⟩ := info_parts info_q3
  have NU := Lib.hid (fun wr q (h : RfM wr rb A c b q) => dnum_any wr rb A c b q 2 h (by omega))
  have NM := Lib.hid (fun wr (h : RfM wr rb A c b p) => dname_any wr rb A c b p h)
  have NZ := Lib.hid (nz_nm (sh := 20) (by decide) b p p 0 [])
  obtain ⟨R, hR⟩ : ∃ R, R = quR b p := ⟨_, rfl⟩
  rw [← hR]
  have HH := Lib.hid h
  have HR0 := Lib.hid hR
  clear h hR
  go_enter Tryd.func53, Tryd.ntmps53
  go_wp2_with fail
  go_loopw [6, 14] (fun v6 v14 wr => (v14 = .int .i64 0 ∧ v6 = .slice none 0 0 ∧ Hid (RfM wr rb A c b p) ∧ Hid (Mod (fun k => k = rb) w wr)) ∨ ∃ (A5 : Option Addr) (c5 : Nat), v14 = .int .i64 1 ∧ v6 = .slice A5 1 c5 ∧ Hid (∃ x z, R = .ok x z ∧ RfM wr rb A c b z ∧ Mod (fun k => k = rb) w wr)) (fun _ v14 _ => 1 - (intOf v14).toNat)
  case atStart => exact .inl ⟨rfl, rfl, HH, Lib.hid (Mod.refl _ _)⟩
  case round =>
    rename World => wo
    rcases hrel with ⟨rfl, rfl, HR, HM⟩ | ⟨A5, c5, rfl, rfl, HX⟩
    · obtain ⟨c0, c1, f1⟩ := HR.out.cells
      have N1 := NM.out wo HR.out
      have hE := HR0.out
      unfold quR at hE
      have hnz := NZ.out
      obtain ⟨Q, hQ⟩ : ∃ Q, Q = nmR 20 b p p 0 [] := ⟨_, rfl⟩
      rw [← hQ] at N1 hE hnz
      clear hQ NZ NM
      cases Q with
      | no k =>
        have hk0 : ((k : Int) != 0) = true := by rw [bne_iff_ne]; have := hnz k rfl; omega
        have HE := Lib.hid hE
        have N1 := Lib.hid N1
        clear hnz hE
        go_wp2_with fail
        refine N1.out.mono ?_
        rintro e w1 ⟨rfl, hm1⟩
        have HP := Lib.hid (DqP.not (e := .returned (.tuple #[.slice none 0 0, .int .i64 k])) (rb := rb) (A := A) (c := c) (b := b) HE.out (HM.out.trans hm1 (fun i hi => .inl hi)) rfl)
        clear hm1
        go_wp2_with fail
        go_ret2
        exact HP.out
      | ok x z1 =>
        rw [Rd.then_ok] at hE
        have N1 := Lib.hid N1
        clear hnz
        go_wp2_with fail
        refine N1.out.mono ?_
        rintro e w1 ⟨rfl, hr1, hm1⟩
        have HR1 := Lib.hid hr1
        have HM1 := Lib.hid (HM.out.trans hm1 (fun i hi => .inl hi))
        have N2 := NU.out w1 z1 hr1
        obtain ⟨Q, hQ⟩ : ∃ Q, Q = numR 20 b z1 2 := ⟨_, rfl⟩
        rw [← hQ] at N2 hE
        have N2 := Lib.hid N2
        have HQ := Lib.hid hQ
        clear hr1 hm1 c0 c1 f1 N1 hQ
        cases Q with
        | no k =>
          have HE : Hid (R = .no 20) := Lib.hid (by rw [hE, Rd.then_no, numR_20 HQ.out.symm])
          clear hE
          go_wp2_with fail
          refine N2.out.mono ?_
          rintro e w2 ⟨rfl, hr2, hm2⟩
          have HM2 := Lib.hid (HM1.out.trans hm2 (fun i hi => .inl hi))
          have N3 := NU.out w2 z1 hr2
          rw [← HQ.out] at N3
          have N3 := Lib.hid N3
          clear hr2 hm2
          go_wp2_with fail
          refine N3.out.mono ?_
          rintro e w3 ⟨rfl, hr3, hm3⟩
          have HP := Lib.hid (DqP.not (e := .returned (.tuple #[.slice none 0 0, .int .i64 20])) (rb := rb) (A := A) (c := c) (b := b) HE.out (HM2.out.trans hm3 (fun i hi => .inl hi)) rfl)
          clear hr3 hm3
          go_wp2_with fail
          go_ret2
          exact HP.out
        | ok t z2 =>
          rw [Rd.then_ok] at hE
          go_wp2_with fail
          refine N2.out.mono ?_
          rintro e w2 ⟨rfl, hr2, hm2⟩
          have HM2 := Lib.hid (HM1.out.trans hm2 (fun i hi => .inl hi))
          have N3 := NU.out w2 z2 hr2
          obtain ⟨Q, hQ⟩ : ∃ Q, Q = numR 20 b z2 2 := ⟨_, rfl⟩
          rw [← hQ] at N3 hE
          have N3 := Lib.hid N3
          have HQ2 := Lib.hid hQ
          clear hr2 hm2 hQ
          cases Q with
          | no k =>
            have HE : Hid (R = .no 20) := Lib.hid (by rw [hE, Rd.then_no, numR_20 HQ2.out.symm])
            clear hE
            go_wp2_with fail
            refine N3.out.mono ?_
            rintro e w3 ⟨rfl, hr3, hm3⟩
            have HP := Lib.hid (DqP.not (e := .returned (.tuple #[.slice none 0 0, .int .i64 20])) (rb := rb) (A := A) (c := c) (b := b) HE.out (HM2.out.trans hm3 (fun i hi => .inl hi)) rfl)
            clear hr3 hm3
            go_wp2_with fail
            go_ret2
            exact HP.out
          | ok cc z3 =>
            have HE : Hid (R = .ok ⟨x, t, cc⟩ z3) := Lib.hid hE
            clear hE
            go_wp2_with fail
            refine N3.out.mono ?_
            rintro e w6 ⟨rfl, hr6, hm6⟩
            have b6 : Below w6.heap.size w6 (w6.alloc (.cells #[.string (bs x), .int .i64 t, .int .i64 cc] 44)) := Below.alloc (Below.refl _ _) (Nat.le_refl _) _
            have HRD := Lib.hid (hr6.below b6)
            have HMD := Lib.hid ((HM2.out.trans hm6 (fun i hi => .inl hi)).then b6)
            have HOWN := Lib.hid (World.ownsRow_nil (w6.alloc (.cells #[.string (bs x), .int .i64 t, .int .i64 cc] 44)) w6.heap.size 44 3)
            have HSZ := Lib.hid b6.size
            clear hr6 hm6 b6 N1 N2 N3
            go_wp2_with (first
              | (at_builtin; refine wpList_append_own _ rfl _ _ 24 rfl w6.heap.size 44 i0 (.agg #[.string ⟨#[]⟩, .int .i64 0, .int .i64 0]) 3 32 Tryd.underlying24 hi hz0 hz1 hz2 rfl (by decide) _ _ _ rfl HOWN.out ⟨w6.heap.size, 0, none⟩ 1 1 [.string (bs x), .int .i64 t, .int .i64 cc] rfl rfl ?c1 ?c2 ?c3 ?c4 ?c5 ?_)
              | fail)
            case c1 => exact World.news_of_block (cs := #[.string (bs x), .int .i64 t, .int .i64 cc]) (t := 44) (fr := (0, 0)) (row_new _ rfl)
            case c2 => exact qu_oneD ⟨x, t, cc⟩
            case c3 => decide
            case c4 => omega
            case c5 => exact HSZ.out
            intro v' w9 hown9 hgrow _
            have b9 : Below (w6.alloc (.cells #[.string (bs x), .int .i64 t, .int .i64 cc] 44)).heap.size (w6.alloc (.cells #[.string (bs x), .int .i64 t, .int .i64 cc] 44)) w9 := (Mod.grown (S := fun _ => False) hgrow (fun k hk => by cases hk)).toBelow (Nat.le_refl _) (fun i hi => hi.elim)
            have HNEW : Hid (∃ x z, R = .ok x z ∧ RfM w9 rb A c b z ∧ Mod (fun k => k = rb) w w9) := Lib.hid ⟨_, _, HE.out, HRD.out.below b9, HMD.out.then b9⟩
            obtain ⟨A5, c5, rfl⟩ := own_formD hown9
            clear hown9 hgrow b9 HOWN HRD HMD HSZ
            go_wp2_with fail
            go_roundw
            case rel => exact .inr ⟨A5, c5, by go_num, rfl, HNEW⟩
            case measure => simp [intOf]
    · obtain ⟨x, z, hx, hr, hm⟩ := HX.out
      have HP := Lib.hid (DqP.yes (e := .returned (.tuple #[.slice A5 1 c5, .int .i64 0])) hx hr hm rfl)
      clear hx hr hm
      go_wp2_with fail
      go_ret2
      exact HP.out
end Go.Proofs.YtknpkifhkefikaaDoor
namespace Go.Proofs.YtknpkifhkefikaaDoor
open Go.RowKit
set_option linter.unusedVariables false
set_option maxRecDepth 100000

def rN {α : Type} : Rd α → Nat
  | .ok _ _ => 0
  | .no k => k
theorem mR_one {b : Bs} (n0 : ctB b 4 = 1) (n1 : ctB b 6 = 0) (n2 : ctB b 8 = 0) (n3 : ctB b 10 = 0) : mR b = (quR b 12).then fun x z => if z < b.length then .no 41 else .ok ([x], [], [], []) z := by
  unfold mR msR
  rw [n0, n1, n2, n3]
  unfold manyR
  cases quR b 12 <;> rfl
theorem hrefB (A : Option Addr) (c : Nat) (b : Bs) (w : World) (hS : Sl w A c b) (h12 : 12 ≤ b.length) (hl : b.length ≤ 65535) (f2 : zB b 2 = 0) (f3 : zB b 3 = 0) (n0 : ctB b 4 = 1) (n1 : ctB b 6 = 0) (n2 : ctB b 8 = 0) (n3 : ctB b 10 = 0) :
    Calls Tryd.prog 52 #[.slice A b.length c] w fun e w' => e = .returned (.tuple #[hdV (zB b 0 * 256 + zB b 1) false 0 false false false false 0, ctV 1 0 0 0, .int .i64 0]) ∧ Below w.heap.size w w' := by
  obtain ⟨g, off, rfl, hc⟩ := hS.bys (by omega)
  have ht : Twelve w g off (zB b) := by
    refine ⟨fun i hi => ?_, fun i => by unfold zB; have := (b.getD i 0).toNat_lt; omega, hS.inside _ rfl (by omega)⟩
    have h3 := hc i (by omega)
    rw [h3]
    unfold zB
    rw [List.getD_eq_getElem?_getD, List.getElem?_eq_getElem (by omega), Option.getD_some]
  exact refDecode_ok g off b.length c (zB b) (zB b 0 * 256 + zB b 1) 0 1 0 0 0 false 0 false false false false 0 w (by omega) (by omega) ht
    ⟨rfl, by rw [f2, f3]; rfl, by rw [ctB_int, n0]; rfl, by rw [ctB_int, n1]; rfl, by rw [ctB_int, n2]; rfl, by rw [ctB_int, n3]; rfl⟩ (by decide) (by omega) ⟨by decide, by decide, by decide, by decide, by decide, by decide, by decide⟩
abbrev dC (i : Int) (vq va vb vc : Value) : Array Value := #[.int .i64 i, .bool false, .int .i64 0, .bool false, .bool false, .bool false, .bool false, .int .i64 0, vq, va, vb, vc]
/-- Within the document's Decode: its boxes. -/
structure DgS (w : World) (g : Nat) (A : Option Addr) (c : Nat) (b : Bs) (i : Int) (z : Nat) (vq va vb vc : Value) (W : World) : Prop where
  rd : RfM W (g + 1 + 1) A c b z
  below : Below w.heap.size w W
  r2 : W.heap[w.heap.size]? = some (.cells zeroM 27 (0, 0))
  rc : W.heap[g + 1]? = some (.cells #[.int .i64 1, .int .i64 0, .int .i64 0, .int .i64 0] 63 (0, 0))
  rm : W.heap[g + 1 + 1 + 1]? = some (.cells (dC i vq va vb vc) 27 (0, 0))
  lt : w.heap.size < g
theorem DgS.next {w : World} {g : Nat} {A : Option Addr} {c : Nat} {b : Bs} {i : Int} {z z' : Nat} {vq va vb vc : Value} {W W1 : World} (h : DgS w g A c b i z vq va vb vc W) (hr : RfM W1 (g + 1 + 1) A c b z') (hm : Mod (fun k => k = g + 1 + 1) W W1) : DgS w g A c b i z' vq va vb vc W1 :=
  have l := h.lt
  ⟨hr, Mod.out h.below hm h.below.size (fun i hi => by omega), hm.row h.r2 (by omega), hm.row h.rc (by omega), hm.row h.rm (by omega), l⟩
theorem DgS.gone {w : World} {g : Nat} {A : Option Addr} {c : Nat} {b : Bs} {i : Int} {z : Nat} {vq va vb vc : Value} {W W1 : World} (h : DgS w g A c b i z vq va vb vc W) (hm : Mod (fun k => k = g + 1 + 1) W W1) : Below w.heap.size w W1 ∧ W1.heap[w.heap.size]? = some (.cells zeroM 27 (0, 0)) ∧ W1.heap[g + 1 + 1 + 1]? = some (.cells (dC i vq va vb vc) 27 (0, 0)) :=
  have l := h.lt
  ⟨Mod.out h.below hm h.below.size (fun i hi => by omega), hm.row h.r2 (by omega), hm.row h.rm (by omega)⟩
theorem DgS.set {w : World} {g : Nat} {A : Option Addr} {c : Nat} {b : Bs} {i : Int} {z : Nat} {vq va vb vc vq' va' vb' vc' : Value} {W : World} (h : DgS w g A c b i z vq va vb vc W) (hA : Off (fun k => k = g + 1 + 1 + 1) A) (j : Nat) (u : Value) (hu : (dC i vq va vb vc).setIfInBounds j u = dC i vq' va' vb' vc') : DgS w g A c b i z vq' va' vb' vc' (W.setCell ⟨g + 1 + 1 + 1, j, none⟩ u) := by
  have l := h.lt
  have hm := mod_setCell W (g + 1 + 1 + 1) j u
  have r := row_set (i := j) u h.rm
  rw [hu] at r
  exact ⟨⟨hm.row h.rd.row (by omega), h.rd.sl.mod hm hA, h.rd.off, h.rd.le, h.rd.mx⟩, Mod.out h.below hm h.below.size (fun i hi => by omega), hm.row h.r2 (by omega), hm.row h.rc (by omega), r, l⟩
theorem DgS.cells {w : World} {g : Nat} {A : Option Addr} {c : Nat} {b : Bs} {i : Int} {z : Nat} {vq va vb vc : Value} {W : World} (h : DgS w g A c b i z vq va vb vc W) : W.cell? ⟨g + 1, 0, none⟩ = some (.int .i64 1) ∧ W.cell? ⟨g + 1, 1, none⟩ = some (.int .i64 0) ∧ W.cell? ⟨g + 1, 2, none⟩ = some (.int .i64 0) ∧ W.cell? ⟨g + 1, 3, none⟩ = some (.int .i64 0) ∧ W.cell? ⟨g + 1 + 1 + 1, 8, none⟩ = some vq ∧ W.cell? ⟨g + 1 + 1 + 1, 9, none⟩ = some va ∧ W.cell? ⟨g + 1 + 1 + 1, 10, none⟩ = some vb ∧ W.cell? ⟨g + 1 + 1 + 1, 11, none⟩ = some vc ∧ ∀ j, W.frozen? ⟨g + 1 + 1 + 1, j, none⟩ = false :=
  ⟨(cell_of_row _ _ 0 _ _ _ h.rc).trans rfl, (cell_of_row _ _ 1 _ _ _ h.rc).trans rfl, (cell_of_row _ _ 2 _ _ _ h.rc).trans rfl, (cell_of_row _ _ 3 _ _ _ h.rc).trans rfl, (cell_of_row _ _ 8 _ _ _ h.rm).trans rfl, (cell_of_row _ _ 9 _ _ _ h.rm).trans rfl, (cell_of_row _ _ 10 _ _ _ h.rm).trans rfl, (cell_of_row _ _ 11 _ _ _ h.rm).trans rfl, fun j => frozen_of_row _ _ j _ _ h.rm⟩
theorem dec_load {w W : World} {C : Array Value} (hB : Below w.heap.size w W) (hr : W.heap[w.heap.size]? = some (.cells zeroM 27 (0, 0))) (hC : C.size = 12) :
    (loadVar 27 ⟨w.heap.size, 0, none⟩).run Tryd.prog (W.setRow w.heap.size C) = .ok (.agg C) (W.setRow w.heap.size C) ∧ Below w.heap.size w (W.setRow w.heap.size C) :=
  ⟨run_loadVar_row _ _ 27 27 C (0, 0) _ (setRow_heap _ _ _ C _ _ hr) Tryd.underlying27 rfl (by rw [hC]; exact info_ms), Below.setRow hB (Nat.le_refl _) _⟩
/-- A message, and how it ended. -/
def DdP (w : World) (k : Nat) (e : Ending) (w' : World) : Prop := ∃ C : Array Value, e = .returned (.tuple #[.agg C, .int .i64 k]) ∧ C.size = 12 ∧ C.all (·.oneCell') = true ∧ Below w.heap.size w w'
set_option maxHeartbeats 1000000 in
set_option maxRecDepth 100000 in
theorem ddec_any (A : Option Addr) (c : Nat) (b : Bs) (w : World) (hS : Sl w A c b) (h12 : 12 ≤ b.length) (hl : b.length ≤ 65535) (f2 : zB b 2 = 0) (f3 : zB b 3 = 0) (n0 : ctB b 4 = 1) (n1 : ctB b 6 = 0) (n2 : ctB b 8 = 0) (n3 : ctB b 10 = 0) :
    Calls Tryd.prog 18 #[.slice A b.length c] w (DdP w (rN (mR b))) := by
  obtain ⟨Z, hZ⟩ : ∃ Z : Obj, Z = .cells zeroM 27 (0, 0) := ⟨_, rfl⟩
  have b1 : Below w.heap.size w (w.alloc Z) := Below.alloc (Below.refl _ _) (Nat.le_refl _) _
  have HK := Lib.hid (hrefB A c b (w.alloc Z) (hS.on b1) h12 hl f2 f3 n0 n1 n2 n3)
  have r2 : Hid ((w.alloc Z).heap[w.heap.size]? = some Z) := Lib.hid (row_new _ rfl)
  have HB1 := Lib.hid b1
  have HSL := Lib.hid hS
  have HB12 := Lib.hid h12
  have hR := mR_one n0 n1 n2 n3
  obtain ⟨n, hn⟩ : ∃ n, n = b.length := ⟨_, rfl⟩
  rw [← hn] at HK hl ⊢
  have HN := Lib.hid hn
  obtain ⟨i, hi⟩ : ∃ i, i = zB b 0 * 256 + zB b 1 := ⟨_, rfl⟩
  obtain ⟨R, hRe⟩ : ∃ R, R = mR b := ⟨_, rfl⟩
  rw [← hi] at HK
  rw [← hRe] at hR ⊢
  have HR := Lib.hid hR
  rw [hZ] at HK r2 HB1
  have hl' : ¬ (65535 : Int) < (n : Int) := by omega
  clear hZ b1 hS h12 f2 f3 n0 n1 n2 n3 hn hi hR hRe
  go_enter Tryd.func18, Tryd.ntmps18
  go_wp2_with fail
  refine HK.out.mono ?_
  rintro e w2 ⟨rfl, b2⟩
  have R2 := (b2.block _ (by simp)).trans r2.out
  have HB2 := Lib.hid (Below.trans HB1.out (b2.mono HB1.out.size))
  have hlt : w.heap.size < w2.heap.size := by have := b2.size; simp at this; omega
  obtain ⟨W3, hW3⟩ : ∃ W3, W3 = (((w2.alloc (.cells #[.int .i64 i, .bool false, .int .i64 0, .bool false, .bool false, .bool false, .bool false, .int .i64 0] 23)).alloc (.cells #[.int .i64 1, .int .i64 0, .int .i64 0, .int .i64 0] 63)).alloc (.cells #[.slice A n c, .int .i64 12] 98)).alloc (.cells (dC i (.slice none 0 0) (.slice none 0 0) (.slice none 0 0) (.slice none 0 0)) 27) := ⟨_, rfl⟩
  have HS3 : Hid (DgS w w2.heap.size A c b i 12 (.slice none 0 0) (.slice none 0 0) (.slice none 0 0) (.slice none 0 0) W3) := Lib.hid (by
    subst hW3
    have r5 := row_new (w := w2.alloc (.cells #[.int .i64 i, .bool false, .int .i64 0, .bool false, .bool false, .bool false, .bool false, .int .i64 0] 23)) (k := w2.heap.size + 1) (.cells #[.int .i64 1, .int .i64 0, .int .i64 0, .int .i64 0] 63 (0, 0)) (by simp)
    have r6 := row_new (w := (w2.alloc (.cells #[.int .i64 i, .bool false, .int .i64 0, .bool false, .bool false, .bool false, .bool false, .int .i64 0] 23)).alloc (.cells #[.int .i64 1, .int .i64 0, .int .i64 0, .int .i64 0] 63)) (k := w2.heap.size + 1 + 1) (.cells #[.slice A n c, .int .i64 12] 98 (0, 0)) (by simp)
    have bw : Below w2.heap.size w2 ((((w2.alloc (.cells #[.int .i64 i, .bool false, .int .i64 0, .bool false, .bool false, .bool false, .bool false, .int .i64 0] 23)).alloc (.cells #[.int .i64 1, .int .i64 0, .int .i64 0, .int .i64 0] 63)).alloc (.cells #[.slice A n c, .int .i64 12] 98)).alloc (.cells (dC i (.slice none 0 0) (.slice none 0 0) (.slice none 0 0) (.slice none 0 0)) 27)) := Below.alloc (Below.alloc (Below.alloc (Below.alloc (Below.refl _ _) (Nat.le_refl _) _) (by simp) _) (by simp; omega) _) (by simp; omega) _
    have B3 := Below.trans HB2.out (bw.mono HB2.out.size)
    exact ⟨⟨by rw [← HN.out]; exact row_old _ r6, HSL.out.on B3, fun q hq e => by
      have h1 := HSL.out.inside q hq (by have := HB12.out; omega)
      have h2 := HB2.out.size
      omega, HB12.out, by rw [← HN.out]; exact hl⟩, B3, (bw.block _ hlt).trans R2, row_old _ (row_old _ r5), row_new _ (by simp), hlt⟩)
  have HOF : Hid (Off (fun k => k = w2.heap.size + 1 + 1 + 1) A) := Lib.hid (fun q hq e => by
    have h1 := HSL.out.inside q hq (by have := HB12.out; omega)
    have h2 := HB2.out.size
    omega)
  have QC := dqu1_any W3 (w2.heap.size + 1 + 1) A c b 12 HS3.out.rd
  obtain ⟨m0, m1, m2, m3, m8, m9, m10, m11, mf⟩ := HS3.out.cells
  have i23 : Hid ((Tryd.prog.info? 23).map (·.size) = some (#[.int .i64 i, .bool false, .int .i64 0, .bool false, .bool false, .bool false, .bool false, .int .i64 0] : Array Value).size) := Lib.hid (by kernel_rfl)
  have HW3 := Lib.hid hW3
  have hQ := HR.out
  have hnz := nz_qu b 12
  obtain ⟨Q, hQe⟩ : ∃ Q, Q = quR b 12 := ⟨_, rfl⟩
  rw [← hQe] at QC hQ hnz
  obtain ⟨g, hg⟩ : ∃ g, g = w2.heap.size := ⟨_, rfl⟩
  have one27 : Hid (zeroM.all (·.oneCell') = true) := Lib.hid (by simp [Value.oneCell'])
  have z27 : Hid ((Tryd.prog.info? 27).map (·.size) = some zeroM.size) := Lib.hid info_ms
  clear HK r2 HB1 b2 R2 hlt hQe HR
  cases Q with
  | no k =>
    rw [Rd.then_no] at hQ
    have hk0 : ((k : Int) != 0) = true := by rw [bne_iff_ne]; have := hnz k rfl; omega
    have HE := Lib.hid hQ
    have QC := Lib.hid QC
    clear hnz hQ hW3
    go_upto_region 8 with fail
    rw [← HW3.out]
    go_wp2_with fail
    refine QC.out.mono ?_
    rintro e w4 ⟨rfl, hm4⟩
    obtain ⟨B4, R4, M4⟩ := HS3.out.gone hm4
    have k8 : w4.cell? ⟨w2.heap.size + 1 + 1 + 1, 8, none⟩ = some (.slice none 0 0) := (cell_of_row _ _ 8 _ _ _ M4).trans rfl
    have f8 := frozen_of_row _ _ 8 _ _ M4
    have hlt := HS3.out.lt
    obtain ⟨W4, hW4⟩ : ∃ W4, W4 = w4.setCell ⟨w2.heap.size + 1 + 1 + 1, 8, none⟩ (.slice none 0 0) := ⟨_, rfl⟩
    have hm5 : Mod (fun k => k = w2.heap.size + 1 + 1 + 1) w4 W4 := by subst hW4; exact mod_setCell _ _ _ _
    have R5 := hm5.row R4 (by omega)
    have B5 : Below w.heap.size w W4 := Mod.out B4 hm5 B4.size (fun i hi => by omega)
    obtain ⟨L5, B6⟩ := dec_load (C := zeroM) B5 R5 rfl
    obtain ⟨W6, hW6⟩ : ∃ W6, W6 = W4.setRow w.heap.size zeroM := ⟨_, rfl⟩
    rw [← hW6] at L5 B6
    have HL := Lib.hid L5
    have HB6 := Lib.hid B6
    have HW4 := Lib.hid hW4
    have HW6 := Lib.hid hW6
    clear hm4 B4 R4 M4 hW4 hm5 B5 L5 B6 hW6 hlt QC m0 m1 m2 m3 m8 m9 m10 m11 mf
    go_upto_region 9 with fail
    rw [← HW4.out]
    go_wp2_with (first
      | (refine wpList_store_row rfl 27 (.tmp 2) (.tmp 38) rfl w.heap.size zeroM rfl rfl 27 _ R5 z27.out rfl one27.out ?_; rw [← HW6.out])
      | fail)
    have q0 := HL.out
    refine bodyPost_ret (v := .tuple #[.agg zeroM, .int .i64 k]) (by simp [results, Tryd.results18, asAddr, q0]) rfl ?_
    have HPN : DdP w (rN R) (.returned (.tuple #[.agg zeroM, .int .i64 k])) W6 := ⟨zeroM, by rw [HE.out]; rfl, rfl, one27.out, HB6.out⟩
    exact HPN
  | ok x z =>
    rw [Rd.then_ok] at hQ
    have HE := Lib.hid hQ
    have QC := Lib.hid QC
    have RC := Lib.hid (fun W => drec0_any W (w2.heap.size + 1 + 1))
    clear hnz hQ hW3
    go_upto_region 8 with fail
    rw [← HW3.out]
    go_wp2_with fail
    refine QC.out.mono ?_
    rintro e w4 ⟨A5, c5, rfl, hr4, hm4⟩
    have S4 := HS3.out.next hr4 hm4
    obtain ⟨m0, m1, m2, m3, m8, m9, m10, m11, mf⟩ := S4.cells
    obtain ⟨W4, hW4⟩ : ∃ W4, W4 = w4.setCell ⟨w2.heap.size + 1 + 1 + 1, 8, none⟩ (.slice A5 1 c5) := ⟨_, rfl⟩
    have S5 : DgS w w2.heap.size A c b i z (.slice A5 1 c5) (.slice none 0 0) (.slice none 0 0) (.slice none 0 0) W4 := by subst hW4; exact S4.set HOF.out 8 _ rfl
    obtain ⟨p0, p1, p2, p3, p8, p9, p10, p11, pf⟩ := S5.cells
    have HW4 := Lib.hid hW4
    have S5 := Lib.hid S5
    clear hr4 hm4 S4 hW4 QC
    go_upto_region 9 with fail
    rw [← HW4.out]
    clear m0 m1 m2 m3 m8 m9 m10 m11 mf
    go_wp2_with fail
    refine (RC.out _).mono ?_
    rintro e wv ⟨rfl, hwv⟩
    rw [hwv]
    clear hwv wv
    obtain ⟨W5, hW5⟩ : ∃ W5, W5 = W4.setCell ⟨w2.heap.size + 1 + 1 + 1, 9, none⟩ (.slice none 0 0) := ⟨_, rfl⟩
    have S5' : DgS w w2.heap.size A c b i z (.slice A5 1 c5) (.slice none 0 0) (.slice none 0 0) (.slice none 0 0) W5 := by subst hW5; exact S5.out.set HOF.out 9 _ rfl
    obtain ⟨s0, s1, s2, s3, s8, s9, s10, s11, sf⟩ := S5'.cells
    have HW5 := Lib.hid hW5
    have S5' := Lib.hid S5'
    clear hW5
    go_upto_region 12 with fail
    rw [← HW5.out]
    clear p0 p1 p2 p3 p8 p9 p10 p11 pf
    go_wp2_with fail
    refine (RC.out _).mono ?_
    rintro e wv ⟨rfl, hwv⟩
    rw [hwv]
    clear hwv wv
    obtain ⟨W6, hW6⟩ : ∃ W6, W6 = W5.setCell ⟨w2.heap.size + 1 + 1 + 1, 10, none⟩ (.slice none 0 0) := ⟨_, rfl⟩
    have S6' : DgS w w2.heap.size A c b i z (.slice A5 1 c5) (.slice none 0 0) (.slice none 0 0) (.slice none 0 0) W6 := by subst hW6; exact S5'.out.set HOF.out 10 _ rfl
    obtain ⟨u0, u1, u2, u3, u8, u9, u10, u11, uf⟩ := S6'.cells
    have HW6 := Lib.hid hW6
    have S6' := Lib.hid S6'
    clear hW6
    go_upto_region 15 with fail
    rw [← HW6.out]
    clear s0 s1 s2 s3 s8 s9 s10 s11 sf
    go_wp2_with fail
    refine (RC.out _).mono ?_
    rintro e wv ⟨rfl, hwv⟩
    rw [hwv]
    clear hwv wv
    obtain ⟨W7, hW7⟩ : ∃ W7, W7 = W6.setCell ⟨w2.heap.size + 1 + 1 + 1, 11, none⟩ (.slice none 0 0) := ⟨_, rfl⟩
    have S7' : DgS w w2.heap.size A c b i z (.slice A5 1 c5) (.slice none 0 0) (.slice none 0 0) (.slice none 0 0) W7 := by subst hW7; exact S6'.out.set HOF.out 11 _ rfl
    obtain ⟨v0, v1, v2, v3, v8, v9, v10, v11, vf⟩ := S7'.cells
    have HW7 := Lib.hid hW7
    have S7' := Lib.hid S7'
    clear hW7
    go_upto_region 18 with fail
    rw [← HW7.out]
    clear u0 u1 u2 u3 u8 u9 u10 u11 uf
    obtain ⟨t0, t1, tf⟩ := S7'.out.rd.cells
    have RZ := S7'.out.r2
    have RM := Lib.hid S7'.out.rm
    clear v0 v1 v2 v3 v8 v9 v10 v11 vf RC HW3 HW4 HW5 HW6 HW7
    by_cases hz : z < b.length
    · have hz' : (z : Int) < (n : Int) := by have := HN.out; omega
      have HE2 : Hid (R = .no 41) := Lib.hid (by rw [HE.out, if_pos hz])
      obtain ⟨L5, B6⟩ := dec_load (C := zeroM) S7'.out.below RZ rfl
      obtain ⟨W8, hW8⟩ : ∃ W8, W8 = W7.setRow w.heap.size zeroM := ⟨_, rfl⟩
      rw [← hW8] at L5 B6
      have HL := Lib.hid L5
      have HB6 := Lib.hid B6
      have HW8 := Lib.hid hW8
      clear L5 B6 hW8 hz
      go_wp2_with (first
        | (refine wpList_store_row rfl 27 (.tmp 2) (.tmp 83) rfl w.heap.size zeroM rfl rfl 27 _ RZ z27.out rfl one27.out ?_; rw [← HW8.out])
        | fail)
      have q0 := HL.out
      refine bodyPost_ret (v := .tuple #[.agg zeroM, .int .i64 41]) (by simp [results, Tryd.results18, asAddr, q0]) rfl ?_
      have HPN : DdP w (rN R) (.returned (.tuple #[.agg zeroM, .int .i64 41])) W8 := ⟨zeroM, by rw [HE2.out]; rfl, rfl, one27.out, HB6.out⟩
      exact HPN
    · have hz' : ¬ (z : Int) < (n : Int) := by have := HN.out; omega
      have HE2 : Hid (R = .ok ([x], [], [], []) z) := Lib.hid (by rw [HE.out, if_neg hz])
      obtain ⟨C, hC⟩ : ∃ C, C = dC i (.slice A5 1 c5) (.slice none 0 0) (.slice none 0 0) (.slice none 0 0) := ⟨_, rfl⟩
      rw [← hC] at RM
      have hCs : C.size = 12 := by rw [hC]; rfl
      have i27 : Hid ((Tryd.prog.info? 27).map (·.size) = some C.size) := Lib.hid (by rw [hCs]; exact info_ms)
      have oneC : Hid (C.all (·.oneCell') = true) := Lib.hid (by rw [hC]; simp [Value.oneCell'])
      have szC : Hid (zeroM.size = C.size) := Lib.hid (by rw [hCs]; rfl)
      obtain ⟨L5, B6⟩ := dec_load (C := C) S7'.out.below RZ hCs
      obtain ⟨W8, hW8⟩ : ∃ W8, W8 = W7.setRow w.heap.size C := ⟨_, rfl⟩
      rw [← hW8] at L5 B6
      have HL := Lib.hid L5
      have HB6 := Lib.hid B6
      have HW8 := Lib.hid hW8
      have HCs := Lib.hid hCs
      clear L5 B6 hW8 hz hCs hC
      go_wp2_with (first
        | (refine wpList_load_row rfl 27 (.tmp 8) rfl (w2.heap.size + 1 + 1 + 1) rfl 27 C (0, 0) _ RM.out Tryd.underlying27 rfl i27.out ?_)
        | (refine wpList_store_row rfl 27 (.tmp 2) (.tmp 84) rfl w.heap.size C rfl rfl 27 _ RZ i27.out (by first | exact szC.out | exact szC.out.symm) oneC.out ?_; rw [← HW8.out])
        | fail)
      have q0 := HL.out
      refine bodyPost_ret (v := .tuple #[.agg C, .int .i64 0]) (by simp [results, Tryd.results18, asAddr, q0]) rfl ?_
      have HPN : DdP w (rN R) (.returned (.tuple #[.agg C, .int .i64 0])) W8 := ⟨C, by rw [HE2.out]; rfl, HCs.out, oneC.out, HB6.out⟩
      exact HPN
end Go.Proofs.YtknpkifhkefikaaDoor
namespace Go.Proofs.YtknpkifhkefikaaDoor
open Go.RowKit
attribute [local go_sem ↓] exec_loadMg
set_option linter.unusedVariables false
set_option maxRecDepth 100000

theorem DecP.tell {w w' : World} {hd : Hd} {R : Rd Parts} {e : Ending} (h : DecP w hd R e w') : DdP w (rN R) e w' := by
  cases R with
  | ok x z =>
    obtain ⟨v, rfl, -, hB⟩ := h
    exact ⟨_, rfl, rfl, ms_one _ v, hB⟩
  | no k =>
    obtain ⟨rfl, hB⟩ := h
    exact ⟨_, rfl, rfl, by simp [Value.oneCell'], hB⟩
theorem or_192 (k : Nat) (hk : k < 64) : bits .or .i64 192 (k : Int) = ((192 + k : Nat) : Int) := by
  have h2 : (192 ||| k) = 192 + k := (Nat.two_pow_add_eq_or_of_lt (i := 6) hk 3).symm
  unfold bits
  change IntKind.i64.wrap (((BitVec.ofInt 64 ((192 : Nat) : Int) ||| BitVec.ofInt 64 (k : Int)).toNat : Nat) : Int) = _
  rw [BitVec.ofInt_natCast, BitVec.ofInt_natCast, BitVec.toNat_or, BitVec.toNat_ofNat, BitVec.toNat_ofNat, Nat.mod_eq_of_lt (by omega), Nat.mod_eq_of_lt (by omega), h2, IntKind.wrap_i64]
  omega
theorem low_of (i : Int) (m : Nat) (h4 : 0 < m) (h : m ≤ 65536) : ∃ a : Nat, wrap64 ((IntKind.u64.wrap i).tmod m) = a ∧ a < m := by
  have h0 : 0 ≤ IntKind.u64.wrap i := by rw [IntKind.wrap_u64]; omega
  rw [Int.tmod_eq_emod_of_nonneg h0]
  generalize IntKind.u64.wrap i = u at *
  have h1 := Int.emod_nonneg u (b := (m : Int)) (by omega)
  have h2 := Int.emod_lt_of_pos u (b := (m : Int)) (by omega)
  generalize u % (m : Int) = r at *
  refine ⟨r.toNat, ?_, by omega⟩
  unfold wrap64
  omega
theorem u8_of (n : Nat) (h : n < 256) : ∃ x : UInt8, x.toNat = n := ⟨UInt8.ofNat n, by rw [UInt8.toNat_ofNat']; omega⟩
def lpB (x0 x1 y0 y1 : UInt8) : Bs := [x0, x1, 0, 0, 0, 1, 0, 0, 0, 0, 0, 0, y0, y1, 0, 1, 0, 1]
theorem lp_len (x0 x1 y0 y1 : UInt8) : (lpB x0 x1 y0 y1).length = 18 := rfl
theorem lp_hz (x0 x1 y0 y1 : UInt8) : bits .and .i64 (zB (lpB x0 x1 y0 y1) 2 * 256 + zB (lpB x0 x1 y0 y1) 3) 112 = 0 := by
  show bits .and .i64 (0 * 256 + 0) 112 = 0
  decide
theorem lp_mR (x0 x1 y0 y1 : UInt8) : mR (lpB x0 x1 y0 y1) = (quR (lpB x0 x1 y0 y1) 12).then fun x z => if z < (lpB x0 x1 y0 y1).length then .no 41 else .ok ([x], [], [], []) z := mR_one rfl rfl rfl rfl
theorem lp_far (x0 x1 y0 y1 : UInt8) {T : Nat} (h0 : y0.toNat = 192 + T / 256) (h1 : y1.toNat = T % 256) (hT : 12 ≤ T) : mR (lpB x0 x1 y0 y1) = .no 40 := by
  have h12 : 12 < (lpB x0 x1 y0 y1).length := by rw [lp_len]; decide
  have h13 : 12 + 1 < (lpB x0 x1 y0 y1).length := by rw [lp_len]; decide
  have e0 : (lpB x0 x1 y0 y1)[12] = y0 := rfl
  have e1 : (lpB x0 x1 y0 y1)[12 + 1] = y1 := rfl
  have n1 : nmR 20 (lpB x0 x1 y0 y1) 12 12 0 [] = .no 40 := nmR_ahead h12 (by rw [e0]; omega) h13 (by rw [e0, e1]; omega)
  have q1 : quR (lpB x0 x1 y0 y1) 12 = .no 40 := by unfold quR; rw [n1]; rfl
  rw [lp_mR, q1]
  rfl
abbrev h0M : Msg := ⟨⟨0, false, 0, false, false, false, false, 0⟩, [], [], [], []⟩
theorem ms_zero (w : World) : Ms w h0M v7 := ⟨fun h => absurd h (by simp), fun h => absurd h (by simp), fun h => absurd h (by simp), fun h => absurd h (by simp), by simp [v7], by simp [v7], by simp [v7], by simp [v7]⟩
theorem same_zero (w : World) : Calls Tryd.prog 17 #[.agg zeroM, .agg zeroM] w fun e w' => e = .returned (.bool true) ∧ Below w.heap.size w w' := by
  have := Same_msg h0M h0M v7 v7 w (ms_zero w) (ms_zero w)
  rw [sameM_self] at this
  exact this
set_option maxHeartbeats 1000000 in
set_option maxRecDepth 100000 in
theorem WireLoops_any (i t : Int) (w : World) (hk : Masks w) : Calls Tryd.prog 5 #[.int .i64 i, .int .i64 t] w fun e w' => e = .returned (.bool true) ∧ Below w.heap.size w w' := by
  obtain ⟨I, hI, hI2⟩ := low_of i 65536 (by decide) (by decide)
  obtain ⟨T, hT, hT2⟩ := low_of t 16384 (by decide) (by decide)
  replace hI : wrap64 ((IntKind.u64.wrap i).tmod 65536) = (I : Int) := hI
  replace hT : wrap64 ((IntKind.u64.wrap t).tmod 16384) = (T : Int) := hT
  obtain ⟨x0, hx0⟩ := u8_of (I / 256) (by omega)
  obtain ⟨x1, hx1⟩ := u8_of (I % 256) (by omega)
  obtain ⟨y0, hy0⟩ := u8_of (192 + T / 256) (by omega)
  obtain ⟨y1, hy1⟩ := u8_of (T % 256) (by omega)
  have E0 : Hid ((I : Int) / 256 = (x0.toNat : Int)) := Lib.hid (by omega)
  have e1 : (I : Int) % 256 = (x1.toNat : Int) := by omega
  have e2 : bits .or .i64 192 ((T : Int) / 256) % 256 = (y0.toNat : Int) := by
    have := or_192 (T / 256) (by omega)
    rw [show ((T / 256 : Nat) : Int) = (T : Int) / 256 from rfl] at this
    rw [this]
    omega
  have e3 : (T : Int) % 256 = (y1.toNat : Int) := by omega
  obtain ⟨W1, hW1⟩ : ∃ W1, W1 = w.alloc (.cells #[.int .u8 x0.toNat, .int .u8 x1.toNat, .int .u8 0, .int .u8 0, .int .u8 0, .int .u8 1, .int .u8 0, .int .u8 0, .int .u8 0, .int .u8 0, .int .u8 0, .int .u8 0, .int .u8 y0.toNat, .int .u8 y1.toNat, .int .u8 0, .int .u8 1, .int .u8 0, .int .u8 1] 5) := ⟨_, rfl⟩
  have b1 : Below w.heap.size w W1 := by rw [hW1]; exact Below.alloc (Below.refl _ _) (Nat.le_refl _) _
  have s1 : Sl W1 (some ⟨w.heap.size, 0, none⟩) 18 (lpB x0 x1 y0 y1) := by rw [hW1]; exact Sl.made (l := lpB x0 x1 y0 y1) rfl (by rw [lp_len]; decide)
  have DC := DecodeD_any _ 18 _ W1 s1 (by rw [lp_len]; decide) (by rw [lp_len]; decide) (hk.on b1) (lp_hz x0 x1 y0 y1)
  have HS1 := Lib.hid s1
  have HB1 := Lib.hid b1
  have HMK := Lib.hid hk
  have HW1 := Lib.hid hW1
  have i27 : Hid ((Tryd.prog.info? 27).map (·.size) = some zeroM.size) := Lib.hid info_ms
  by_cases hT12 : 12 ≤ T
  · have hT' : (12 : Int) ≤ (T : Int) := by omega
    rw [lp_far x0 x1 y0 y1 hy0 hy1 hT12, lp_len] at DC
    have DC := Lib.hid DC
    have SZ := Lib.hid same_zero
    clear hx0 hx1 hy0 hy1 hW1 b1 s1 hk hT12
    go_enter Tryd.func5, Tryd.ntmps5
    go_upto_region 3 with fail
    rw [E0.out, ← HW1.out]
    go_wp2_with fail
    refine DC.out.mono ?_
    rintro e w2 ⟨rfl, b2⟩
    obtain ⟨W3, hW3⟩ : ∃ W3, W3 = w2.alloc (.cells zeroM 27) := ⟨_, rfl⟩
    have b3 : Below w2.heap.size w2 W3 := by rw [hW3]; exact Below.alloc (Below.refl _ _) (Nat.le_refl _) _
    have r3 : W3.heap[w2.heap.size]? = some (.cells zeroM 27 (0, 0)) := by rw [hW3]; exact row_new _ rfl
    have f3 := loadMg_row r3 i27.out
    have B2 := Below.trans HB1.out (b2.mono HB1.out.size)
    have HB3 := Lib.hid (Below.trans B2 (b3.mono B2.size))
    have HW3 := Lib.hid hW3
    clear b2 B2 b3 r3 hW3 DC
    go_upto_region 4 with fail
    rw [← HW3.out]
    go_wp2_with fail
    refine (SZ.out _).mono ?_
    rintro e w4 ⟨rfl, b4⟩
    have B4 := Below.trans HB3.out (b4.mono HB3.out.size)
    have AW := Lib.hid (awake4_any w4 (HMK.out.on B4))
    have HB4 := Lib.hid B4
    clear b4 B4 f3 SZ
    go_wp2_with fail
    refine AW.out.mono ?_
    rintro e w5 ⟨rfl, b5⟩
    have HB5 := Lib.hid (Below.trans HB4.out (b5.mono HB4.out.size))
    clear b5
    go_wp2_with fail
    go_ret
    exact ⟨rfl, HB5.out⟩
  · have E3 : Hid ((T : Int) = (y1.toNat : Int)) := Lib.hid (by omega)
    have hT' : ¬ (12 : Int) ≤ (y1.toNat : Int) := by omega
    have hT2' : ¬ (12 : Int) ≤ (T : Int) := by omega
    have DC := DC.mono fun e w' h => h.tell
    have DD : ∀ W, Below W1.heap.size W1 W → Calls Tryd.prog 18 #[.slice (some ⟨w.heap.size, 0, none⟩) (lpB x0 x1 y0 y1).length 18] W (DdP W (rN (mR (lpB x0 x1 y0 y1)))) := fun W h => ddec_any _ 18 (lpB x0 x1 y0 y1) W (HS1.out.on h) (by rw [lp_len]; decide) (by rw [lp_len]; decide) rfl rfl rfl rfl rfl rfl
    obtain ⟨k, hkk⟩ : ∃ k, k = rN (mR (lpB x0 x1 y0 y1)) := ⟨_, rfl⟩
    rw [← hkk] at DC DD
    rw [lp_len] at DC DD
    have DC := Lib.hid DC
    have DD := Lib.hid DD
    clear hx0 hx1 hy0 hy1 hW1 b1 s1 hk hT12 hkk
    go_enter Tryd.func5, Tryd.ntmps5
    go_upto_region 3 with fail
    rw [E0.out, E3.out, ← HW1.out]
    go_wp2_with fail
    refine DC.out.mono ?_
    rintro e w2 ⟨C, rfl, hC, hone, b2⟩
    have iC : Hid ((Tryd.prog.info? 27).map (·.size) = some C.size) := Lib.hid (by rw [hC]; exact info_ms)
    have oneC := Lib.hid hone
    have zC : Hid (zeroM.size = C.size) := Lib.hid (by rw [hC]; rfl)
    have rZ := row_new (w := w2) (k := w2.heap.size) (.cells zeroM 27 (0, 0)) rfl
    obtain ⟨W3, hW3⟩ : ∃ W3, W3 = (w2.alloc (.cells zeroM 27)).setRow w2.heap.size C := ⟨_, rfl⟩
    have q3 : Below w2.heap.size w2 W3 := by rw [hW3]; exact Below.setRow (Below.alloc (Below.refl _ _) (Nat.le_refl _) _) (Nat.le_refl _) _
    have B2 := Below.trans HB1.out (b2.mono HB1.out.size)
    have HB3 := Lib.hid (Below.trans B2 (q3.mono B2.size))
    have DD3 := Lib.hid (DD.out W3 (Below.trans b2 (q3.mono b2.size)))
    have HW3 := Lib.hid hW3
    clear hC hone q3 b2 B2 hW3 DC DD
    go_wp2_with (first
      | (refine wpList_store_row rfl 27 (.tmp 6) (.tmp 33) rfl w2.heap.size C rfl rfl 27 _ rZ iC.out (by first | exact zC.out | exact zC.out.symm) oneC.out ?_; rw [← HW3.out])
      | fail)
    refine DD3.out.mono ?_
    rintro e w4 ⟨D, rfl, hD, hone, b4⟩
    have iD : Hid ((Tryd.prog.info? 27).map (·.size) = some D.size) := Lib.hid (by rw [hD]; exact info_ms)
    have oneD := Lib.hid hone
    have zD : Hid (zeroM.size = D.size) := Lib.hid (by rw [hD]; rfl)
    have rZ := row_new (w := w4) (k := w4.heap.size) (.cells zeroM 27 (0, 0)) rfl
    obtain ⟨W5, hW5⟩ : ∃ W5, W5 = (w4.alloc (.cells zeroM 27)).setRow w4.heap.size D := ⟨_, rfl⟩
    have q5 : Below w4.heap.size w4 W5 := by rw [hW5]; exact Below.setRow (Below.alloc (Below.refl _ _) (Nat.le_refl _) _) (Nat.le_refl _) _
    have B4 := Below.trans HB3.out (b4.mono HB3.out.size)
    have B5 := Below.trans B4 (q5.mono B4.size)
    have AW := Lib.hid (awake4_any W5 (HMK.out.on B5))
    have HB5 := Lib.hid B5
    have HW5 := Lib.hid hW5
    have hkk : ((k : Int) == (k : Int)) = true := by simp
    clear hD hone q5 b4 B4 B5 hW5 DD3
    go_wp2_with (first
      | (refine wpList_store_row rfl 27 (.tmp 8) (.tmp 50) rfl w4.heap.size D rfl rfl 27 _ rZ iD.out (by first | exact zD.out | exact zD.out.symm) oneD.out ?_; rw [← HW5.out])
      | fail)
    refine AW.out.mono ?_
    rintro e w6 ⟨rfl, b6⟩
    have HB6 := Lib.hid (Below.trans HB5.out (b6.mono HB5.out.size))
    clear b6
    go_wp2_with fail
    go_ret
    exact ⟨rfl, HB6.out⟩
end Go.Proofs.YtknpkifhkefikaaDoor
