/-
  header.number, and header.Decode where it tells an error, by contracts.
  header.Decode of twelve bytes and more.
-/
import Derived.Test.YtknpkifhkefikaaDoorWe
import Derived.Lib.Hide
import Derived.Test.YtknpkifhkefikaaDoorGa
import Derived.Deep.RegionHeld3
import Derived.Deep.DeepCutAuto
import Derived.Deep.CutBlock
namespace Go.Proofs.YtknpkifhkefikaaDoor
set_option linter.unusedVariables false
set_option maxRecDepth 100000
open Go.RowKit

set_option maxHeartbeats 400000 in
theorem number_any (bk off len cap : Nat) (i : Nat) (x y : Int) (w : World) (hi : (i : Int) + 1 < (len : Int)) (hl : len ≤ 9223372036854775807)
    (c0 : w.cell? ⟨bk, off + i, none⟩ = some (.int .u8 x)) (c1 : w.cell? ⟨bk, off + (i + 1), none⟩ = some (.int .u8 y)) (hx : 0 ≤ x ∧ x ≤ 255) (hy : 0 ≤ y ∧ y ≤ 255) :
    Calls Tryd.prog 87 #[.slice (some ⟨bk, off, none⟩) len cap, .int .i64 i] w fun e w' => e = .returned (.int .i64 (x * 256 + y)) ∧ ∃ n, w' = w.drewN n := by
  have h0 : (i : Int) < (len : Int) := by omega
  go_enter Tryd.func87, Tryd.ntmps87
  go_wp2
  go_quiet (fail)
  go_wp2
  go_ret
  exact ⟨ret_int (or256 x y hx hy), _, rfl⟩

theorem number_at (bk off len cap : Nat) (i : Nat) (j : Int) (x y : Int) (w : World) (hj : j = i) (hi : (i : Int) + 1 < (len : Int)) (hl : len ≤ 9223372036854775807)
    (c0 : w.cell? ⟨bk, off + i, none⟩ = some (.int .u8 x)) (c1 : w.cell? ⟨bk, off + (i + 1), none⟩ = some (.int .u8 y)) (hx : 0 ≤ x ∧ x ≤ 255) (hy : 0 ≤ y ∧ y ≤ 255) :
    Calls Tryd.prog 87 #[.slice (some ⟨bk, off, none⟩) len cap, .int .i64 j] w fun e w' => e = .returned (.int .i64 (x * 256 + y)) ∧ ∃ n, w' = w.drewN n := by
  subst hj; exact number_any bk off len cap i x y w hi hl c0 c1 hx hy

/-- Twelve bytes stand at a place. -/
structure Twelve (w : World) (bk off : Nat) (z : Nat → Int) : Prop where
  at' : ∀ i, i < 12 → w.cell? ⟨bk, off + i, none⟩ = some (.int .u8 (z i))
  bd : ∀ i, 0 ≤ z i ∧ z i ≤ 255
  lt : bk < w.heap.size

abbrev zeroH : Value := hdV 0 false 0 false false false false 0
abbrev zeroC : Value := ctV 0 0 0 0

theorem size_hd : (Tryd.prog.info? 23).map (·.size) = some 8 := by kernel_rfl
theorem size_ct : (Tryd.prog.info? 63).map (·.size) = some 4 := by kernel_rfl
theorem results_two {a b c : Value} {tmps : Array Value} {W : World} {g : Nat} {cs ds : Array Value} (h2 : tmps.getD 2 undef = .pointer (some ⟨g, 0, none⟩)) (h3 : tmps.getD 3 undef = .pointer (some ⟨g + 1, 0, none⟩)) (h4 : tmps.getD 4 undef = c)
    (r2 : W.heap[g]? = some (.cells cs 23 (0, 0))) (r3 : W.heap[g + 1]? = some (.cells ds 63 (0, 0))) (hs : cs.size = 8) (hd : ds.size = 4) (ha : a = .agg cs) (hb : b = .agg ds) :
    (results Tryd.f48 tmps).run Tryd.prog W = .ok (.tuple #[a, b, c]) W := by
  have q0 : (loadVar 23 ⟨g, 0, none⟩).run Tryd.prog W = .ok (.agg cs) W := run_loadVar_row W g 23 23 cs (0, 0) _ r2 Tryd.underlying23 rfl (by rw [hs]; exact size_hd)
  have q1 : (loadVar 63 ⟨g + 1, 0, none⟩).run Tryd.prog W = .ok (.agg ds) W := run_loadVar_row W (g + 1) 63 63 ds (0, 0) _ r3 Tryd.underlying63 rfl (by rw [hd]; exact size_ct)
  subst ha hb h4
  have h2' : tmps[2]?.getD undef = .pointer (some ⟨g, 0, none⟩) := by simpa using h2
  have h3' : tmps[3]?.getD undef = .pointer (some ⟨g + 1, 0, none⟩) := by simpa using h3
  simp [results, Tryd.results48, asAddr, h2', h3', q0, q1]

set_option maxHeartbeats 400000 in
theorem Decode_short (a : Option Addr) (len cap : Nat) (w : World) (h : (len : Int) < 12) :
    Calls Tryd.prog 48 #[.slice a len cap] w fun e w' => e = .returned (.tuple #[zeroH, zeroC, .int .i64 20]) ∧ Below w.heap.size w w' := by
  go_enter Tryd.func48, Tryd.ntmps48
  go_wp2
  go_region
  all_goals go_wp2
  go_returns
  exact ⟨rfl, by go_grown⟩

abbrev masksV : Value := .agg #[.int .i64 32768, .int .i64 1024, .int .i64 512, .int .i64 256, .int .i64 128]
theorem mask0 (w : World) : (Instr.index 134 (.agg #[.int .i64 32768, .int .i64 1024, .int .i64 512, .int .i64 256, .int .i64 128]) (.int .i64 0)).run Tryd.prog w = .ok (.int .i64 32768) w := by kernel_rfl
theorem mask1 (w : World) : (Instr.index 134 (.agg #[.int .i64 32768, .int .i64 1024, .int .i64 512, .int .i64 256, .int .i64 128]) (.int .i64 1)).run Tryd.prog w = .ok (.int .i64 1024) w := by kernel_rfl
theorem mask2 (w : World) : (Instr.index 134 (.agg #[.int .i64 32768, .int .i64 1024, .int .i64 512, .int .i64 256, .int .i64 128]) (.int .i64 2)).run Tryd.prog w = .ok (.int .i64 512) w := by kernel_rfl
theorem mask3 (w : World) : (Instr.index 134 (.agg #[.int .i64 32768, .int .i64 1024, .int .i64 512, .int .i64 256, .int .i64 128]) (.int .i64 3)).run Tryd.prog w = .ok (.int .i64 256) w := by kernel_rfl
theorem mask4 (w : World) : (Instr.index 134 (.agg #[.int .i64 32768, .int .i64 1024, .int .i64 512, .int .i64 256, .int .i64 128]) (.int .i64 4)).run Tryd.prog w = .ok (.int .i64 128) w := by kernel_rfl

/-- What stands in the blocks that Decode makes: the two results, the counts, the bits. -/
structure Dec (w wr : World) (cs5 cs7 : Array Value) : Prop where
  below : Below w.heap.size w wr
  size : w.heap.size + 1 + 1 + 1 < wr.heap.size
  r2 : wr.heap[w.heap.size]? = some (.cells #[.int .i64 0, .bool false, .int .i64 0, .bool false, .bool false, .bool false, .bool false, .int .i64 0] 23 (0, 0))
  r3 : wr.heap[w.heap.size + 1]? = some (.cells #[.int .i64 0, .int .i64 0, .int .i64 0, .int .i64 0] 63 (0, 0))
  r5 : wr.heap[w.heap.size + 1 + 1]? = some (.cells cs5 63 (0, 0))
  r7 : wr.heap[w.heap.size + 1 + 1 + 1]? = some (.cells cs7 133 (0, 0))

theorem Dec.drewN {w wr : World} {a b : Array Value} (h : Dec w wr a b) (n : Nat) : Dec w (wr.drewN n) a b :=
  ⟨below_drewN h.below n, h.size, h.r2, h.r3, h.r5, h.r7⟩
theorem Dec.set7 {w wr : World} {a b : Array Value} (h : Dec w wr a b) (i : Nat) (v : Value) : Dec w (wr.setCell ⟨w.heap.size + 1 + 1 + 1, i, none⟩ v) a (b.setIfInBounds i v) :=
  ⟨h.below.setCell (by simp; omega) _, by simpa using h.size, (heap_setCell_other _ _ _ _ (by simp; omega)).trans h.r2, (heap_setCell_other _ _ _ _ (by simp)).trans h.r3, (heap_setCell_other _ _ _ _ (by simp)).trans h.r5, heap_setCell_same _ _ _ _ _ _ h.r7⟩
theorem Dec.set5 {w wr : World} {a b : Array Value} (h : Dec w wr a b) (i : Nat) (v : Value) : Dec w (wr.setCell ⟨w.heap.size + 1 + 1, i, none⟩ v) (a.setIfInBounds i v) b :=
  ⟨h.below.setCell (by simp; omega) _, by simpa using h.size, (heap_setCell_other _ _ _ _ (by simp; omega)).trans h.r2, (heap_setCell_other _ _ _ _ (by simp)).trans h.r3, heap_setCell_same _ _ _ _ _ _ h.r5, (heap_setCell_other _ _ _ _ (by simp)).trans h.r7⟩

/-- The bits and the counts, behind k rounds. -/
def bitsAt (fl : Int) : Nat → Array Value
  | 0 => #[.bool false, .bool false, .bool false, .bool false, .bool false]
  | 1 => #[.bool (bits .and .i64 fl 32768 != 0), .bool false, .bool false, .bool false, .bool false]
  | 2 => #[.bool (bits .and .i64 fl 32768 != 0), .bool (bits .and .i64 fl 1024 != 0), .bool false, .bool false, .bool false]
  | 3 => #[.bool (bits .and .i64 fl 32768 != 0), .bool (bits .and .i64 fl 1024 != 0), .bool (bits .and .i64 fl 512 != 0), .bool false, .bool false]
  | 4 => #[.bool (bits .and .i64 fl 32768 != 0), .bool (bits .and .i64 fl 1024 != 0), .bool (bits .and .i64 fl 512 != 0), .bool (bits .and .i64 fl 256 != 0), .bool false]
  | _ => #[.bool (bits .and .i64 fl 32768 != 0), .bool (bits .and .i64 fl 1024 != 0), .bool (bits .and .i64 fl 512 != 0), .bool (bits .and .i64 fl 256 != 0), .bool (bits .and .i64 fl 128 != 0)]
def ctAt (n0 n1 n2 n3 : Int) : Nat → Array Value
  | 0 => #[.int .i64 0, .int .i64 0, .int .i64 0, .int .i64 0]
  | 1 => #[.int .i64 n0, .int .i64 0, .int .i64 0, .int .i64 0]
  | 2 => #[.int .i64 n0, .int .i64 n1, .int .i64 0, .int .i64 0]
  | 3 => #[.int .i64 n0, .int .i64 n1, .int .i64 n2, .int .i64 0]
  | _ => #[.int .i64 n0, .int .i64 n1, .int .i64 n2, .int .i64 n3]

theorem Dec.c7 {w wr : World} {a : Array Value} {fl : Int} {k : Nat} (h : Dec w wr a (bitsAt fl k)) (i : Nat) (hi : i < 5) : ∃ v, wr.cell? ⟨w.heap.size + 1 + 1 + 1, i, none⟩ = some v ∧ wr.frozen? ⟨w.heap.size + 1 + 1 + 1, i, none⟩ = false := by
  have hs : (bitsAt fl k).size = 5 := by unfold bitsAt; split <;> rfl
  exact ⟨(bitsAt fl k)[i], by rw [cell_of_row _ _ _ _ _ _ h.r7]; simp [hs, hi], frozen_of_row _ _ _ _ _ h.r7⟩
theorem Dec.c5 {w wr : World} {b : Array Value} {n0 n1 n2 n3 : Int} {k : Nat} (h : Dec w wr (ctAt n0 n1 n2 n3 k) b) (i : Nat) (hi : i < 4) : ∃ v, wr.cell? ⟨w.heap.size + 1 + 1, i, none⟩ = some v ∧ wr.frozen? ⟨w.heap.size + 1 + 1, i, none⟩ = false := by
  have hs : (ctAt n0 n1 n2 n3 k).size = 4 := by unfold ctAt; split <;> rfl
  exact ⟨(ctAt n0 n1 n2 n3 k)[i], by rw [cell_of_row _ _ _ _ _ _ h.r5]; simp [hs, hi], frozen_of_row _ _ _ _ _ h.r5⟩

set_option maxHeartbeats 1000000 in
set_option maxRecDepth 100000 in
theorem Decode_bits (bk off len cap : Nat) (z : Nat → Int) (w : World) (h : 12 ≤ (len : Int)) (hl : len ≤ 9223372036854775807) (hm : Masks w) (ht : Twelve w bk off z) (hz : bits .and .i64 (z 2 * 256 + z 3) 112 ≠ 0) :
    Calls Tryd.prog 48 #[.slice (some ⟨bk, off, none⟩) len cap] w fun e w' => e = .returned (.tuple #[zeroH, zeroC, .int .i64 21]) ∧ Below w.heap.size w w' := by
  have hb := ht.lt
  have z2 : w.cell? ⟨bk, off + 2, none⟩ = some (.int .u8 (z 2)) := ht.at' 2 (by omega)
  have z3 : w.cell? ⟨bk, off + 3, none⟩ = some (.int .u8 (z 3)) := ht.at' 3 (by omega)
  have b0 := ht.bd
  clear ht
  have hz' : (bits .and .i64 (z 2 * 256 + z 3) 112 != 0) = true := by simp [hz]
  go_enter Tryd.func48, Tryd.ntmps48
  go_wp2_with fail
  refine (number_at bk off len cap 2 _ (z 2) (z 3) _ (by rfl) (by omega) hl (by exact cellB hb z2 (by (repeat first | (with_reducible exact Below.refl _ _) | (with_reducible assumption) | (with_reducible refine below_drewN ?_ _) | (with_reducible refine Below.drew ?_) | (with_reducible refine Below.alloc ?_ (by go_size) _) | (with_reducible refine Below.setCell ?_ (by go_size) _)))) (by exact cellB hb z3 (by (repeat first | (with_reducible exact Below.refl _ _) | (with_reducible assumption) | (with_reducible refine below_drewN ?_ _) | (with_reducible refine Below.drew ?_) | (with_reducible refine Below.alloc ?_ (by go_size) _) | (with_reducible refine Below.setCell ?_ (by go_size) _)))) (b0 _) (b0 _)).mono ?_
  rintro e w' ⟨rfl, n, rfl⟩
  generalize hW : World.drewN _ n = W
  have hB : Below w.heap.size w W := by rw [← hW]; (repeat first | (with_reducible exact Below.refl _ _) | (with_reducible assumption) | (with_reducible refine below_drewN ?_ _) | (with_reducible refine Below.drew ?_) | (with_reducible refine Below.alloc ?_ (by go_size) _) | (with_reducible refine Below.setCell ?_ (by go_size) _))
  have r2 : W.heap[w.heap.size]? = some (.cells #[.int .i64 0, .bool false, .int .i64 0, .bool false, .bool false, .bool false, .bool false, .int .i64 0] 23 (0, 0)) := by rw [← hW]; exact (rows3 w _ _ _ n).1
  have r3 : W.heap[w.heap.size + 1]? = some (.cells #[.int .i64 0, .int .i64 0, .int .i64 0, .int .i64 0] 63 (0, 0)) := by rw [← hW]; exact (rows3 w _ _ _ n).2.1
  have r5 : W.heap[w.heap.size + 1 + 1]? = some (.cells #[.int .i64 0, .int .i64 0, .int .i64 0, .int .i64 0] 63 (0, 0)) := by rw [← hW]; exact (rows3 w _ _ _ n).2.2
  have c2 := cells8 r2
  have c3 := cells4 r3
  have c5 := cells4 r5
  have R2 := Lib.hid r2
  have R3 := Lib.hid r3
  clear r2 r3 r5 hW
  go_wp2_with fail
  go_region
  all_goals go_wp2
  generalize hW' : World.drew _ = W'
  have hB' : Below w.heap.size w W' := by rw [← hW']; (repeat first | (with_reducible exact Below.refl _ _) | (with_reducible assumption) | (with_reducible refine below_drewN ?_ _) | (with_reducible refine Below.drew ?_) | (with_reducible refine Below.alloc ?_ (by go_size) _) | (with_reducible refine Below.setCell ?_ (by go_size) _))
  have Q2 : W'.heap[w.heap.size]? = some (.cells #[.int .i64 0, .bool false, .int .i64 0, .bool false, .bool false, .bool false, .bool false, .int .i64 0] 23 (0, 0)) := by rw [← hW']; exact hrow_drew (stored R2.out R3.out).1
  have Q3 : W'.heap[w.heap.size + 1]? = some (.cells #[.int .i64 0, .int .i64 0, .int .i64 0, .int .i64 0] 63 (0, 0)) := by rw [← hW']; exact hrow_drew (stored R2.out R3.out).2
  clear hW' R2 R3 c2 c3 c5 hB
  refine bodyPost_ret (v := .tuple #[zeroH, zeroC, .int .i64 21]) ?_ rfl ⟨rfl, hB'⟩
  exact results_two (g := w.heap.size) rfl rfl rfl Q2 Q3 rfl rfl rfl rfl

end Go.Proofs.YtknpkifhkefikaaDoor
namespace Go.Proofs.YtknpkifhkefikaaDoor
set_option linter.unusedVariables false
set_option maxRecDepth 100000
open Go.RowKit

/-- What stands behind the struct's own region: the results' blocks, the counts, and the struct itself, in a block of its own. -/
structure Made (w W : World) (g : Nat) (v0 : Int) (v1 : Bool) (v2 : Int) (v3 v4 v5 v6 : Bool) (v7 : Int) (u0 u1 u2 u3 : Int) : Prop where
  below : Below w.heap.size w W
  r2 : W.heap[w.heap.size]? = some (.cells #[.int .i64 0, .bool false, .int .i64 0, .bool false, .bool false, .bool false, .bool false, .int .i64 0] 23 (0, 0))
  r3 : W.heap[w.heap.size + 1]? = some (.cells #[.int .i64 0, .int .i64 0, .int .i64 0, .int .i64 0] 63 (0, 0))
  r5 : W.heap[w.heap.size + 1 + 1]? = some (.cells #[.int .i64 u0, .int .i64 u1, .int .i64 u2, .int .i64 u3] 63 (0, 0))
  r11 : W.heap[g]? = some (.cells #[.int .i64 v0, .bool v1, .int .i64 v2, .bool v3, .bool v4, .bool v5, .bool v6, .int .i64 v7] 23 (0, 0))
  gt : w.heap.size + 1 + 1 < g

theorem keepB {wr W : World} {a : Addr} {v : Value} (h : wr.cell? a = some v) (hl : a.block < wr.heap.size) (hB : Below wr.heap.size wr W) : W.cell? a = some v := (hB.cell hl).trans h

set_option maxHeartbeats 2000000 in
set_option maxRecDepth 100000 in
theorem Decode_long (bk off len cap : Nat) (z : Nat → Int) (w : World) (h : 12 ≤ (len : Int)) (hl : len ≤ 9223372036854775807) (hm : Masks w) (ht : Twelve w bk off z) (hz : bits .and .i64 (z 2 * 256 + z 3) 112 = 0) :
    Calls Tryd.prog 48 #[.slice (some ⟨bk, off, none⟩) len cap] w fun e w' => e = .returned (.tuple #[.agg #[.int .i64 (z 0 * 256 + z 1), .bool (bits .and .i64 (z 2 * 256 + z 3) 32768 != 0), .int .i64 (bits .and .i64 ((z 2 * 256 + z 3) / 2048) 15), .bool (bits .and .i64 (z 2 * 256 + z 3) 1024 != 0), .bool (bits .and .i64 (z 2 * 256 + z 3) 512 != 0), .bool (bits .and .i64 (z 2 * 256 + z 3) 256 != 0), .bool (bits .and .i64 (z 2 * 256 + z 3) 128 != 0), .int .i64 (bits .and .i64 (z 2 * 256 + z 3) 15)], .agg #[.int .i64 (z 4 * 256 + z 5), .int .i64 (z 6 * 256 + z 7), .int .i64 (z 8 * 256 + z 9), .int .i64 (z 10 * 256 + z 11)], .int .i64 0]) ∧ Below w.heap.size w w' := by
  have hb := ht.lt
  have z0 : w.cell? ⟨bk, off, none⟩ = some (.int .u8 (z 0)) := ht.at' 0 (by omega)
  have z1 : w.cell? ⟨bk, off + 1, none⟩ = some (.int .u8 (z 1)) := ht.at' 1 (by omega)
  have z2 : w.cell? ⟨bk, off + 2, none⟩ = some (.int .u8 (z 2)) := ht.at' 2 (by omega)
  have z3 : w.cell? ⟨bk, off + 3, none⟩ = some (.int .u8 (z 3)) := ht.at' 3 (by omega)
  have z4 : w.cell? ⟨bk, off + 4, none⟩ = some (.int .u8 (z 4)) := ht.at' 4 (by omega)
  have z5 : w.cell? ⟨bk, off + 5, none⟩ = some (.int .u8 (z 5)) := ht.at' 5 (by omega)
  have z6 : w.cell? ⟨bk, off + 6, none⟩ = some (.int .u8 (z 6)) := ht.at' 6 (by omega)
  have z7 : w.cell? ⟨bk, off + 7, none⟩ = some (.int .u8 (z 7)) := ht.at' 7 (by omega)
  have z8 : w.cell? ⟨bk, off + 8, none⟩ = some (.int .u8 (z 8)) := ht.at' 8 (by omega)
  have z9 : w.cell? ⟨bk, off + 9, none⟩ = some (.int .u8 (z 9)) := ht.at' 9 (by omega)
  have z10 : w.cell? ⟨bk, off + 10, none⟩ = some (.int .u8 (z 10)) := ht.at' 10 (by omega)
  have z11 : w.cell? ⟨bk, off + 11, none⟩ = some (.int .u8 (z 11)) := ht.at' 11 (by omega)
  have b0 := ht.bd
  obtain ⟨m0, m1, m2, m3, m4, m5⟩ := hm
  clear ht
  have i0 := mask0
  have i1 := mask1
  have i2 := mask2
  have i3 := mask3
  have i4 := mask4
  go_enter Tryd.func48, Tryd.ntmps48
  go_wp2_with fail
  refine (number_at bk off len cap 2 _ (z 2) (z 3) _ (by rfl) (by omega) hl (by exact cellB hb z2 (by (repeat first | (with_reducible exact Below.refl _ _) | (with_reducible assumption) | (with_reducible refine below_drewN ?_ _) | (with_reducible refine Below.drew ?_) | (with_reducible refine Below.alloc ?_ (by go_size) _) | (with_reducible refine Below.setCell ?_ (by go_size) _)))) (by exact cellB hb z3 (by (repeat first | (with_reducible exact Below.refl _ _) | (with_reducible assumption) | (with_reducible refine below_drewN ?_ _) | (with_reducible refine Below.drew ?_) | (with_reducible refine Below.alloc ?_ (by go_size) _) | (with_reducible refine Below.setCell ?_ (by go_size) _)))) (b0 _) (b0 _)).mono ?_
  rintro e w' ⟨rfl, n, rfl⟩
  go_upto_block 0 with fail
  go_cut [] (fun wx => Dec w wx (ctAt (z 4 * 256 + z 5) (z 6 * 256 + z 7) (z 8 * 256 + z 9) (z 10 * 256 + z 11) 0) (bitsAt (z 2 * 256 + z 3) 5))
  case first =>
    go_wp2_with fail
    go_loopw [25] (fun v wr => ∃ k : Nat, k ≤ 5 ∧ v = .int .i64 k ∧ Dec w wr (ctAt (z 4 * 256 + z 5) (z 6 * 256 + z 7) (z 8 * 256 + z 9) (z 10 * 256 + z 11) 0) (bitsAt (z 2 * 256 + z 3) k)) (fun v _ => 5 - (intOf v).toNat)
    case atStart => exact ⟨0, by omega, rfl, by (repeat first | (with_reducible exact Below.refl _ _) | (with_reducible assumption) | (with_reducible refine below_drewN ?_ _) | (with_reducible refine Below.drew ?_) | (with_reducible refine Below.alloc ?_ (by go_size) _) | (with_reducible refine Below.setCell ?_ (by go_size) _)), by simp, (rows4 w _ _ _ _ n).1, (rows4 w _ _ _ _ n).2.1, (rows4 w _ _ _ _ n).2.2.1, (rows4 w _ _ _ _ n).2.2.2⟩
    case round =>
      obtain ⟨k, hk, rfl, hD⟩ := hrel
      have hk5 : k = 0 ∨ k = 1 ∨ k = 2 ∨ k = 3 ∨ k = 4 ∨ k = 5 := by omega
      rcases hk5 with rfl | rfl | rfl | rfl | rfl | rfl
      · obtain ⟨v0, e0, g0⟩ := hD.c7 0 (by omega)
        go_wp2_with fail
        refine ⟨⟨1, by omega, rfl, ?_⟩, by simp [intOf]⟩
        exact hD.set7 0 _
      · obtain ⟨v0, e0, g0⟩ := hD.c7 1 (by omega)
        go_wp2_with fail
        refine ⟨⟨2, by omega, rfl, ?_⟩, by simp [intOf]⟩
        exact hD.set7 1 _
      · obtain ⟨v0, e0, g0⟩ := hD.c7 2 (by omega)
        go_wp2_with fail
        refine ⟨⟨3, by omega, rfl, ?_⟩, by simp [intOf]⟩
        exact hD.set7 2 _
      · obtain ⟨v0, e0, g0⟩ := hD.c7 3 (by omega)
        go_wp2_with fail
        refine ⟨⟨4, by omega, rfl, ?_⟩, by simp [intOf]⟩
        exact hD.set7 3 _
      · obtain ⟨v0, e0, g0⟩ := hD.c7 4 (by omega)
        go_wp2_with fail
        refine ⟨⟨5, by omega, rfl, ?_⟩, by simp [intOf]⟩
        exact hD.set7 4 _
      · go_wp2_with fail
        go_meet
        exact hD
  case rest =>
    clear m0 m1 m2 m3 m4 i0 i1 i2 i3 i4
    have hD0 := hcut
    clear hcut
    go_upto_block 2 with fail
    go_cut [] (fun wx => Dec w wx (ctAt (z 4 * 256 + z 5) (z 6 * 256 + z 7) (z 8 * 256 + z 9) (z 10 * 256 + z 11) 4) (bitsAt (z 2 * 256 + z 3) 5))
    case first =>
      go_wp2_with fail
      go_loopw [36] (fun v wr => ∃ k : Nat, k ≤ 4 ∧ v = .int .i64 k ∧ Dec w wr (ctAt (z 4 * 256 + z 5) (z 6 * 256 + z 7) (z 8 * 256 + z 9) (z 10 * 256 + z 11) k) (bitsAt (z 2 * 256 + z 3) 5)) (fun v _ => 4 - (intOf v).toNat)
      case atStart => exact ⟨0, by omega, rfl, hD0⟩
      case round =>
        clear hD0
        obtain ⟨k, hk, rfl, hD⟩ := hrel
        have hk5 : k = 0 ∨ k = 1 ∨ k = 2 ∨ k = 3 ∨ k = 4 := by omega
        rcases hk5 with rfl | rfl | rfl | rfl | rfl
        · obtain ⟨v0, e0, g0⟩ := hD.c5 0 (by omega)
          have hB := hD.below
          go_wp2_with fail
          refine (number_at bk off len cap 4 _ (z 4) (z 5) _ (by rfl) (by omega) hl (by exact cellB hb z4 hB) (by exact cellB hb z5 hB) (b0 _) (b0 _)).mono ?_
          rintro e w' ⟨rfl, n1, rfl⟩
          go_wp2_with fail
          go_roundw
          case rel => first | exact ⟨1, by omega, rfl, (hD.drewN _).set5 0 _⟩ | ((repeat apply Exists.intro); exact ⟨⟨1, by omega, rfl, (hD.drewN _).set5 0 _⟩, rfl⟩)
          case measure => simp [intOf]
        · obtain ⟨v0, e0, g0⟩ := hD.c5 1 (by omega)
          have hB := hD.below
          go_wp2_with fail
          refine (number_at bk off len cap 6 _ (z 6) (z 7) _ (by rfl) (by omega) hl (by exact cellB hb z6 hB) (by exact cellB hb z7 hB) (b0 _) (b0 _)).mono ?_
          rintro e w' ⟨rfl, n2, rfl⟩
          go_wp2_with fail
          go_roundw
          case rel => first | exact ⟨2, by omega, rfl, (hD.drewN _).set5 1 _⟩ | ((repeat apply Exists.intro); exact ⟨⟨2, by omega, rfl, (hD.drewN _).set5 1 _⟩, rfl⟩)
          case measure => simp [intOf]
        · obtain ⟨v0, e0, g0⟩ := hD.c5 2 (by omega)
          have hB := hD.below
          go_wp2_with fail
          refine (number_at bk off len cap 8 _ (z 8) (z 9) _ (by rfl) (by omega) hl (by exact cellB hb z8 hB) (by exact cellB hb z9 hB) (b0 _) (b0 _)).mono ?_
          rintro e w' ⟨rfl, n3, rfl⟩
          go_wp2_with fail
          go_roundw
          case rel => first | exact ⟨3, by omega, rfl, (hD.drewN _).set5 2 _⟩ | ((repeat apply Exists.intro); exact ⟨⟨3, by omega, rfl, (hD.drewN _).set5 2 _⟩, rfl⟩)
          case measure => simp [intOf]
        · obtain ⟨v0, e0, g0⟩ := hD.c5 3 (by omega)
          have hB := hD.below
          go_wp2_with fail
          refine (number_at bk off len cap 10 _ (z 10) (z 11) _ (by rfl) (by omega) hl (by exact cellB hb z10 hB) (by exact cellB hb z11 hB) (b0 _) (b0 _)).mono ?_
          rintro e w' ⟨rfl, n4, rfl⟩
          go_wp2_with fail
          go_roundw
          case rel => first | exact ⟨4, by omega, rfl, (hD.drewN _).set5 3 _⟩ | ((repeat apply Exists.intro); exact ⟨⟨4, by omega, rfl, (hD.drewN _).set5 3 _⟩, rfl⟩)
          case measure => simp [intOf]
        · go_wp2_with fail
          go_meet
          exact hD
    case rest =>
      clear hD0
      go_upto_region 18 with fail
      go_cut [11] (fun s11 wx => ∃ g : Nat, s11 = .pointer (some ⟨g, 0, none⟩) ∧ Made w wx g (z 0 * 256 + z 1) ((bits .and .i64 (z 2 * 256 + z 3) 32768 != 0)) (bits .and .i64 ((z 2 * 256 + z 3) / 2048) 15) ((bits .and .i64 (z 2 * 256 + z 3) 1024 != 0)) ((bits .and .i64 (z 2 * 256 + z 3) 512 != 0)) ((bits .and .i64 (z 2 * 256 + z 3) 256 != 0)) ((bits .and .i64 (z 2 * 256 + z 3) 128 != 0)) (bits .and .i64 (z 2 * 256 + z 3) 15) (z 4 * 256 + z 5) (z 6 * 256 + z 7) (z 8 * 256 + z 9) (z 10 * 256 + z 11))
      case first =>
        have hD := hcut
        clear hcut
        have hB := hD.below
        have hS := hD.size
        obtain ⟨d0, d1, d2, d3, d4, _⟩ := cells5 hD.r7
        have hbr : bk < wc.heap.size := by have := hB.size; omega
        have R2 := Lib.hid hD.r2
        have R3 := Lib.hid hD.r3
        have R5 := Lib.hid hD.r5
        have y0 := (hB.cell (p := ⟨bk, off, none⟩) hb).trans z0
        have y1 := (hB.cell (p := ⟨bk, off + 1, none⟩) hb).trans z1
        clear hD z0 z1 z2 z3 z4 z5 z6 z7 z8 z9 z10 z11
        have q1 := fresh8N wc 23
        have q2 := fresh8 wc 23
        go_region_held3 (fun w' => w'.cell? ⟨w.heap.size + 1 + 1 + 1, 0, none⟩ = some (.bool (bits .and .i64 (z 2 * 256 + z 3) 32768 != 0)) ∧ w'.cell? ⟨w.heap.size + 1 + 1 + 1, 1, none⟩ = some (.bool (bits .and .i64 (z 2 * 256 + z 3) 1024 != 0)) ∧ w'.cell? ⟨w.heap.size + 1 + 1 + 1, 2, none⟩ = some (.bool (bits .and .i64 (z 2 * 256 + z 3) 512 != 0)) ∧ w'.cell? ⟨w.heap.size + 1 + 1 + 1, 3, none⟩ = some (.bool (bits .and .i64 (z 2 * 256 + z 3) 256 != 0)) ∧ w'.cell? ⟨w.heap.size + 1 + 1 + 1, 4, none⟩ = some (.bool (bits .and .i64 (z 2 * 256 + z 3) 128 != 0)) ∧ w'.cell? ⟨bk, off, none⟩ = some (.int .u8 (z 0)) ∧ w'.cell? ⟨bk, off + 1, none⟩ = some (.int .u8 (z 1)))
          (first | go_keep | (refine ⟨keepB d0 hS ?_, keepB d1 hS ?_, keepB d2 hS ?_, keepB d3 hS ?_, keepB d4 hS ?_, keepB y0 hbr ?_, keepB y1 hbr ?_⟩ <;> (repeat first | (with_reducible exact Below.refl _ _) | (with_reducible assumption) | (with_reducible refine below_drewN ?_ _) | (with_reducible refine Below.drew ?_) | (with_reducible refine Below.alloc ?_ (by go_size) _) | (with_reducible refine Below.setCell ?_ (by go_size) _))))
          (first | (go_at_call 87; refine (number_at bk off len cap 0 _ (z 0) (z 1) _ (by rfl) (by omega) hl (by exact keepB y0 hbr (by (repeat first | (with_reducible exact Below.refl _ _) | (with_reducible assumption) | (with_reducible refine below_drewN ?_ _) | (with_reducible refine Below.drew ?_) | (with_reducible refine Below.alloc ?_ (by go_size) _) | (with_reducible refine Below.setCell ?_ (by go_size) _)))) (by exact keepB y1 hbr (by (repeat first | (with_reducible exact Below.refl _ _) | (with_reducible assumption) | (with_reducible refine below_drewN ?_ _) | (with_reducible refine Below.drew ?_) | (with_reducible refine Below.alloc ?_ (by go_size) _) | (with_reducible refine Below.setCell ?_ (by go_size) _)))) (b0 _) (b0 _)).mono ?_; rintro e w' ⟨rfl, nn, rfl⟩))
        all_goals go_wp2_with fail
        all_goals go_meet
        all_goals
          have l0 : w.heap.size ≠ wc.heap.size := by omega
          have l1 : w.heap.size + 1 ≠ wc.heap.size := by omega
          have l2 : w.heap.size + 1 + 1 ≠ wc.heap.size := by omega
          refine ⟨wc.heap.size, rfl, ?_, ?_, ?_, ?_, ?_, by omega⟩
          · refine Below.trans hB ?_
            refine Below.mono (B := wc.heap.size) ?_ (by omega)
            (repeat first | (with_reducible exact Below.refl _ _) | (with_reducible assumption) | (with_reducible refine below_drewN ?_ _) | (with_reducible refine Below.drew ?_) | (with_reducible refine Below.alloc ?_ (by go_size) _) | (with_reducible refine Below.setCell ?_ (by go_size) _))
          · have r := R2.out
            (repeat first | (with_reducible assumption) | (with_reducible refine row_other _ ?_ (by omega)) | (with_reducible refine row_old _ ?_) | (with_reducible refine row_drew ?_) | (with_reducible refine row_drewN ?_))
          · have r := R3.out
            (repeat first | (with_reducible assumption) | (with_reducible refine row_other _ ?_ (by omega)) | (with_reducible refine row_old _ ?_) | (with_reducible refine row_drew ?_) | (with_reducible refine row_drewN ?_))
          · have r := R5.out
            (repeat first | (with_reducible assumption) | (with_reducible refine row_other _ ?_ (by omega)) | (with_reducible refine row_old _ ?_) | (with_reducible refine row_drew ?_) | (with_reducible refine row_drewN ?_))
            exact r
          · first | exact rowset8 (hrow_new _ rfl) | exact rowset8 (hrow_drewN (hrow_new _ rfl))
      case rest =>
        clear z0 z1 z2 z3 z4 z5 z6 z7 z8 z9 z10 z11
        obtain ⟨g, rfl, hM0⟩ := hcut
        obtain ⟨v0, v1, v2, v3, v4, v5, v6, v7, x0, x1, x2, x3, E, hM⟩ : ∃ v0 : Int, ∃ v1 : Bool, ∃ v2 : Int, ∃ v3 : Bool, ∃ v4 : Bool, ∃ v5 : Bool, ∃ v6 : Bool, ∃ v7 : Int, ∃ x0 : Int, ∃ x1 : Int, ∃ x2 : Int, ∃ x3 : Int, Hid (v0 = z 0 * 256 + z 1 ∧ v1 = (bits .and .i64 (z 2 * 256 + z 3) 32768 != 0) ∧ v2 = bits .and .i64 ((z 2 * 256 + z 3) / 2048) 15 ∧ v3 = (bits .and .i64 (z 2 * 256 + z 3) 1024 != 0) ∧ v4 = (bits .and .i64 (z 2 * 256 + z 3) 512 != 0) ∧ v5 = (bits .and .i64 (z 2 * 256 + z 3) 256 != 0) ∧ v6 = (bits .and .i64 (z 2 * 256 + z 3) 128 != 0) ∧ v7 = bits .and .i64 (z 2 * 256 + z 3) 15 ∧ x0 = z 4 * 256 + z 5 ∧ x1 = z 6 * 256 + z 7 ∧ x2 = z 8 * 256 + z 9 ∧ x3 = z 10 * 256 + z 11) ∧ Made w wc g v0 v1 v2 v3 v4 v5 v6 v7 x0 x1 x2 x3 := ⟨_, _, _, _, _, _, _, _, _, _, _, _, Lib.hid ⟨rfl, rfl, rfl, rfl, rfl, rfl, rfl, rfl, rfl, rfl, rfl, rfl⟩, hM0⟩
        clear hM0
        have hB := hM.below
        have c2 := cells8 hM.r2
        have c3 := cells4 hM.r3
        have c5 := cells4 hM.r5
        have c11 := cells8 hM.r11
        have gt := hM.gt
        have R2 := Lib.hid hM.r2
        have R3 := Lib.hid hM.r3
        clear hM
        go_wp2_with fail
        go_region
        all_goals go_wp2
        generalize hW : World.drew _ = W'
        have hB' : Below w.heap.size w W' := by rw [← hW]; (repeat first | (with_reducible exact Below.refl _ _) | (with_reducible assumption) | (with_reducible refine below_drewN ?_ _) | (with_reducible refine Below.drew ?_) | (with_reducible refine Below.alloc ?_ (by go_size) _) | (with_reducible refine Below.setCell ?_ (by go_size) _))
        have Q2 : W'.heap[w.heap.size]? = some (.cells #[.int .i64 v0, .bool v1, .int .i64 v2, .bool v3, .bool v4, .bool v5, .bool v6, .int .i64 v7] 23 (0, 0)) := by rw [← hW]; exact hrow_drew (stored R2.out R3.out).1
        have Q3 : W'.heap[w.heap.size + 1]? = some (.cells #[.int .i64 x0, .int .i64 x1, .int .i64 x2, .int .i64 x3] 63 (0, 0)) := by rw [← hW]; exact hrow_drew (stored R2.out R3.out).2
        clear hW R2 R3 c2 c3 c5 c11 hB
        refine bodyPost_ret (v := .tuple #[.agg #[.int .i64 v0, .bool v1, .int .i64 v2, .bool v3, .bool v4, .bool v5, .bool v6, .int .i64 v7], .agg #[.int .i64 x0, .int .i64 x1, .int .i64 x2, .int .i64 x3], .int .i64 0]) ?_ rfl ⟨?_, hB'⟩
        · exact results_two (g := w.heap.size) rfl rfl rfl Q2 Q3 rfl rfl rfl rfl
        · obtain ⟨e0, e1, e2, e3, e4, e5, e6, e7, e8, e9, e10, e11⟩ := E.out
          rw [e0, e1, e2, e3, e4, e5, e6, e7, e8, e9, e10, e11]

end Go.Proofs.YtknpkifhkefikaaDoor
