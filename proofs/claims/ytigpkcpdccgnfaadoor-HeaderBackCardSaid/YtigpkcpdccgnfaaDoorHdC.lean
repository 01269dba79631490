/-
  header.number, and header.Decode where it tells an error, by contracts.
-/
import Derived.Test.YtigpkcpdccgnfaaDoorHdA
import Derived.Test.YtigpkcpdccgnfaaDoorHdR
import Derived.Lib.Hide
namespace Go.Proofs.YtigpkcpdccgnfaaDoor
open Go.RowKit

set_option maxHeartbeats 400000 in
theorem number_any (bk off len cap : Nat) (i : Nat) (x y : Int) (w : World) (hi : (i : Int) + 1 < (len : Int)) (hl : len ≤ 9223372036854775807)
    (c0 : w.cell? ⟨bk, off + i, none⟩ = some (.int .u8 x)) (c1 : w.cell? ⟨bk, off + (i + 1), none⟩ = some (.int .u8 y)) (hx : 0 ≤ x ∧ x ≤ 255) (hy : 0 ≤ y ∧ y ≤ 255) :
    Calls Tryd.prog 18 #[.slice (some ⟨bk, off, none⟩) len cap, .int .i64 i] w fun e w' => e = .returned (.int .i64 (x * 256 + y)) ∧ ∃ n, w' = w.drewN n := by
  have h0 : (i : Int) < (len : Int) := by omega
  go_enter Tryd.func18, Tryd.ntmps18
  go_wp2
  go_quiet (fail)
  go_wp2
  go_ret
  exact ⟨ret_int (or256 x y hx hy), _, rfl⟩

theorem number_at (bk off len cap : Nat) (i : Nat) (j : Int) (x y : Int) (w : World) (hj : j = i) (hi : (i : Int) + 1 < (len : Int)) (hl : len ≤ 9223372036854775807)
    (c0 : w.cell? ⟨bk, off + i, none⟩ = some (.int .u8 x)) (c1 : w.cell? ⟨bk, off + (i + 1), none⟩ = some (.int .u8 y)) (hx : 0 ≤ x ∧ x ≤ 255) (hy : 0 ≤ y ∧ y ≤ 255) :
    Calls Tryd.prog 18 #[.slice (some ⟨bk, off, none⟩) len cap, .int .i64 j] w fun e w' => e = .returned (.int .i64 (x * 256 + y)) ∧ ∃ n, w' = w.drewN n := by
  subst hj; exact number_any bk off len cap i x y w hi hl c0 c1 hx hy

/-- Twelve bytes stand at a place. -/
structure Twelve (w : World) (bk off : Nat) (z : Nat → Int) : Prop where
  at' : ∀ i, i < 12 → w.cell? ⟨bk, off + i, none⟩ = some (.int .u8 (z i))
  bd : ∀ i, 0 ≤ z i ∧ z i ≤ 255
  lt : bk < w.heap.size

abbrev zeroH : Value := hdV 0 false 0 false false false false 0
abbrev zeroC : Value := ctV 0 0 0 0

theorem size_hd : (Tryd.prog.info? 23).map (·.size) = some 8 := by kernel_rfl
theorem size_ct : (Tryd.prog.info? 24).map (·.size) = some 4 := by kernel_rfl
theorem results_two {a b c : Value} {tmps : Array Value} {W : World} {g : Nat} {cs ds : Array Value} (h2 : tmps.getD 2 undef = .pointer (some ⟨g, 0, none⟩)) (h3 : tmps.getD 3 undef = .pointer (some ⟨g + 1, 0, none⟩)) (h4 : tmps.getD 4 undef = c)
    (r2 : W.heap[g]? = some (.cells cs 23 (0, 0))) (r3 : W.heap[g + 1]? = some (.cells ds 24 (0, 0))) (hs : cs.size = 8) (hd : ds.size = 4) (ha : a = .agg cs) (hb : b = .agg ds) :
    (results Tryd.f12 tmps).run Tryd.prog W = .ok (.tuple #[a, b, c]) W := by
  have q0 : (loadVar 23 ⟨g, 0, none⟩).run Tryd.prog W = .ok (.agg cs) W := run_loadVar_row W g 23 23 cs (0, 0) _ r2 Tryd.underlying23 rfl (by rw [hs]; exact size_hd)
  have q1 : (loadVar 24 ⟨g + 1, 0, none⟩).run Tryd.prog W = .ok (.agg ds) W := run_loadVar_row W (g + 1) 24 24 ds (0, 0) _ r3 Tryd.underlying24 rfl (by rw [hd]; exact size_ct)
  subst ha hb h4
  have h2' : tmps[2]?.getD undef = .pointer (some ⟨g, 0, none⟩) := by simpa using h2
  have h3' : tmps[3]?.getD undef = .pointer (some ⟨g + 1, 0, none⟩) := by simpa using h3
  simp [results, Tryd.results12, asAddr, h2', h3', q0, q1]

set_option maxHeartbeats 400000 in
theorem Decode_short (a : Option Addr) (len cap : Nat) (w : World) (h : (len : Int) < 12) :
    Calls Tryd.prog 12 #[.slice a len cap] w fun e w' => e = .returned (.tuple #[zeroH, zeroC, .int .i64 20]) ∧ Below w.heap.size w w' := by
  go_enter Tryd.func12, Tryd.ntmps12
  go_wp2
  go_region
  all_goals go_wp2
  go_returns
  exact ⟨rfl, by go_grown⟩

abbrev masksV : Value := .agg #[.int .i64 32768, .int .i64 1024, .int .i64 512, .int .i64 256, .int .i64 128]
theorem mask0 (w : World) : (Instr.index 39 (.agg #[.int .i64 32768, .int .i64 1024, .int .i64 512, .int .i64 256, .int .i64 128]) (.int .i64 0)).run Tryd.prog w = .ok (.int .i64 32768) w := by kernel_rfl
theorem mask1 (w : World) : (Instr.index 39 (.agg #[.int .i64 32768, .int .i64 1024, .int .i64 512, .int .i64 256, .int .i64 128]) (.int .i64 1)).run Tryd.prog w = .ok (.int .i64 1024) w := by kernel_rfl
theorem mask2 (w : World) : (Instr.index 39 (.agg #[.int .i64 32768, .int .i64 1024, .int .i64 512, .int .i64 256, .int .i64 128]) (.int .i64 2)).run Tryd.prog w = .ok (.int .i64 512) w := by kernel_rfl
theorem mask3 (w : World) : (Instr.index 39 (.agg #[.int .i64 32768, .int .i64 1024, .int .i64 512, .int .i64 256, .int .i64 128]) (.int .i64 3)).run Tryd.prog w = .ok (.int .i64 256) w := by kernel_rfl
theorem mask4 (w : World) : (Instr.index 39 (.agg #[.int .i64 32768, .int .i64 1024, .int .i64 512, .int .i64 256, .int .i64 128]) (.int .i64 4)).run Tryd.prog w = .ok (.int .i64 128) w := by kernel_rfl

/-- What stands in the blocks that Decode makes: the two results, the counts, the bits. -/
structure Dec (w wr : World) (cs5 cs7 : Array Value) : Prop where
  below : Below w.heap.size w wr
  size : w.heap.size + 1 + 1 + 1 < wr.heap.size
  r2 : wr.heap[w.heap.size]? = some (.cells #[.int .i64 0, .bool false, .int .i64 0, .bool false, .bool false, .bool false, .bool false, .int .i64 0] 23 (0, 0))
  r3 : wr.heap[w.heap.size + 1]? = some (.cells #[.int .i64 0, .int .i64 0, .int .i64 0, .int .i64 0] 24 (0, 0))
  r5 : wr.heap[w.heap.size + 1 + 1]? = some (.cells cs5 24 (0, 0))
  r7 : wr.heap[w.heap.size + 1 + 1 + 1]? = some (.cells cs7 38 (0, 0))

theorem Dec.drewN {w wr : World} {a b : Array Value} (h : Dec w wr a b) (n : Nat) : Dec w (wr.drewN n) a b :=
  ⟨below_drewN h.below n, h.size, h.r2, h.r3, h.r5, h.r7⟩
theorem Dec.set7 {w wr : World} {a b : Array Value} (h : Dec w wr a b) (i : Nat) (v : Value) : Dec w (wr.setCell ⟨w.heap.size + 1 + 1 + 1, i, none⟩ v) a (b.setIfInBounds i v) :=
  ⟨h.below.setCell (by simp; omega) _, by simpa using h.size, (heap_setCell_other _ _ _ _ (by simp; omega)).trans h.r2, (heap_setCell_other _ _ _ _ (by simp)).trans h.r3, (heap_setCell_other _ _ _ _ (by simp)).trans h.r5, heap_setCell_same _ _ _ _ _ _ h.r7⟩
theorem Dec.set5 {w wr : World} {a b : Array Value} (h : Dec w wr a b) (i : Nat) (v : Value) : Dec w (wr.setCell ⟨w.heap.size + 1 + 1, i, none⟩ v) (a.setIfInBounds i v) b :=
  ⟨h.below.setCell (by simp; omega) _, by simpa using h.size, (heap_setCell_other _ _ _ _ (by simp; omega)).trans h.r2, (heap_setCell_other _ _ _ _ (by simp)).trans h.r3, heap_setCell_same _ _ _ _ _ _ h.r5, (heap_setCell_other _ _ _ _ (by simp)).trans h.r7⟩

/-- The bits and the counts, behind k rounds. -/
def bitsAt (fl : Int) : Nat → Array Value
  | 0 => #[.bool false, .bool false, .bool false, .bool false, .bool false]
  | 1 => #[.bool (bits .and .i64 fl 32768 != 0), .bool false, .bool false, .bool false, .bool false]
  | 2 => #[.bool (bits .and .i64 fl 32768 != 0), .bool (bits .and .i64 fl 1024 != 0), .bool false, .bool false, .bool false]
  | 3 => #[.bool (bits .and .i64 fl 32768 != 0), .bool (bits .and .i64 fl 1024 != 0), .bool (bits .and .i64 fl 512 != 0), .bool false, .bool false]
  | 4 => #[.bool (bits .and .i64 fl 32768 != 0), .bool (bits .and .i64 fl 1024 != 0), .bool (bits .and .i64 fl 512 != 0), .bool (bits .and .i64 fl 256 != 0), .bool false]
  | _ => #[.bool (bits .and .i64 fl 32768 != 0), .bool (bits .and .i64 fl 1024 != 0), .bool (bits .and .i64 fl 512 != 0), .bool (bits .and .i64 fl 256 != 0), .bool (bits .and .i64 fl 128 != 0)]
def ctAt (n0 n1 n2 n3 : Int) : Nat → Array Value
  | 0 => #[.int .i64 0, .int .i64 0, .int .i64 0, .int .i64 0]
  | 1 => #[.int .i64 n0, .int .i64 0, .int .i64 0, .int .i64 0]
  | 2 => #[.int .i64 n0, .int .i64 n1, .int .i64 0, .int .i64 0]
  | 3 => #[.int .i64 n0, .int .i64 n1, .int .i64 n2, .int .i64 0]
  | _ => #[.int .i64 n0, .int .i64 n1, .int .i64 n2, .int .i64 n3]

theorem Dec.c7 {w wr : World} {a : Array Value} {fl : Int} {k : Nat} (h : Dec w wr a (bitsAt fl k)) (i : Nat) (hi : i < 5) : ∃ v, wr.cell? ⟨w.heap.size + 1 + 1 + 1, i, none⟩ = some v ∧ wr.frozen? ⟨w.heap.size + 1 + 1 + 1, i, none⟩ = false := by
  have hs : (bitsAt fl k).size = 5 := by unfold bitsAt; split <;> rfl
  exact ⟨(bitsAt fl k)[i], by rw [cell_of_row _ _ _ _ _ _ h.r7]; simp [hs, hi], frozen_of_row _ _ _ _ _ h.r7⟩
theorem Dec.c5 {w wr : World} {b : Array Value} {n0 n1 n2 n3 : Int} {k : Nat} (h : Dec w wr (ctAt n0 n1 n2 n3 k) b) (i : Nat) (hi : i < 4) : ∃ v, wr.cell? ⟨w.heap.size + 1 + 1, i, none⟩ = some v ∧ wr.frozen? ⟨w.heap.size + 1 + 1, i, none⟩ = false := by
  have hs : (ctAt n0 n1 n2 n3 k).size = 4 := by unfold ctAt; split <;> rfl
  exact ⟨(ctAt n0 n1 n2 n3 k)[i], by rw [cell_of_row _ _ _ _ _ _ h.r5]; simp [hs, hi], frozen_of_row _ _ _ _ _ h.r5⟩

set_option maxHeartbeats 1000000 in
set_option maxRecDepth 100000 in
theorem Decode_bits (bk off len cap : Nat) (z : Nat → Int) (w : World) (h : 12 ≤ (len : Int)) (hl : len ≤ 9223372036854775807) (hm : Masks w) (ht : Twelve w bk off z) (hz : bits .and .i64 (z 2 * 256 + z 3) 112 ≠ 0) :
    Calls Tryd.prog 12 #[.slice (some ⟨bk, off, none⟩) len cap] w fun e w' => e = .returned (.tuple #[zeroH, zeroC, .int .i64 21]) ∧ Below w.heap.size w w' := by
  have hb := ht.lt
  have z2 : w.cell? ⟨bk, off + 2, none⟩ = some (.int .u8 (z 2)) := ht.at' 2 (by omega)
  have z3 : w.cell? ⟨bk, off + 3, none⟩ = some (.int .u8 (z 3)) := ht.at' 3 (by omega)
  have b0 := ht.bd
  clear ht
  have hz' : (bits .and .i64 (z 2 * 256 + z 3) 112 != 0) = true := by simp [hz]
  go_enter Tryd.func12, Tryd.ntmps12
  go_wp2_with fail
  refine (number_at bk off len cap 2 _ (z 2) (z 3) _ (by rfl) (by omega) hl (by exact cellB hb z2 (by (repeat first | (with_reducible exact Below.refl _ _) | (with_reducible assumption) | (with_reducible refine below_drewN ?_ _) | (with_reducible refine Below.drew ?_) | (with_reducible refine Below.alloc ?_ (by go_size) _) | (with_reducible refine Below.setCell ?_ (by go_size) _)))) (by exact cellB hb z3 (by (repeat first | (with_reducible exact Below.refl _ _) | (with_reducible assumption) | (with_reducible refine below_drewN ?_ _) | (with_reducible refine Below.drew ?_) | (with_reducible refine Below.alloc ?_ (by go_size) _) | (with_reducible refine Below.setCell ?_ (by go_size) _)))) (b0 _) (b0 _)).mono ?_
  rintro e w' ⟨rfl, n, rfl⟩
  generalize hW : World.drewN _ n = W
  have hB : Below w.heap.size w W := by rw [← hW]; (repeat first | (with_reducible exact Below.refl _ _) | (with_reducible assumption) | (with_reducible refine below_drewN ?_ _) | (with_reducible refine Below.drew ?_) | (with_reducible refine Below.alloc ?_ (by go_size) _) | (with_reducible refine Below.setCell ?_ (by go_size) _))
  have r2 : W.heap[w.heap.size]? = some (.cells #[.int .i64 0, .bool false, .int .i64 0, .bool false, .bool false, .bool false, .bool false, .int .i64 0] 23 (0, 0)) := by rw [← hW]; exact (rows3 w _ _ _ n).1
  have r3 : W.heap[w.heap.size + 1]? = some (.cells #[.int .i64 0, .int .i64 0, .int .i64 0, .int .i64 0] 24 (0, 0)) := by rw [← hW]; exact (rows3 w _ _ _ n).2.1
  have r5 : W.heap[w.heap.size + 1 + 1]? = some (.cells #[.int .i64 0, .int .i64 0, .int .i64 0, .int .i64 0] 24 (0, 0)) := by rw [← hW]; exact (rows3 w _ _ _ n).2.2
  have c2 := cells8 r2
  have c3 := cells4 r3
  have c5 := cells4 r5
  have R2 := Lib.hid r2
  have R3 := Lib.hid r3
  clear r2 r3 r5 hW
  go_wp2_with fail
  go_region
  all_goals go_wp2
  generalize hW' : World.drew _ = W'
  have hB' : Below w.heap.size w W' := by rw [← hW']; (repeat first | (with_reducible exact Below.refl _ _) | (with_reducible assumption) | (with_reducible refine below_drewN ?_ _) | (with_reducible refine Below.drew ?_) | (with_reducible refine Below.alloc ?_ (by go_size) _) | (with_reducible refine Below.setCell ?_ (by go_size) _))
  have Q2 : W'.heap[w.heap.size]? = some (.cells #[.int .i64 0, .bool false, .int .i64 0, .bool false, .bool false, .bool false, .bool false, .int .i64 0] 23 (0, 0)) := by rw [← hW']; exact row_drew (stored R2.out R3.out).1
  have Q3 : W'.heap[w.heap.size + 1]? = some (.cells #[.int .i64 0, .int .i64 0, .int .i64 0, .int .i64 0] 24 (0, 0)) := by rw [← hW']; exact row_drew (stored R2.out R3.out).2
  clear hW' R2 R3 c2 c3 c5 hB
  refine bodyPost_ret (v := .tuple #[zeroH, zeroC, .int .i64 21]) ?_ rfl ⟨rfl, hB'⟩
  exact results_two (g := w.heap.size) rfl rfl rfl Q2 Q3 rfl rfl rfl rfl

end Go.Proofs.YtigpkcpdccgnfaaDoor
