/-
  The document's own Decode of bytes that are a header.
-/
import Derived.Test.YtigpkcpdccgnfaaDoorHdT
namespace Go.Proofs.YtigpkcpdccgnfaaDoor
open Go.RowKit

/-- How the document's Decode takes the flags apart. -/
structure Bits (F : Int) (r : Bool) (o : Int) (aa tc rd ra : Bool) (c : Int) : Prop where
  er : (bits .and .i64 (F / 32768) 1 == 1) = r
  eo : bits .and .i64 (F / 2048) 15 = o
  eaa : (bits .and .i64 (F / 1024) 1 == 1) = aa
  etc : (bits .and .i64 (F / 512) 1 == 1) = tc
  erd : (bits .and .i64 (F / 256) 1 == 1) = rd
  era : (bits .and .i64 (F / 128) 1 == 1) = ra
  ec : bits .and .i64 F 15 = c

set_option maxHeartbeats 2000000 in
set_option maxRecDepth 100000 in
theorem refDecode_ok (bk off len cap : Nat) (z : Nat → Int) (i F n0 n1 n2 n3 : Int) (r : Bool) (o : Int) (aa tc rd ra : Bool) (c : Int) (w : World) (h : 12 ≤ (len : Int)) (hl : len ≤ 9223372036854775807) (ht : Twelve w bk off z) (hw : Words z i F n0 n1 n2 n3)
    (hz : (bits .and .i64 (F / 16) 7 != 0) = false) (bF : 0 ≤ F ∧ F ≤ 65535) (hb' : Bits F r o aa tc rd ra c) :
    Calls Tryd.prog 13 #[.slice (some ⟨bk, off, none⟩) len cap] w fun e w' => e = .returned (.tuple #[hdV i r o aa tc rd ra c, ctV n0 n1 n2 n3, .int .i64 0]) ∧ Below w.heap.size w w' := by
  have hb := ht.lt
  have b0 := ht.bd
  go_enter Tryd.func13, Tryd.ntmps13
  go_upto_block 0 with fail
  go_cut [] (fun wx => Ref3 w wx (numAt i F n0 n1 n2 n3 6))
  case first =>
    go_wp2_with fail
    go_loopw [14] (fun v wr => ∃ k : Nat, k ≤ 6 ∧ v = .int .i64 k ∧ Ref3 w wr (numAt i F n0 n1 n2 n3 k)) (fun v _ => 6 - (intOf v).toNat)
    case atStart => exact ⟨0, by omega, rfl, by (repeat first | (with_reducible exact Below.refl _ _) | (with_reducible assumption) | (with_reducible refine below_drewN ?_ _) | (with_reducible refine Below.drew ?_) | (with_reducible refine Below.alloc ?_ (by go_size) _) | (with_reducible refine Below.setCell ?_ (by go_size) _)), by simp, (rows3 w _ _ _ 0).1, (rows3 w _ _ _ 0).2.1, (rows3 w _ _ _ 0).2.2⟩
    case round =>
      obtain ⟨k, hk, hv, hD⟩ := hrel
      have hB := hD.below
      have hbr : bk < wr.heap.size := by have := hB.size; omega
      have sZ := hD.size
      have nq : bk ≠ w.heap.size + 1 + 1 := by omega
      have hk5 : k = 0 ∨ k = 1 ∨ k = 2 ∨ k = 3 ∨ k = 4 ∨ k = 5 ∨ k = 6 := by omega
      rcases hk5 with rfl | rfl | rfl | rfl | rfl | rfl | rfl
      · obtain rfl : u14 = .int .i64 0 := hv
        obtain ⟨v0, e0, g0⟩ := hD.c5 0 (by omega)
        have ya : wr.cell? ⟨bk, off, none⟩ = some (.int .u8 (z 0)) := (ht.below hB).at' 0 (by omega)
        have yb : wr.cell? ⟨bk, off + 1, none⟩ = some (.int .u8 (z 1)) := (ht.below hB).at' 1 (by omega)
        have ba := b0 0
        have bb := b0 1
        have p0 : IntKind.i64.wrap 0 = 0 := by decide
        have q0 : 0 ≤ IntKind.i64.wrap 0 ∧ IntKind.i64.wrap 0 < (len : Int) := by rw [p0]; omega
        have q1 : (IntKind.i64.wrap 0).toNat = 0 := by rw [p0]; rfl
        have q2 : 0 ≤ IntKind.i64.wrap (IntKind.i64.wrap 0 + 1) ∧ IntKind.i64.wrap (IntKind.i64.wrap 0 + 1) < (len : Int) := by rw [p0, show IntKind.i64.wrap (0 + 1) = 1 from by decide]; omega
        have q3 : (IntKind.i64.wrap (IntKind.i64.wrap 0 + 1)).toNat = 1 := by rw [p0]; decide
        clear p0
        have p1 : IntKind.i64.wrap 1 = 1 := by decide
        have p4 : IntKind.i64.wrap (z 0) = z 0 := IntWalk.i64_in _ ⟨by omega, by omega⟩
        have p5 : IntKind.i64.wrap (z 1) = z 1 := IntWalk.i64_in _ ⟨by omega, by omega⟩
        have p2 : IntKind.i64.wrap (z 0 * 256) = z 0 * 256 := IntWalk.i64_in _ ⟨by omega, by omega⟩
        have p3 : IntKind.i64.wrap i = i := IntWalk.i64_in _ (by have := hw.w0; constructor <;> omega)
        have la' : (0 : Int) < (len : Int) := by omega
        have lb' : (1 : Int) < (len : Int) := by omega
        have ew := hw.w0
        go_wp2_with fail
        go_still_tail 17, (by kernel_rfl)
        change wpList _ _ _ _ _ wr.drew
        go_wp2_with fail
        have hS := hD.step 0 (.int .i64 i)
        go_roundw
        case rel => first | exact ⟨1, by omega, rfl, hS⟩ | ((repeat apply Exists.intro); exact ⟨⟨1, by omega, rfl, hS⟩, rfl⟩)
        case measure => simp [intOf]
      · obtain rfl : u14 = .int .i64 1 := hv
        obtain ⟨v0, e0, g0⟩ := hD.c5 1 (by omega)
        have ya : wr.cell? ⟨bk, off + 2, none⟩ = some (.int .u8 (z 2)) := (ht.below hB).at' 2 (by omega)
        have yb : wr.cell? ⟨bk, off + 3, none⟩ = some (.int .u8 (z 3)) := (ht.below hB).at' 3 (by omega)
        have ba := b0 2
        have bb := b0 3
        have p0 : IntKind.i64.wrap 2 = 2 := by decide
        have p1 : IntKind.i64.wrap 3 = 3 := by decide
        have p4 : IntKind.i64.wrap (z 2) = z 2 := IntWalk.i64_in _ ⟨by omega, by omega⟩
        have p5 : IntKind.i64.wrap (z 3) = z 3 := IntWalk.i64_in _ ⟨by omega, by omega⟩
        have p2 : IntKind.i64.wrap (z 2 * 256) = z 2 * 256 := IntWalk.i64_in _ ⟨by omega, by omega⟩
        have p3 : IntKind.i64.wrap F = F := IntWalk.i64_in _ (by have := hw.w1; constructor <;> omega)
        have la' : (2 : Int) < (len : Int) := by omega
        have lb' : (3 : Int) < (len : Int) := by omega
        have ew := hw.w1
        go_wp2_with fail
        go_still_tail 17, (by kernel_rfl)
        change wpList _ _ _ _ _ wr.drew
        go_wp2_with fail
        have hS := hD.step 1 (.int .i64 F)
        go_roundw
        case rel => first | exact ⟨2, by omega, rfl, hS⟩ | ((repeat apply Exists.intro); exact ⟨⟨2, by omega, rfl, hS⟩, rfl⟩)
        case measure => simp [intOf]
      · obtain rfl : u14 = .int .i64 2 := hv
        obtain ⟨v0, e0, g0⟩ := hD.c5 2 (by omega)
        have ya : wr.cell? ⟨bk, off + 4, none⟩ = some (.int .u8 (z 4)) := (ht.below hB).at' 4 (by omega)
        have yb : wr.cell? ⟨bk, off + 5, none⟩ = some (.int .u8 (z 5)) := (ht.below hB).at' 5 (by omega)
        have ba := b0 4
        have bb := b0 5
        have p0 : IntKind.i64.wrap 4 = 4 := by decide
        have p1 : IntKind.i64.wrap 5 = 5 := by decide
        have p4 : IntKind.i64.wrap (z 4) = z 4 := IntWalk.i64_in _ ⟨by omega, by omega⟩
        have p5 : IntKind.i64.wrap (z 5) = z 5 := IntWalk.i64_in _ ⟨by omega, by omega⟩
        have p2 : IntKind.i64.wrap (z 4 * 256) = z 4 * 256 := IntWalk.i64_in _ ⟨by omega, by omega⟩
        have p3 : IntKind.i64.wrap n0 = n0 := IntWalk.i64_in _ (by have := hw.w2; constructor <;> omega)
        have la' : (4 : Int) < (len : Int) := by omega
        have lb' : (5 : Int) < (len : Int) := by omega
        have ew := hw.w2
        go_wp2_with fail
        go_still_tail 17, (by kernel_rfl)
        change wpList _ _ _ _ _ wr.drew
        go_wp2_with fail
        have hS := hD.step 2 (.int .i64 n0)
        go_roundw
        case rel => first | exact ⟨3, by omega, rfl, hS⟩ | ((repeat apply Exists.intro); exact ⟨⟨3, by omega, rfl, hS⟩, rfl⟩)
        case measure => simp [intOf]
      · obtain rfl : u14 = .int .i64 3 := hv
        obtain ⟨v0, e0, g0⟩ := hD.c5 3 (by omega)
        have ya : wr.cell? ⟨bk, off + 6, none⟩ = some (.int .u8 (z 6)) := (ht.below hB).at' 6 (by omega)
        have yb : wr.cell? ⟨bk, off + 7, none⟩ = some (.int .u8 (z 7)) := (ht.below hB).at' 7 (by omega)
        have ba := b0 6
        have bb := b0 7
        have p0 : IntKind.i64.wrap 6 = 6 := by decide
        have p1 : IntKind.i64.wrap 7 = 7 := by decide
        have p4 : IntKind.i64.wrap (z 6) = z 6 := IntWalk.i64_in _ ⟨by omega, by omega⟩
        have p5 : IntKind.i64.wrap (z 7) = z 7 := IntWalk.i64_in _ ⟨by omega, by omega⟩
        have p2 : IntKind.i64.wrap (z 6 * 256) = z 6 * 256 := IntWalk.i64_in _ ⟨by omega, by omega⟩
        have p3 : IntKind.i64.wrap n1 = n1 := IntWalk.i64_in _ (by have := hw.w3; constructor <;> omega)
        have la' : (6 : Int) < (len : Int) := by omega
        have lb' : (7 : Int) < (len : Int) := by omega
        have ew := hw.w3
        go_wp2_with fail
        go_still_tail 17, (by kernel_rfl)
        change wpList _ _ _ _ _ wr.drew
        go_wp2_with fail
        have hS := hD.step 3 (.int .i64 n1)
        go_roundw
        case rel => first | exact ⟨4, by omega, rfl, hS⟩ | ((repeat apply Exists.intro); exact ⟨⟨4, by omega, rfl, hS⟩, rfl⟩)
        case measure => simp [intOf]
      · obtain rfl : u14 = .int .i64 4 := hv
        obtain ⟨v0, e0, g0⟩ := hD.c5 4 (by omega)
        have ya : wr.cell? ⟨bk, off + 8, none⟩ = some (.int .u8 (z 8)) := (ht.below hB).at' 8 (by omega)
        have yb : wr.cell? ⟨bk, off + 9, none⟩ = some (.int .u8 (z 9)) := (ht.below hB).at' 9 (by omega)
        have ba := b0 8
        have bb := b0 9
        have p0 : IntKind.i64.wrap 8 = 8 := by decide
        have p1 : IntKind.i64.wrap 9 = 9 := by decide
        have p4 : IntKind.i64.wrap (z 8) = z 8 := IntWalk.i64_in _ ⟨by omega, by omega⟩
        have p5 : IntKind.i64.wrap (z 9) = z 9 := IntWalk.i64_in _ ⟨by omega, by omega⟩
        have p2 : IntKind.i64.wrap (z 8 * 256) = z 8 * 256 := IntWalk.i64_in _ ⟨by omega, by omega⟩
        have p3 : IntKind.i64.wrap n2 = n2 := IntWalk.i64_in _ (by have := hw.w4; constructor <;> omega)
        have la' : (8 : Int) < (len : Int) := by omega
        have lb' : (9 : Int) < (len : Int) := by omega
        have ew := hw.w4
        go_wp2_with fail
        go_still_tail 17, (by kernel_rfl)
        change wpList _ _ _ _ _ wr.drew
        go_wp2_with fail
        have hS := hD.step 4 (.int .i64 n2)
        go_roundw
        case rel => first | exact ⟨5, by omega, rfl, hS⟩ | ((repeat apply Exists.intro); exact ⟨⟨5, by omega, rfl, hS⟩, rfl⟩)
        case measure => simp [intOf]
      · obtain rfl : u14 = .int .i64 5 := hv
        obtain ⟨v0, e0, g0⟩ := hD.c5 5 (by omega)
        have ya : wr.cell? ⟨bk, off + 10, none⟩ = some (.int .u8 (z 10)) := (ht.below hB).at' 10 (by omega)
        have yb : wr.cell? ⟨bk, off + 11, none⟩ = some (.int .u8 (z 11)) := (ht.below hB).at' 11 (by omega)
        have ba := b0 10
        have bb := b0 11
        have p0 : IntKind.i64.wrap 10 = 10 := by decide
        have p1 : IntKind.i64.wrap 11 = 11 := by decide
        have p4 : IntKind.i64.wrap (z 10) = z 10 := IntWalk.i64_in _ ⟨by omega, by omega⟩
        have p5 : IntKind.i64.wrap (z 11) = z 11 := IntWalk.i64_in _ ⟨by omega, by omega⟩
        have p2 : IntKind.i64.wrap (z 10 * 256) = z 10 * 256 := IntWalk.i64_in _ ⟨by omega, by omega⟩
        have p3 : IntKind.i64.wrap n3 = n3 := IntWalk.i64_in _ (by have := hw.w5; constructor <;> omega)
        have la' : (10 : Int) < (len : Int) := by omega
        have lb' : (11 : Int) < (len : Int) := by omega
        have ew := hw.w5
        go_wp2_with fail
        go_still_tail 17, (by kernel_rfl)
        change wpList _ _ _ _ _ wr.drew
        go_wp2_with fail
        have hS := hD.step 5 (.int .i64 n3)
        go_roundw
        case rel => first | exact ⟨6, by omega, rfl, hS⟩ | ((repeat apply Exists.intro); exact ⟨⟨6, by omega, rfl, hS⟩, rfl⟩)
        case measure => simp [intOf]
      · obtain rfl : u14 = .int .i64 6 := hv
        go_wp2_with fail
        go_meet
        exact hD
  case rest =>
    have hB := hcut.below
    have sZ := hcut.size
    have R2 := Lib.hid hcut.r2
    have R3 := Lib.hid hcut.r3
    have c2 := cells8 hcut.r2
    have c3 := cells4 hcut.r3
    have c5 := cells6 hcut.r5
    have R5 := Lib.hid hcut.r5
    clear hcut ht
    obtain ⟨er, eo, eaa, etc, erd, era, ec⟩ := hb'
    go_upto_region 13 with fail
    generalize hW : World.alloc wc _ = W
    have lW : w.heap.size + 1 + 1 < wc.heap.size := sZ
    have rS : W.heap[wc.heap.size]? = some (.cells #[.int .i64 i, .bool r, .int .i64 o, .bool aa, .bool tc, .bool rd, .bool ra, .int .i64 c] 23 (0, 0)) := by rw [← hW]; exact row_new _ rfl
    have s2 : W.heap[w.heap.size]? = some (.cells #[.int .i64 0, .bool false, .int .i64 0, .bool false, .bool false, .bool false, .bool false, .int .i64 0] 23 (0, 0)) := by rw [← hW]; exact row_old _ R2.out
    have s3 : W.heap[w.heap.size + 1]? = some (.cells #[.int .i64 0, .int .i64 0, .int .i64 0, .int .i64 0] 24 (0, 0)) := by rw [← hW]; exact row_old _ R3.out
    have s5 : W.heap[w.heap.size + 1 + 1]? = some (.cells #[.int .i64 i, .int .i64 F, .int .i64 n0, .int .i64 n1, .int .i64 n2, .int .i64 n3] 44 (0, 0)) := by rw [← hW]; exact row_old _ R5.out
    have hBW : Below w.heap.size w W := by rw [← hW]; exact hB.alloc (by omega) _
    have x0 : w.heap.size ≠ wc.heap.size := by omega
    have x1 : w.heap.size + 1 ≠ wc.heap.size := by omega
    have x2 : w.heap.size + 1 + 1 ≠ wc.heap.size := by omega
    clear hW R2 R3 R5 c2 c3 c5 hB er eo eaa etc erd era ec
    have d2 := cells8 s2
    have d3 := cells4 s3
    obtain ⟨k0, k1, k2, k3, k4, k5, _⟩ := cells6 s5
    obtain ⟨g0, g1, g2, g3, g4, g5, g6, g7, _⟩ := cells8 rS
    have R2 := Lib.hid s2
    have R3 := Lib.hid s3
    clear s2 s3 s5 rS
    go_region_held3 (fun w' => w'.cell? ⟨w.heap.size + 1 + 1, 2, none⟩ = some (.int .i64 n0) ∧ w'.cell? ⟨w.heap.size + 1 + 1, 3, none⟩ = some (.int .i64 n1) ∧ w'.cell? ⟨w.heap.size + 1 + 1, 4, none⟩ = some (.int .i64 n2) ∧ w'.cell? ⟨w.heap.size + 1 + 1, 5, none⟩ = some (.int .i64 n3) ∧ w'.cell? ⟨wc.heap.size, 0, none⟩ = some (.int .i64 i) ∧ w'.cell? ⟨wc.heap.size, 1, none⟩ = some (.bool r) ∧ w'.cell? ⟨wc.heap.size, 2, none⟩ = some (.int .i64 o) ∧ w'.cell? ⟨wc.heap.size, 3, none⟩ = some (.bool aa) ∧ w'.cell? ⟨wc.heap.size, 4, none⟩ = some (.bool tc) ∧ w'.cell? ⟨wc.heap.size, 5, none⟩ = some (.bool rd) ∧ w'.cell? ⟨wc.heap.size, 6, none⟩ = some (.bool ra) ∧ w'.cell? ⟨wc.heap.size, 7, none⟩ = some (.int .i64 c))
      (first | ((refine ⟨(World.cell?_of_block (w := W) ?_).trans k2, (World.cell?_of_block (w := W) ?_).trans k3, (World.cell?_of_block (w := W) ?_).trans k4, (World.cell?_of_block (w := W) ?_).trans k5, (World.cell?_of_block (w := W) ?_).trans g0, (World.cell?_of_block (w := W) ?_).trans g1, (World.cell?_of_block (w := W) ?_).trans g2, (World.cell?_of_block (w := W) ?_).trans g3, (World.cell?_of_block (w := W) ?_).trans g4, (World.cell?_of_block (w := W) ?_).trans g5, (World.cell?_of_block (w := W) ?_).trans g6, (World.cell?_of_block (w := W) ?_).trans g7⟩ <;> ((try dsimp only); repeat first | (with_reducible rfl) | (with_reducible refine row_drew ?_) | (with_reducible refine row_other _ ?_ (by omega)))); done) | go_keep)
      (first | fail)
    all_goals go_wp2
    all_goals (first | generalize hW' : World.drew _ = W' | generalize hW' : World.setCell _ ⟨w.heap.size + 1, 3, none⟩ _ = W')
    all_goals
      have hB' : Below w.heap.size w W' := by rw [← hW']; (repeat first | (with_reducible exact Below.refl _ _) | (with_reducible assumption) | (with_reducible refine below_drewN ?_ _) | (with_reducible refine Below.drew ?_) | (with_reducible refine Below.alloc ?_ (by go_size) _) | (with_reducible refine Below.setCell ?_ (by go_size) _))
      have Q2 : W'.heap[w.heap.size]? = some (.cells #[.int .i64 i, .bool r, .int .i64 o, .bool aa, .bool tc, .bool rd, .bool ra, .int .i64 c] 23 (0, 0)) := by rw [← hW']; first | exact row_drew (stored R2.out R3.out).1 | exact (stored (row_drew R2.out) (row_drew R3.out)).1
      have Q3 : W'.heap[w.heap.size + 1]? = some (.cells #[.int .i64 n0, .int .i64 n1, .int .i64 n2, .int .i64 n3] 24 (0, 0)) := by rw [← hW']; first | exact row_drew (stored R2.out R3.out).2 | exact (stored (row_drew R2.out) (row_drew R3.out)).2
      clear hW' R2 R3 d2 d3 hBW k0 k1 k2 k3 k4 k5 g0 g1 g2 g3 g4 g5 g6 g7
      refine bodyPost_ret (v := .tuple #[.agg #[.int .i64 i, .bool r, .int .i64 o, .bool aa, .bool tc, .bool rd, .bool ra, .int .i64 c], .agg #[.int .i64 n0, .int .i64 n1, .int .i64 n2, .int .i64 n3], .int .i64 0]) ?_ rfl ⟨rfl, hB'⟩
      exact results_ref (g := w.heap.size) rfl rfl rfl Q2 Q3 rfl rfl rfl rfl

end Go.Proofs.YtigpkcpdccgnfaaDoor
