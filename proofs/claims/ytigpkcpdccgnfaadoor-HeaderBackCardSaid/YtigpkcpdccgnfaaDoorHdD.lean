/-
  header.Decode of twelve bytes and more.
-/
import Derived.Test.YtigpkcpdccgnfaaDoorHdC
import Derived.Deep.RegionHeld3
import Derived.Deep.DeepCutAuto
import Derived.Deep.CutBlock
namespace Go.Proofs.YtigpkcpdccgnfaaDoor
open Go.RowKit

/-- What stands behind the struct's own region: the results' blocks, the counts, and the struct itself, in a block of its own. -/
structure Made (w W : World) (g : Nat) (v0 : Int) (v1 : Bool) (v2 : Int) (v3 v4 v5 v6 : Bool) (v7 : Int) (u0 u1 u2 u3 : Int) : Prop where
  below : Below w.heap.size w W
  r2 : W.heap[w.heap.size]? = some (.cells #[.int .i64 0, .bool false, .int .i64 0, .bool false, .bool false, .bool false, .bool false, .int .i64 0] 23 (0, 0))
  r3 : W.heap[w.heap.size + 1]? = some (.cells #[.int .i64 0, .int .i64 0, .int .i64 0, .int .i64 0] 24 (0, 0))
  r5 : W.heap[w.heap.size + 1 + 1]? = some (.cells #[.int .i64 u0, .int .i64 u1, .int .i64 u2, .int .i64 u3] 24 (0, 0))
  r11 : W.heap[g]? = some (.cells #[.int .i64 v0, .bool v1, .int .i64 v2, .bool v3, .bool v4, .bool v5, .bool v6, .int .i64 v7] 23 (0, 0))
  gt : w.heap.size + 1 + 1 < g

theorem keepB {wr W : World} {a : Addr} {v : Value} (h : wr.cell? a = some v) (hl : a.block < wr.heap.size) (hB : Below wr.heap.size wr W) : W.cell? a = some v := (hB.cell hl).trans h

set_option maxHeartbeats 2000000 in
set_option maxRecDepth 100000 in
theorem Decode_long (bk off len cap : Nat) (z : Nat → Int) (w : World) (h : 12 ≤ (len : Int)) (hl : len ≤ 9223372036854775807) (hm : Masks w) (ht : Twelve w bk off z) (hz : bits .and .i64 (z 2 * 256 + z 3) 112 = 0) :
    Calls Tryd.prog 12 #[.slice (some ⟨bk, off, none⟩) len cap] w fun e w' => e = .returned (.tuple #[.agg #[.int .i64 (z 0 * 256 + z 1), .bool (bits .and .i64 (z 2 * 256 + z 3) 32768 != 0), .int .i64 (bits .and .i64 ((z 2 * 256 + z 3) / 2048) 15), .bool (bits .and .i64 (z 2 * 256 + z 3) 1024 != 0), .bool (bits .and .i64 (z 2 * 256 + z 3) 512 != 0), .bool (bits .and .i64 (z 2 * 256 + z 3) 256 != 0), .bool (bits .and .i64 (z 2 * 256 + z 3) 128 != 0), .int .i64 (bits .and .i64 (z 2 * 256 + z 3) 15)], .agg #[.int .i64 (z 4 * 256 + z 5), .int .i64 (z 6 * 256 + z 7), .int .i64 (z 8 * 256 + z 9), .int .i64 (z 10 * 256 + z 11)], .int .i64 0]) ∧ Below w.heap.size w w' := by
  have hb := ht.lt
  have z0 : w.cell? ⟨bk, off, none⟩ = some (.int .u8 (z 0)) := ht.at' 0 (by omega)
  have z1 : w.cell? ⟨bk, off + 1, none⟩ = some (.int .u8 (z 1)) := ht.at' 1 (by omega)
  have z2 : w.cell? ⟨bk, off + 2, none⟩ = some (.int .u8 (z 2)) := ht.at' 2 (by omega)
  have z3 : w.cell? ⟨bk, off + 3, none⟩ = some (.int .u8 (z 3)) := ht.at' 3 (by omega)
  have z4 : w.cell? ⟨bk, off + 4, none⟩ = some (.int .u8 (z 4)) := ht.at' 4 (by omega)
  have z5 : w.cell? ⟨bk, off + 5, none⟩ = some (.int .u8 (z 5)) := ht.at' 5 (by omega)
  have z6 : w.cell? ⟨bk, off + 6, none⟩ = some (.int .u8 (z 6)) := ht.at' 6 (by omega)
  have z7 : w.cell? ⟨bk, off + 7, none⟩ = some (.int .u8 (z 7)) := ht.at' 7 (by omega)
  have z8 : w.cell? ⟨bk, off + 8, none⟩ = some (.int .u8 (z 8)) := ht.at' 8 (by omega)
  have z9 : w.cell? ⟨bk, off + 9, none⟩ = some (.int .u8 (z 9)) := ht.at' 9 (by omega)
  have z10 : w.cell? ⟨bk, off + 10, none⟩ = some (.int .u8 (z 10)) := ht.at' 10 (by omega)
  have z11 : w.cell? ⟨bk, off + 11, none⟩ = some (.int .u8 (z 11)) := ht.at' 11 (by omega)
  have b0 := ht.bd
  obtain ⟨m0, m1, m2, m3, m4, m5⟩ := hm
  clear ht
  have i0 := mask0
  have i1 := mask1
  have i2 := mask2
  have i3 := mask3
  have i4 := mask4
  go_enter Tryd.func12, Tryd.ntmps12
  go_wp2_with fail
  refine (number_at bk off len cap 2 _ (z 2) (z 3) _ (by rfl) (by omega) hl (by exact cellB hb z2 (by (repeat first | (with_reducible exact Below.refl _ _) | (with_reducible assumption) | (with_reducible refine below_drewN ?_ _) | (with_reducible refine Below.drew ?_) | (with_reducible refine Below.alloc ?_ (by go_size) _) | (with_reducible refine Below.setCell ?_ (by go_size) _)))) (by exact cellB hb z3 (by (repeat first | (with_reducible exact Below.refl _ _) | (with_reducible assumption) | (with_reducible refine below_drewN ?_ _) | (with_reducible refine Below.drew ?_) | (with_reducible refine Below.alloc ?_ (by go_size) _) | (with_reducible refine Below.setCell ?_ (by go_size) _)))) (b0 _) (b0 _)).mono ?_
  rintro e w' ⟨rfl, n, rfl⟩
  go_upto_block 0 with fail
  go_cut [] (fun wx => Dec w wx (ctAt (z 4 * 256 + z 5) (z 6 * 256 + z 7) (z 8 * 256 + z 9) (z 10 * 256 + z 11) 0) (bitsAt (z 2 * 256 + z 3) 5))
  case first =>
    go_wp2_with fail
    go_loopw [25] (fun v wr => ∃ k : Nat, k ≤ 5 ∧ v = .int .i64 k ∧ Dec w wr (ctAt (z 4 * 256 + z 5) (z 6 * 256 + z 7) (z 8 * 256 + z 9) (z 10 * 256 + z 11) 0) (bitsAt (z 2 * 256 + z 3) k)) (fun v _ => 5 - (intOf v).toNat)
    case atStart => exact ⟨0, by omega, rfl, by (repeat first | (with_reducible exact Below.refl _ _) | (with_reducible assumption) | (with_reducible refine below_drewN ?_ _) | (with_reducible refine Below.drew ?_) | (with_reducible refine Below.alloc ?_ (by go_size) _) | (with_reducible refine Below.setCell ?_ (by go_size) _)), by simp, (rows4 w _ _ _ _ n).1, (rows4 w _ _ _ _ n).2.1, (rows4 w _ _ _ _ n).2.2.1, (rows4 w _ _ _ _ n).2.2.2⟩
    case round =>
      obtain ⟨k, hk, rfl, hD⟩ := hrel
      have hk5 : k = 0 ∨ k = 1 ∨ k = 2 ∨ k = 3 ∨ k = 4 ∨ k = 5 := by omega
      rcases hk5 with rfl | rfl | rfl | rfl | rfl | rfl
      · obtain ⟨v0, e0, g0⟩ := hD.c7 0 (by omega)
        go_wp2_with fail
        refine ⟨⟨1, by omega, rfl, ?_⟩, by simp [intOf]⟩
        exact hD.set7 0 _
      · obtain ⟨v0, e0, g0⟩ := hD.c7 1 (by omega)
        go_wp2_with fail
        refine ⟨⟨2, by omega, rfl, ?_⟩, by simp [intOf]⟩
        exact hD.set7 1 _
      · obtain ⟨v0, e0, g0⟩ := hD.c7 2 (by omega)
        go_wp2_with fail
        refine ⟨⟨3, by omega, rfl, ?_⟩, by simp [intOf]⟩
        exact hD.set7 2 _
      · obtain ⟨v0, e0, g0⟩ := hD.c7 3 (by omega)
        go_wp2_with fail
        refine ⟨⟨4, by omega, rfl, ?_⟩, by simp [intOf]⟩
        exact hD.set7 3 _
      · obtain ⟨v0, e0, g0⟩ := hD.c7 4 (by omega)
        go_wp2_with fail
        refine ⟨⟨5, by omega, rfl, ?_⟩, by simp [intOf]⟩
        exact hD.set7 4 _
      · go_wp2_with fail
        go_meet
        exact hD
  case rest =>
    clear m0 m1 m2 m3 m4 i0 i1 i2 i3 i4
    have hD0 := hcut
    clear hcut
    go_upto_block 2 with fail
    go_cut [] (fun wx => Dec w wx (ctAt (z 4 * 256 + z 5) (z 6 * 256 + z 7) (z 8 * 256 + z 9) (z 10 * 256 + z 11) 4) (bitsAt (z 2 * 256 + z 3) 5))
    case first =>
      go_wp2_with fail
      go_loopw [36] (fun v wr => ∃ k : Nat, k ≤ 4 ∧ v = .int .i64 k ∧ Dec w wr (ctAt (z 4 * 256 + z 5) (z 6 * 256 + z 7) (z 8 * 256 + z 9) (z 10 * 256 + z 11) k) (bitsAt (z 2 * 256 + z 3) 5)) (fun v _ => 4 - (intOf v).toNat)
      case atStart => exact ⟨0, by omega, rfl, hD0⟩
      case round =>
        clear hD0
        obtain ⟨k, hk, rfl, hD⟩ := hrel
        have hk5 : k = 0 ∨ k = 1 ∨ k = 2 ∨ k = 3 ∨ k = 4 := by omega
        rcases hk5 with rfl | rfl | rfl | rfl | rfl
        · obtain ⟨v0, e0, g0⟩ := hD.c5 0 (by omega)
          have hB := hD.below
          go_wp2_with fail
          refine (number_at bk off len cap 4 _ (z 4) (z 5) _ (by rfl) (by omega) hl (by exact cellB hb z4 hB) (by exact cellB hb z5 hB) (b0 _) (b0 _)).mono ?_
          rintro e w' ⟨rfl, n1, rfl⟩
          go_wp2_with fail
          go_roundw
          case rel => first | exact ⟨1, by omega, rfl, (hD.drewN _).set5 0 _⟩ | ((repeat apply Exists.intro); exact ⟨⟨1, by omega, rfl, (hD.drewN _).set5 0 _⟩, rfl⟩)
          case measure => simp [intOf]
        · obtain ⟨v0, e0, g0⟩ := hD.c5 1 (by omega)
          have hB := hD.below
          go_wp2_with fail
          refine (number_at bk off len cap 6 _ (z 6) (z 7) _ (by rfl) (by omega) hl (by exact cellB hb z6 hB) (by exact cellB hb z7 hB) (b0 _) (b0 _)).mono ?_
          rintro e w' ⟨rfl, n2, rfl⟩
          go_wp2_with fail
          go_roundw
          case rel => first | exact ⟨2, by omega, rfl, (hD.drewN _).set5 1 _⟩ | ((repeat apply Exists.intro); exact ⟨⟨2, by omega, rfl, (hD.drewN _).set5 1 _⟩, rfl⟩)
          case measure => simp [intOf]
        · obtain ⟨v0, e0, g0⟩ := hD.c5 2 (by omega)
          have hB := hD.below
          go_wp2_with fail
          refine (number_at bk off len cap 8 _ (z 8) (z 9) _ (by rfl) (by omega) hl (by exact cellB hb z8 hB) (by exact cellB hb z9 hB) (b0 _) (b0 _)).mono ?_
          rintro e w' ⟨rfl, n3, rfl⟩
          go_wp2_with fail
          go_roundw
          case rel => first | exact ⟨3, by omega, rfl, (hD.drewN _).set5 2 _⟩ | ((repeat apply Exists.intro); exact ⟨⟨3, by omega, rfl, (hD.drewN _).set5 2 _⟩, rfl⟩)
          case measure => simp [intOf]
        · obtain ⟨v0, e0, g0⟩ := hD.c5 3 (by omega)
          have hB := hD.below
          go_wp2_with fail
          refine (number_at bk off len cap 10 _ (z 10) (z 11) _ (by rfl) (by omega) hl (by exact cellB hb z10 hB) (by exact cellB hb z11 hB) (b0 _) (b0 _)).mono ?_
          rintro e w' ⟨rfl, n4, rfl⟩
          go_wp2_with fail
          go_roundw
          case rel => first | exact ⟨4, by omega, rfl, (hD.drewN _).set5 3 _⟩ | ((repeat apply Exists.intro); exact ⟨⟨4, by omega, rfl, (hD.drewN _).set5 3 _⟩, rfl⟩)
          case measure => simp [intOf]
        · go_wp2_with fail
          go_meet
          exact hD
    case rest =>
      clear hD0
      go_upto_region 18 with fail
      go_cut [11] (fun s11 wx => ∃ g : Nat, s11 = .pointer (some ⟨g, 0, none⟩) ∧ Made w wx g (z 0 * 256 + z 1) ((bits .and .i64 (z 2 * 256 + z 3) 32768 != 0)) (bits .and .i64 ((z 2 * 256 + z 3) / 2048) 15) ((bits .and .i64 (z 2 * 256 + z 3) 1024 != 0)) ((bits .and .i64 (z 2 * 256 + z 3) 512 != 0)) ((bits .and .i64 (z 2 * 256 + z 3) 256 != 0)) ((bits .and .i64 (z 2 * 256 + z 3) 128 != 0)) (bits .and .i64 (z 2 * 256 + z 3) 15) (z 4 * 256 + z 5) (z 6 * 256 + z 7) (z 8 * 256 + z 9) (z 10 * 256 + z 11))
      case first =>
        have hD := hcut
        clear hcut
        have hB := hD.below
        have hS := hD.size
        obtain ⟨d0, d1, d2, d3, d4, _⟩ := cells5 hD.r7
        have hbr : bk < wc.heap.size := by have := hB.size; omega
        have R2 := Lib.hid hD.r2
        have R3 := Lib.hid hD.r3
        have R5 := Lib.hid hD.r5
        have y0 := (hB.cell (p := ⟨bk, off, none⟩) hb).trans z0
        have y1 := (hB.cell (p := ⟨bk, off + 1, none⟩) hb).trans z1
        clear hD z0 z1 z2 z3 z4 z5 z6 z7 z8 z9 z10 z11
        have q1 := fresh8N wc 23
        have q2 := fresh8 wc 23
        go_region_held3 (fun w' => w'.cell? ⟨w.heap.size + 1 + 1 + 1, 0, none⟩ = some (.bool (bits .and .i64 (z 2 * 256 + z 3) 32768 != 0)) ∧ w'.cell? ⟨w.heap.size + 1 + 1 + 1, 1, none⟩ = some (.bool (bits .and .i64 (z 2 * 256 + z 3) 1024 != 0)) ∧ w'.cell? ⟨w.heap.size + 1 + 1 + 1, 2, none⟩ = some (.bool (bits .and .i64 (z 2 * 256 + z 3) 512 != 0)) ∧ w'.cell? ⟨w.heap.size + 1 + 1 + 1, 3, none⟩ = some (.bool (bits .and .i64 (z 2 * 256 + z 3) 256 != 0)) ∧ w'.cell? ⟨w.heap.size + 1 + 1 + 1, 4, none⟩ = some (.bool (bits .and .i64 (z 2 * 256 + z 3) 128 != 0)) ∧ w'.cell? ⟨bk, off, none⟩ = some (.int .u8 (z 0)) ∧ w'.cell? ⟨bk, off + 1, none⟩ = some (.int .u8 (z 1)))
          (first | go_keep | (refine ⟨keepB d0 hS ?_, keepB d1 hS ?_, keepB d2 hS ?_, keepB d3 hS ?_, keepB d4 hS ?_, keepB y0 hbr ?_, keepB y1 hbr ?_⟩ <;> (repeat first | (with_reducible exact Below.refl _ _) | (with_reducible assumption) | (with_reducible refine below_drewN ?_ _) | (with_reducible refine Below.drew ?_) | (with_reducible refine Below.alloc ?_ (by go_size) _) | (with_reducible refine Below.setCell ?_ (by go_size) _))))
          (first | (go_at_call 18; refine (number_at bk off len cap 0 _ (z 0) (z 1) _ (by rfl) (by omega) hl (by exact keepB y0 hbr (by (repeat first | (with_reducible exact Below.refl _ _) | (with_reducible assumption) | (with_reducible refine below_drewN ?_ _) | (with_reducible refine Below.drew ?_) | (with_reducible refine Below.alloc ?_ (by go_size) _) | (with_reducible refine Below.setCell ?_ (by go_size) _)))) (by exact keepB y1 hbr (by (repeat first | (with_reducible exact Below.refl _ _) | (with_reducible assumption) | (with_reducible refine below_drewN ?_ _) | (with_reducible refine Below.drew ?_) | (with_reducible refine Below.alloc ?_ (by go_size) _) | (with_reducible refine Below.setCell ?_ (by go_size) _)))) (b0 _) (b0 _)).mono ?_; rintro e w' ⟨rfl, nn, rfl⟩))
        all_goals go_wp2_with fail
        all_goals go_meet
        all_goals
          have l0 : w.heap.size ≠ wc.heap.size := by omega
          have l1 : w.heap.size + 1 ≠ wc.heap.size := by omega
          have l2 : w.heap.size + 1 + 1 ≠ wc.heap.size := by omega
          refine ⟨wc.heap.size, rfl, ?_, ?_, ?_, ?_, ?_, by omega⟩
          · refine Below.trans hB ?_
            refine Below.mono (B := wc.heap.size) ?_ (by omega)
            (repeat first | (with_reducible exact Below.refl _ _) | (with_reducible assumption) | (with_reducible refine below_drewN ?_ _) | (with_reducible refine Below.drew ?_) | (with_reducible refine Below.alloc ?_ (by go_size) _) | (with_reducible refine Below.setCell ?_ (by go_size) _))
          · have r := R2.out
            (repeat first | (with_reducible assumption) | (with_reducible refine row_other _ ?_ (by omega)) | (with_reducible refine row_old _ ?_) | (with_reducible refine row_drew ?_) | (with_reducible refine row_drewN ?_))
          · have r := R3.out
            (repeat first | (with_reducible assumption) | (with_reducible refine row_other _ ?_ (by omega)) | (with_reducible refine row_old _ ?_) | (with_reducible refine row_drew ?_) | (with_reducible refine row_drewN ?_))
          · have r := R5.out
            (repeat first | (with_reducible assumption) | (with_reducible refine row_other _ ?_ (by omega)) | (with_reducible refine row_old _ ?_) | (with_reducible refine row_drew ?_) | (with_reducible refine row_drewN ?_))
            exact r
          · first | exact rowset8 (row_new _ rfl) | exact rowset8 (row_drewN (row_new _ rfl))
      case rest =>
        clear z0 z1 z2 z3 z4 z5 z6 z7 z8 z9 z10 z11
        obtain ⟨g, rfl, hM0⟩ := hcut
        obtain ⟨v0, v1, v2, v3, v4, v5, v6, v7, x0, x1, x2, x3, E, hM⟩ : ∃ v0 : Int, ∃ v1 : Bool, ∃ v2 : Int, ∃ v3 : Bool, ∃ v4 : Bool, ∃ v5 : Bool, ∃ v6 : Bool, ∃ v7 : Int, ∃ x0 : Int, ∃ x1 : Int, ∃ x2 : Int, ∃ x3 : Int, Hid (v0 = z 0 * 256 + z 1 ∧ v1 = (bits .and .i64 (z 2 * 256 + z 3) 32768 != 0) ∧ v2 = bits .and .i64 ((z 2 * 256 + z 3) / 2048) 15 ∧ v3 = (bits .and .i64 (z 2 * 256 + z 3) 1024 != 0) ∧ v4 = (bits .and .i64 (z 2 * 256 + z 3) 512 != 0) ∧ v5 = (bits .and .i64 (z 2 * 256 + z 3) 256 != 0) ∧ v6 = (bits .and .i64 (z 2 * 256 + z 3) 128 != 0) ∧ v7 = bits .and .i64 (z 2 * 256 + z 3) 15 ∧ x0 = z 4 * 256 + z 5 ∧ x1 = z 6 * 256 + z 7 ∧ x2 = z 8 * 256 + z 9 ∧ x3 = z 10 * 256 + z 11) ∧ Made w wc g v0 v1 v2 v3 v4 v5 v6 v7 x0 x1 x2 x3 := ⟨_, _, _, _, _, _, _, _, _, _, _, _, Lib.hid ⟨rfl, rfl, rfl, rfl, rfl, rfl, rfl, rfl, rfl, rfl, rfl, rfl⟩, hM0⟩
        clear hM0
        have hB := hM.below
        have c2 := cells8 hM.r2
        have c3 := cells4 hM.r3
        have c5 := cells4 hM.r5
        have c11 := cells8 hM.r11
        have gt := hM.gt
        have R2 := Lib.hid hM.r2
        have R3 := Lib.hid hM.r3
        clear hM
        go_wp2_with fail
        go_region
        all_goals go_wp2
        generalize hW : World.drew _ = W'
        have hB' : Below w.heap.size w W' := by rw [← hW]; (repeat first | (with_reducible exact Below.refl _ _) | (with_reducible assumption) | (with_reducible refine below_drewN ?_ _) | (with_reducible refine Below.drew ?_) | (with_reducible refine Below.alloc ?_ (by go_size) _) | (with_reducible refine Below.setCell ?_ (by go_size) _))
        have Q2 : W'.heap[w.heap.size]? = some (.cells #[.int .i64 v0, .bool v1, .int .i64 v2, .bool v3, .bool v4, .bool v5, .bool v6, .int .i64 v7] 23 (0, 0)) := by rw [← hW]; exact row_drew (stored R2.out R3.out).1
        have Q3 : W'.heap[w.heap.size + 1]? = some (.cells #[.int .i64 x0, .int .i64 x1, .int .i64 x2, .int .i64 x3] 24 (0, 0)) := by rw [← hW]; exact row_drew (stored R2.out R3.out).2
        clear hW R2 R3 c2 c3 c5 c11 hB
        refine bodyPost_ret (v := .tuple #[.agg #[.int .i64 v0, .bool v1, .int .i64 v2, .bool v3, .bool v4, .bool v5, .bool v6, .int .i64 v7], .agg #[.int .i64 x0, .int .i64 x1, .int .i64 x2, .int .i64 x3], .int .i64 0]) ?_ rfl ⟨?_, hB'⟩
        · exact results_two (g := w.heap.size) rfl rfl rfl Q2 Q3 rfl rfl rfl rfl
        · obtain ⟨e0, e1, e2, e3, e4, e5, e6, e7, e8, e9, e10, e11⟩ := E.out
          rw [e0, e1, e2, e3, e4, e5, e6, e7, e8, e9, e10, e11]

end Go.Proofs.YtigpkcpdccgnfaaDoor
