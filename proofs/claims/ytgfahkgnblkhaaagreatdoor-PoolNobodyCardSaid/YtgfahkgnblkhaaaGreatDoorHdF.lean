/-
  header.Encode by its contract: the error where a number does not fit; else twelve bytes.
-/
import Derived.Test.YtgfahkgnblkhaaaGreatDoorHdE
namespace Go.Proofs.YtgfahkgnblkhaaaGreatDoor
open Go.RowKit

/-- The flags' word behind k of the five bits. -/
def flk (o c : Int) (r aa tc rd ra : Bool) : Nat → Int
  | 0 => o * 2048 + c
  | 1 => o * 2048 + c + bi r * 32768
  | 2 => o * 2048 + c + bi r * 32768 + bi aa * 1024
  | 3 => o * 2048 + c + bi r * 32768 + bi aa * 1024 + bi tc * 512
  | 4 => o * 2048 + c + bi r * 32768 + bi aa * 1024 + bi tc * 512 + bi rd * 256
  | _ => o * 2048 + c + bi r * 32768 + bi aa * 1024 + bi tc * 512 + bi rd * 256 + bi ra * 128
abbrev flags (o c : Int) (r aa tc rd ra : Bool) : Int := flk o c r aa tc rd ra 5

theorem or_at (i : Nat) (m x : Int) (hm : ((2 ^ i : Nat) : Int) = m) (hi : 2 ^ i < 9223372036854775808) (h0 : 0 ≤ x) (h1 : x < 9223372036854775808) (h : x / m % 2 = 0) : bits .or .i64 x m = x + m := by
  subst hm
  rw [or_bit i hi x h0 h1 (by simpa using h)]; simp

theorem fl0 {o c : Int} (aa tc rd ra : Bool) (ho : 0 ≤ o ∧ o ≤ 15) (hc : 0 ≤ c ∧ c ≤ 15) : bits .or .i64 (flk o c true aa tc rd ra 0) 32768 = flk o c true aa tc rd ra 1 := by
  simp only [flk, bi_true]
  rw [or_at 15 32768 _ (by decide) (by decide) (by omega) (by omega) (by omega)]; omega
theorem fl1 {o c : Int} (r tc rd ra : Bool) (ho : 0 ≤ o ∧ o ≤ 15) (hc : 0 ≤ c ∧ c ≤ 15) : bits .or .i64 (flk o c r true tc rd ra 1) 1024 = flk o c r true tc rd ra 2 := by
  have := bi_bd r
  simp only [flk, bi_true]
  rw [or_at 10 1024 _ (by decide) (by decide) (by omega) (by omega) (by omega)]; omega
theorem fl2 {o c : Int} (r aa rd ra : Bool) (ho : 0 ≤ o ∧ o ≤ 15) (hc : 0 ≤ c ∧ c ≤ 15) : bits .or .i64 (flk o c r aa true rd ra 2) 512 = flk o c r aa true rd ra 3 := by
  have := bi_bd r; have := bi_bd aa
  simp only [flk, bi_true]
  rw [or_at 9 512 _ (by decide) (by decide) (by omega) (by omega) (by omega)]; omega
theorem fl3 {o c : Int} (r aa tc ra : Bool) (ho : 0 ≤ o ∧ o ≤ 15) (hc : 0 ≤ c ∧ c ≤ 15) : bits .or .i64 (flk o c r aa tc true ra 3) 256 = flk o c r aa tc true ra 4 := by
  have := bi_bd r; have := bi_bd aa; have := bi_bd tc
  simp only [flk, bi_true]
  rw [or_at 8 256 _ (by decide) (by decide) (by omega) (by omega) (by omega)]; omega
theorem fl4 {o c : Int} (r aa tc rd : Bool) (ho : 0 ≤ o ∧ o ≤ 15) (hc : 0 ≤ c ∧ c ≤ 15) : bits .or .i64 (flk o c r aa tc rd true 4) 128 = flk o c r aa tc rd true 5 := by
  have := bi_bd r; have := bi_bd aa; have := bi_bd tc; have := bi_bd rd
  simp only [flk, bi_true]
  rw [or_at 7 128 _ (by decide) (by decide) (by omega) (by omega) (by omega)]; omega
theorem flags_bd {o c : Int} (r aa tc rd ra : Bool) (ho : 0 ≤ o ∧ o ≤ 15) (hc : 0 ≤ c ∧ c ≤ 15) : 0 ≤ flags o c r aa tc rd ra ∧ flags o c r aa tc rd ra ≤ 65535 := by
  have := bi_bd r; have := bi_bd aa; have := bi_bd tc; have := bi_bd rd; have := bi_bd ra
  simp only [flags, flk]; omega
theorem fn0 (o c : Int) (aa tc rd ra : Bool) : flk o c false aa tc rd ra 0 = flk o c false aa tc rd ra 1 := by simp [flk, bi]
theorem fn1 (o c : Int) (r tc rd ra : Bool) : flk o c r false tc rd ra 1 = flk o c r false tc rd ra 2 := by simp [flk, bi]
theorem fn2 (o c : Int) (r aa rd ra : Bool) : flk o c r aa false rd ra 2 = flk o c r aa false rd ra 3 := by simp [flk, bi]
theorem fn3 (o c : Int) (r aa tc ra : Bool) : flk o c r aa tc false ra 3 = flk o c r aa tc false ra 4 := by simp [flk, bi]
theorem fn4 (o c : Int) (r aa tc rd : Bool) : flk o c r aa tc rd false 4 = flk o c r aa tc rd false 5 := by simp [flk, bi]

set_option maxHeartbeats 1000000 in
set_option maxRecDepth 100000 in
theorem Encode_no (i o c n0 n1 n2 n3 : Int) (r aa tc rd ra : Bool) (w : World) (h : canH i o c n0 n1 n2 n3 = false) :
    Calls Tryz.prog 36 #[hdV i r o aa tc rd ra c, ctV n0 n1 n2 n3] w fun e w' => e = .returned (.tuple #[.slice none 0 0, .int .i64 1]) ∧ Below w.heap.size w w' := by
  go_enter Tryz.func36, Tryz.ntmps36
  go_wp2_with fail
  refine (can_any _ _ _ _ _ _ _ _ _ _ _ _ _).mono ?_
  rintro e w' ⟨rfl, hB⟩
  go_wp2_with fail
  go_ret2
  refine ⟨rfl, Below.trans ?_ (hB.mono (by simp; omega))⟩
  (repeat first | (with_reducible exact Below.refl _ _) | (with_reducible assumption) | (with_reducible refine below_drewN ?_ _) | (with_reducible refine Below.drew ?_) | (with_reducible refine Below.alloc ?_ (by go_size) _) | (with_reducible refine Below.setCell ?_ (by go_size) _))

theorem bl0 (x0 x1 x2 x3 x4 : Bool) (w : World) : (Instr.index 148 (.agg #[.bool x0, .bool x1, .bool x2, .bool x3, .bool x4]) (.int .i64 0)).run Tryz.prog w = .ok (.bool x0) w := by kernel_rfl
theorem bl1 (x0 x1 x2 x3 x4 : Bool) (w : World) : (Instr.index 148 (.agg #[.bool x0, .bool x1, .bool x2, .bool x3, .bool x4]) (.int .i64 1)).run Tryz.prog w = .ok (.bool x1) w := by kernel_rfl
theorem bl2 (x0 x1 x2 x3 x4 : Bool) (w : World) : (Instr.index 148 (.agg #[.bool x0, .bool x1, .bool x2, .bool x3, .bool x4]) (.int .i64 2)).run Tryz.prog w = .ok (.bool x2) w := by kernel_rfl
theorem bl3 (x0 x1 x2 x3 x4 : Bool) (w : World) : (Instr.index 148 (.agg #[.bool x0, .bool x1, .bool x2, .bool x3, .bool x4]) (.int .i64 3)).run Tryz.prog w = .ok (.bool x3) w := by kernel_rfl
theorem bl4 (x0 x1 x2 x3 x4 : Bool) (w : World) : (Instr.index 148 (.agg #[.bool x0, .bool x1, .bool x2, .bool x3, .bool x4]) (.int .i64 4)).run Tryz.prog w = .ok (.bool x4) w := by kernel_rfl
theorem ct0 (n0 n1 n2 n3 : Int) (w : World) : (Instr.index 101 (ctV n0 n1 n2 n3) (.int .i64 0)).run Tryz.prog w = .ok (.int .i64 n0) w := by kernel_rfl
theorem ct1 (n0 n1 n2 n3 : Int) (w : World) : (Instr.index 101 (ctV n0 n1 n2 n3) (.int .i64 1)).run Tryz.prog w = .ok (.int .i64 n1) w := by kernel_rfl
theorem ct2 (n0 n1 n2 n3 : Int) (w : World) : (Instr.index 101 (ctV n0 n1 n2 n3) (.int .i64 2)).run Tryz.prog w = .ok (.int .i64 n2) w := by kernel_rfl
theorem ct3 (n0 n1 n2 n3 : Int) (w : World) : (Instr.index 101 (ctV n0 n1 n2 n3) (.int .i64 3)).run Tryz.prog w = .ok (.int .i64 n3) w := by kernel_rfl
theorem make12 (w : World) : (Instr.makeSlice 30 (.int .i64 0) (.int .i64 12)).run Tryz.prog w = .ok (.slice (some ⟨w.heap.size, 0, none⟩) 0 12) (w.alloc (.cells #[.int .u8 0, .int .u8 0, .int .u8 0, .int .u8 0, .int .u8 0, .int .u8 0, .int .u8 0, .int .u8 0, .int .u8 0, .int .u8 0, .int .u8 0, .int .u8 0] 5 (0, 0))) := by kernel_rfl

/-- The twelve bytes. -/
def encB (i fl n0 n1 n2 n3 : Int) : List Value := [.int .u8 (i / 256), .int .u8 (i % 256), .int .u8 (fl / 256), .int .u8 (fl % 256), .int .u8 (n0 / 256), .int .u8 (n0 % 256), .int .u8 (n1 / 256), .int .u8 (n1 % 256), .int .u8 (n2 / 256), .int .u8 (n2 % 256), .int .u8 (n3 / 256), .int .u8 (n3 % 256)]

/-- The bytes behind k of the four counts. -/
def encK (i fl n0 n1 n2 n3 : Int) : Nat → List Value
  | 0 => [.int .u8 (i / 256), .int .u8 (i % 256), .int .u8 (fl / 256), .int .u8 (fl % 256)]
  | 1 => [.int .u8 (i / 256), .int .u8 (i % 256), .int .u8 (fl / 256), .int .u8 (fl % 256), .int .u8 (n0 / 256), .int .u8 (n0 % 256)]
  | 2 => [.int .u8 (i / 256), .int .u8 (i % 256), .int .u8 (fl / 256), .int .u8 (fl % 256), .int .u8 (n0 / 256), .int .u8 (n0 % 256), .int .u8 (n1 / 256), .int .u8 (n1 % 256)]
  | 3 => [.int .u8 (i / 256), .int .u8 (i % 256), .int .u8 (fl / 256), .int .u8 (fl % 256), .int .u8 (n0 / 256), .int .u8 (n0 % 256), .int .u8 (n1 / 256), .int .u8 (n1 % 256), .int .u8 (n2 / 256), .int .u8 (n2 % 256)]
  | _ => encB i fl n0 n1 n2 n3

theorem ownsRow_mono {w : World} {base base' : Nat} {e : TypeId} {size n : Nat} {v : Value} {xs : List Value} (h : w.ownsRow base e size v n xs) (hb : base' ≤ base) : w.ownsRow base' e size v n xs := by
  obtain ⟨h1, h2⟩ := h
  refine ⟨h1, ?_⟩
  rcases h2 with h2 | ⟨g, cap, cur, hv, hg, r⟩
  · exact .inl h2
  · exact .inr ⟨g, cap, cur, hv, by omega, r⟩

set_option maxHeartbeats 2000000 in
set_option maxRecDepth 100000 in
theorem Encode_yes (i o c n0 n1 n2 n3 : Int) (r aa tc rd ra : Bool) (w : World) (h : canH i o c n0 n1 n2 n3 = true) (hm : Masks w) :
    Calls Tryz.prog 36 #[hdV i r o aa tc rd ra c, ctV n0 n1 n2 n3] w fun e w' => ∃ v, e = .returned (.tuple #[v, .int .i64 0]) ∧ w'.ownsRow w.heap.size 5 1 v 12 (encB i (flags o c r aa tc rd ra) n0 n1 n2 n3) ∧ Below w.heap.size w w' := by
  obtain ⟨b0, b1, b2, b3, bI, bO, bC⟩ := canH_out h
  go_enter Tryz.func36, Tryz.ntmps36
  go_wp2_with fail
  refine (can_any _ _ _ _ _ _ _ _ _ _ _ _ _).mono ?_
  rintro e w1 ⟨rfl, hB1⟩
  have hB : Below w.heap.size w w1 := Below.trans (by (repeat first | (with_reducible exact Below.refl _ _) | (with_reducible assumption) | (with_reducible refine below_drewN ?_ _) | (with_reducible refine Below.drew ?_) | (with_reducible refine Below.alloc ?_ (by go_size) _) | (with_reducible refine Below.setCell ?_ (by go_size) _))) (hB1.mono (by simp; omega))
  have s0 : w.heap.size < w1.heap.size := by have := hB1.size; simp at this; omega
  have s1 : w.heap.size + 1 < w1.heap.size := by have := hB1.size; simp at this; omega
  have r2 := (hB1.block w.heap.size (by simp; omega)).trans (rows2 w _ _ 0).1
  have r3 := (hB1.block (w.heap.size + 1) (by simp)).trans (rows2 w _ _ 0).2
  have c2 := cells8 r2
  have c3 := cells4 r3
  clear r2 r3 hB1
  obtain ⟨m0, m1, m2, m3, m4, m5⟩ := hm
  have k0 := (hB.cell (p := ⟨0, 0, none⟩) m5).trans m0
  have k1 := (hB.cell (p := ⟨0, 1, none⟩) m5).trans m1
  have k2 := (hB.cell (p := ⟨0, 2, none⟩) m5).trans m2
  have k3 := (hB.cell (p := ⟨0, 3, none⟩) m5).trans m3
  have k4 := (hB.cell (p := ⟨0, 4, none⟩) m5).trans m4
  clear m0 m1 m2 m3 m4
  have e0 := or2048 o c bO bC
  go_wp2_with fail
  have i0 := fun w => bl0 r aa tc rd ra w
  have i1 := fun w => bl1 r aa tc rd ra w
  have i2 := fun w => bl2 r aa tc rd ra w
  have i3 := fun w => bl3 r aa tc rd ra w
  have i4 := fun w => bl4 r aa tc rd ra w
  have j0 := ct0 n0 n1 n2 n3
  have j1 := ct1 n0 n1 n2 n3
  have j2 := ct2 n0 n1 n2 n3
  have j3 := ct3 n0 n1 n2 n3
  have mk := make12
  go_loop [6, 33] (fun f v => ∃ k : Nat, k ≤ 5 ∧ v = .int .i64 k ∧ f = .int .i64 (flk o c r aa tc rd ra k)) (fun _ v => 5 - (intOf v).toNat)
  case atStart => exact ⟨0, by omega, rfl, rfl⟩
  case round =>
    obtain ⟨k, hk, rfl, rfl⟩ := hrel
    have hk5 : k = 0 ∨ k = 1 ∨ k = 2 ∨ k = 3 ∨ k = 4 ∨ k = 5 := by omega
    rcases hk5 with rfl | rfl | rfl | rfl | rfl | rfl
    · as_aux_lemma =>
        cases r
        · go_wp2_with fail
          refine ⟨⟨1, by omega, rfl, ?_⟩, by simp [intOf]⟩
          exact congrArg (Value.int .i64) (fn0 o c aa tc rd ra)
        · go_wp2_with fail
          refine ⟨⟨1, by omega, rfl, ?_⟩, by simp [intOf]⟩
          exact congrArg (Value.int .i64) (fl0 aa tc rd ra bO bC)
    · as_aux_lemma =>
        cases aa
        · go_wp2_with fail
          refine ⟨⟨2, by omega, rfl, ?_⟩, by simp [intOf]⟩
          exact congrArg (Value.int .i64) (fn1 o c r tc rd ra)
        · go_wp2_with fail
          refine ⟨⟨2, by omega, rfl, ?_⟩, by simp [intOf]⟩
          exact congrArg (Value.int .i64) (fl1 r tc rd ra bO bC)
    · as_aux_lemma =>
        cases tc
        · go_wp2_with fail
          refine ⟨⟨3, by omega, rfl, ?_⟩, by simp [intOf]⟩
          exact congrArg (Value.int .i64) (fn2 o c r aa rd ra)
        · go_wp2_with fail
          refine ⟨⟨3, by omega, rfl, ?_⟩, by simp [intOf]⟩
          exact congrArg (Value.int .i64) (fl2 r aa rd ra bO bC)
    · as_aux_lemma =>
        cases rd
        · go_wp2_with fail
          refine ⟨⟨4, by omega, rfl, ?_⟩, by simp [intOf]⟩
          exact congrArg (Value.int .i64) (fn3 o c r aa tc ra)
        · go_wp2_with fail
          refine ⟨⟨4, by omega, rfl, ?_⟩, by simp [intOf]⟩
          exact congrArg (Value.int .i64) (fl3 r aa tc ra bO bC)
    · as_aux_lemma =>
        cases ra
        · go_wp2_with fail
          refine ⟨⟨5, by omega, rfl, ?_⟩, by simp [intOf]⟩
          exact congrArg (Value.int .i64) (fn4 o c r aa tc rd)
        · go_wp2_with fail
          refine ⟨⟨5, by omega, rfl, ?_⟩, by simp [intOf]⟩
          exact congrArg (Value.int .i64) (fl4 r aa tc rd bO bC)
    · have bF := flags_bd r aa tc rd ra bO bC
      clear k0 k1 k2 k3 k4 i0 i1 i2 i3 i4
      go_wp2_with fail
      refine (append_any w1.heap.size _ 0 [] i _ (World.ownsRow_made w1 _ 12 (Nat.le_refl _) (by unfold maxLen; omega) (by simp)) (by omega) (by simp) bI).mono ?_
      rintro e w2 ⟨v2, rfl, hown2, hB2, hS2⟩
      have hB12 : Below w1.heap.size w1 w2 := ((Below.refl _ _).alloc (Nat.le_refl _) _).trans hB2
      have q0 := (hB12.cell (p := ⟨w.heap.size + 1, 0, none⟩) s1).trans c3.1
      have q1 := (hB12.cell (p := ⟨w.heap.size + 1, 1, none⟩) s1).trans c3.2.1
      have q2 := (hB12.cell (p := ⟨w.heap.size + 1, 2, none⟩) s1).trans c3.2.2.1
      have q3 := (hB12.cell (p := ⟨w.heap.size + 1, 3, none⟩) s1).trans c3.2.2.2.1
      have s2 : w1.heap.size ≤ w2.heap.size := hB12.size
      clear hB2 hS2 c2 c3 mk e0
      go_wp2_with fail
      refine (append_any w1.heap.size _ 2 _ _ _ hown2 (by omega) s2 bF).mono ?_
      rintro e w3 ⟨v3, rfl, hown3, hB3, hS3⟩
      have hB13 : Below w1.heap.size w1 w3 := hB12.trans hB3
      have p0 := (hB3.cell (p := ⟨w.heap.size + 1, 0, none⟩) s1).trans q0
      have p1 := (hB3.cell (p := ⟨w.heap.size + 1, 1, none⟩) s1).trans q1
      have p2 := (hB3.cell (p := ⟨w.heap.size + 1, 2, none⟩) s1).trans q2
      have p3 := (hB3.cell (p := ⟨w.heap.size + 1, 3, none⟩) s1).trans q3
      have hown4 : w3.ownsRow w1.heap.size 5 1 v3 (4 + 2 * 0) (encK i (flags o c r aa tc rd ra) n0 n1 n2 n3 0) := hown3
      clear q0 q1 q2 q3 hown2 hown3 hB12 hB3
      go_wp2_with fail
      go_loopw [9, 53] (fun x v wr => ∃ k : Nat, k ≤ 4 ∧ v = .int .i64 k ∧ wr.ownsRow w1.heap.size 5 1 x (4 + 2 * k) (encK i (flags o c r aa tc rd ra) n0 n1 n2 n3 k) ∧ Below w1.heap.size w1 wr) (fun _ v _ => 4 - (intOf v).toNat)
      case atStart => exact ⟨0, by omega, rfl, hown4, hB13⟩
      case round =>
        clear hown4 hB13 p0 p1 p2 p3
        obtain ⟨k, hk, rfl, hown, hBk⟩ := hrel
        have sk := hBk.size
        have hk5 : k = 0 ∨ k = 1 ∨ k = 2 ∨ k = 3 ∨ k = 4 := by omega
        rcases hk5 with rfl | rfl | rfl | rfl | rfl
        · go_wp2_with fail
          refine (append_any w1.heap.size _ 4 _ _ _ hown (by omega) sk b0).mono ?_
          rintro e w4 ⟨v4, rfl, hown4, hB4, hS4⟩
          go_wp2_with fail
          go_roundw
          case rel => first | exact ⟨1, by omega, rfl, hown4, hBk.trans hB4⟩ | ((repeat apply Exists.intro); exact ⟨⟨1, by omega, rfl, hown4, hBk.trans hB4⟩, rfl⟩)
          case measure => simp [intOf]
        · go_wp2_with fail
          refine (append_any w1.heap.size _ 6 _ _ _ hown (by omega) sk b1).mono ?_
          rintro e w4 ⟨v4, rfl, hown4, hB4, hS4⟩
          go_wp2_with fail
          go_roundw
          case rel => first | exact ⟨2, by omega, rfl, hown4, hBk.trans hB4⟩ | ((repeat apply Exists.intro); exact ⟨⟨2, by omega, rfl, hown4, hBk.trans hB4⟩, rfl⟩)
          case measure => simp [intOf]
        · go_wp2_with fail
          refine (append_any w1.heap.size _ 8 _ _ _ hown (by omega) sk b2).mono ?_
          rintro e w4 ⟨v4, rfl, hown4, hB4, hS4⟩
          go_wp2_with fail
          go_roundw
          case rel => first | exact ⟨3, by omega, rfl, hown4, hBk.trans hB4⟩ | ((repeat apply Exists.intro); exact ⟨⟨3, by omega, rfl, hown4, hBk.trans hB4⟩, rfl⟩)
          case measure => simp [intOf]
        · go_wp2_with fail
          refine (append_any w1.heap.size _ 10 _ _ _ hown (by omega) sk b3).mono ?_
          rintro e w4 ⟨v4, rfl, hown4, hB4, hS4⟩
          go_wp2_with fail
          go_roundw
          case rel => first | exact ⟨4, by omega, rfl, hown4, hBk.trans hB4⟩ | ((repeat apply Exists.intro); exact ⟨⟨4, by omega, rfl, hown4, hBk.trans hB4⟩, rfl⟩)
          case measure => simp [intOf]
        · go_wp2_with fail
          go_ret2
          exact ⟨_, rfl, ownsRow_mono hown (by omega), hB.trans (hBk.mono (by omega))⟩

end Go.Proofs.YtgfahkgnblkhaaaGreatDoor
