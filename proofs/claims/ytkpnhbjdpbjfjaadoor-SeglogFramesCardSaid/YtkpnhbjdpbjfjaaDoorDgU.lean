/-
  The landed digest's Sum256.
-/
import Derived.Test.YtkpnhbjdpbjfjaaDoorDgT
import Derived.Test.YtkpnhbjdpbjfjaaDoorDgP
import Derived.Test.YtkpnhbjdpbjfjaaDoorDgO
import Derived.Test.YtkpnhbjdpbjfjaaDoorEnN
namespace Go.Proofs.YtkpnhbjdpbjfjaaDoor
open Go.RowKit
set_option linter.unusedVariables false
set_option maxRecDepth 100000

theorem OwnR.mono {w : World} {base base' : Nat} {v : Value} {l : Bs} (h : OwnR w base v l) (hb : base' ≤ base) : OwnR w base' v l := by
  obtain ⟨h1, h2⟩ := h
  refine ⟨h1, ?_⟩
  rcases h2 with h2 | ⟨g, cap, cur, hv, hg, r⟩
  · exact .inl h2
  · exact .inr ⟨g, cap, cur, hv, by omega, r⟩
theorem fromV_app (V : V8) (l : Bs) (k j : Nat) : fromV V l (k + j) = fromV (fromV V l k) (l.drop (64 * k)) j := by
  induction j with
  | zero => rfl
  | succ j ih =>
    rw [← Nat.add_assoc, fromV, fromV, ih, List.drop_drop, Nat.mul_add]
theorem fromV_take (V : V8) (l : Bs) (m : Nat) : ∀ k, 64 * k ≤ m → fromV V (l.take m) k = fromV V l k
  | 0, _ => rfl
  | k + 1, h => by
    rw [fromV, fromV, fromV_take V l m k (by omega), List.drop_take, List.take_take, Nat.min_eq_left (by omega)]
theorem fromV_left (V : V8) (x y : Bs) (k : Nat) (h : 64 * k ≤ x.length) : fromV V (x ++ y) k = fromV V x k := by
  rw [← fromV_take V (x ++ y) x.length k h, List.take_left]
theorem stateAt_from (p : Bs) : ∀ n, stateAt p n = fromV firstV p n
  | 0 => rfl
  | n + 1 => by rw [stateAt, fromV, stateAt_from p n]
attribute [local go_sem ↓] exec_load8 exec_store8
abbrev Z8 : Array Value := #[.int .u32 0, .int .u32 0, .int .u32 0, .int .u32 0, .int .u32 0, .int .u32 0, .int .u32 0, .int .u32 0]
abbrev I8 : Array Value := #[.int .u32 1779033703, .int .u32 3144134277, .int .u32 1013904242, .int .u32 2773480762, .int .u32 1359893119, .int .u32 2600822924, .int .u32 528734635, .int .u32 1541459225]
structure BY (W : World) (C : Array Value) (wr : World) : Prop where
  r0 : wr.heap[W.heap.size]? = some (.cells C 33 (0, 0))
  k : TabK wr
  b : Below W.heap.size W wr
theorem BY.on {W wr w1 : World} {C : Array Value} (h : BY W C wr) (k : Below wr.heap.size wr w1) : BY W C w1 := ⟨(k.block _ (Array.getElem?_eq_some_iff.1 h.r0).1).trans h.r0, h.k.on k, Below.trans h.b (k.mono h.b.size)⟩
theorem BY.drew {W wr : World} {C : Array Value} (h : BY W C wr) : BY W C wr.drew := ⟨h.r0, h.k, Below.drew h.b⟩
theorem BY.set {W wr : World} {C : Array Value} (hT : TabK W) (h : BY W C wr) (C' : Array Value) : BY W C' (wr.setRow W.heap.size C') := ⟨setRow_heap _ _ _ _ _ _ h.r0, hT.on (Below.setRow h.b (Nat.le_refl _) _), Below.setRow h.b (Nat.le_refl _) _⟩
set_option maxHeartbeats 2000000 in
set_option maxRecDepth 100000 in
theorem Sum_any (A : Option Addr) (l : Bs) (c : Nat) (w : World) (hb : Sl w A c l) (hl : l.length ≤ 140737488351232) (hT : TabK w) :
    Calls Tryd.prog 7 #[.slice A l.length c] w fun e w' => ∃ v, e = .returned v ∧ OwnR w' w.heap.size v (sha l) ∧ Below w.heap.size w w' := by
  obtain ⟨W0, hW0⟩ : ∃ W0, W0 = (w.alloc (.cells Z8 33)).setRow w.heap.size I8 := ⟨_, rfl⟩
  have b0 : Below w.heap.size w W0 := by rw [hW0]; exact Below.setRow (Below.alloc (Below.refl _ _) (Nat.le_refl _) _) (Nat.le_refl _) _
  have X0 : BY w I8 W0 := ⟨by rw [hW0]; exact setRow_heap _ _ _ _ _ _ (row_new _ rfl), hT.on b0, b0⟩
  have F00 : store8 (.pointer (some ⟨w.heap.size, 0, none⟩)) (.agg I8) (w.alloc (.cells Z8 33)) = .ok .skip ((w.alloc (.cells Z8 33)).setRow w.heap.size I8) := store8_row (row_new _ rfl) rfl rfl (by simp [I8, Value.oneCell'])
  rw [← hW0] at F00
  obtain ⟨k, hk⟩ : ∃ k, k = l.length / 64 := ⟨_, rfl⟩
  have hrun1 := slice_pre A l c (64 * k) (64 * (k : Int)) (by omega) hb.le (by omega)
  have hl1 : (l.take (64 * k)).length = 64 * k := by rw [List.length_take]; omega
  have hS1 : Sl w A c (l.take (64 * k)) := ⟨hb.bys.pre _, by rw [hl1]; have := hb.le; omega, hb.max, hb.nil⟩
  obtain ⟨A2, hrun2, hS2, -⟩ := hb.rest (64 * k) (64 * (k : Int)) (by omega) (by omega)
  have hl2 : (l.drop (64 * k)).length < 64 := by rw [List.length_drop]; omega
  obtain ⟨n, hn⟩ : ∃ n, n = l.length := ⟨_, rfl⟩
  have HW0 := Lib.hid hW0
  have HX0 := Lib.hid X0
  have HD : Hid ((n : Int) / 64 * 64 = 64 * (k : Int)) := Lib.hid (by omega)
  rw [← hn] at hrun1 hrun2 hl hk ⊢
  have HNL := Lib.hid hn
  have HK := Lib.hid hk
  clear hW0 X0 b0 hn hk
  go_enter Tryd.func7, Tryd.ntmps7
  go_wp2_with fail
  clear F00
  rw [HD.out]
  have hX := HX0.out.drew
  have F0 := load8_row hX.r0 rfl
  obtain ⟨U, hU⟩ : ∃ U, U = fromV firstV l k := ⟨_, rfl⟩
  have K1 : Hid (∀ W', BY w I8 W' → Calls Tryd.prog 14 #[.agg I8, .slice A (64 * k) c] W' fun e w' => e = .returned (.agg (cells8 U)) ∧ Below W'.heap.size W' w') := Lib.hid (fun W' h => by
    rw [hU]
    have hm := mixAll_any firstV A (l.take (64 * k)) c k W' firstV_ok (hS1.on h.b) hl1 h.k
    rw [hl1, fromV_take firstV l _ k (Nat.le_refl _)] at hm
    exact hm)
  have HU := Lib.hid hU
  clear hU
  go_still_tail 4, (by kernel_rfl)
  change wpList _ _ _ _ _ W0.drew
  go_wp2_with fail
  refine (K1.out _ hX).mono ?_
  rintro e w1 ⟨rfl, hBx⟩
  have hX1 := hX.on hBx
  have hVok := fromV_ok firstV_ok l k
  rw [← HU.out] at hVok
  have F1 := store8_row (C := cells8 U) hX1.r0 rfl rfl (by simp [u32V, Value.oneCell'])
  have hX2 := hX1.set hT (cells8 U)
  clear F0 hX hX1 hBx K1
  go_wp2_with fail
  clear F1
  generalize w1.setRow w.heap.size (cells8 U) = w2 at *
  obtain ⟨T, hTT⟩ : ∃ T, T = tailB (l.drop (64 * k)) n := ⟨_, rfl⟩
  have hpad : padded l = l.take (64 * k) ++ T := by
    rw [hTT, HNL.out]
    exact padded_tail l k (by have := HNL.out; have := HK.out; omega)
  obtain ⟨j, hj⟩ : ∃ j, T.length = 64 * j := by
    have h1 := padded_blocks l
    rw [hpad, List.length_append, hl1] at h1
    exact ⟨T.length / 64, by omega⟩
  have HSH : Hid (sha l = outB (fromV U T j) 8) := Lib.hid (by
    unfold sha outB
    rw [stateAt_from, hpad, List.length_append, hl1, hj, show (64 * k + 64 * j) / 64 = k + j by omega, fromV_app, fromV_left _ _ _ _ (by rw [hl1]; omega), fromV_take _ _ _ _ (Nat.le_refl _), ← HU.out, List.drop_append_of_le_length (by rw [hl1]; omega), List.drop_of_length_le (by rw [hl1]; omega), List.nil_append, List.take_of_length_le (by simp [V8.list])])
  obtain ⟨C1, hC1⟩ : ∃ C1, C1 = cells8 U := ⟨_, rfl⟩
  try rw [← hC1]
  obtain ⟨m2, hm2⟩ : ∃ m2, m2 = (l.drop (64 * k)).length := ⟨_, rfl⟩
  rw [← hC1] at hX2
  rw [← hm2] at hrun2 hl2
  have K2 : Hid (∀ W', BY w C1 W' → Calls Tryd.prog 15 #[.slice A2 m2 (c - 64 * k), .int .i64 n] W' fun e w' => ∃ A3 c3, e = .returned (.slice A3 (64 * j) c3) ∧ Sl w' A3 c3 T ∧ Below W'.heap.size W' w') := Lib.hid (fun W' h => by
    have hlb := lastBlocks_any A2 (l.drop (64 * k)) (c - 64 * k) n W' (hS2.on h.b) (by omega) (by omega)
    rw [← hm2, ← hTT] at hlb
    refine hlb.mono ?_
    rintro e w' ⟨v, rfl, ho, hB⟩
    obtain ⟨A3, c3, rfl, hs⟩ := ho.bysN
    exact ⟨A3, c3, by rw [hj], hs, hB⟩)
  obtain ⟨C, hC⟩ : ∃ C, C = cells8 (fromV U T j) := ⟨_, rfl⟩
  have K3 : Hid (∀ W' A3 c3, BY w C1 W' → Sl W' A3 c3 T → Calls Tryd.prog 14 #[.agg C1, .slice A3 (64 * j) c3] W' fun e w' => e = .returned (.agg C) ∧ Below W'.heap.size W' w') := Lib.hid (fun W' A3 c3 h hs => by
    have hm := mixAll_any U A3 T c3 j W' hVok hs hj h.k
    rw [hj] at hm
    rw [hC1, hC]
    exact hm)
  have hVok2 := fromV_ok hVok T j
  generalize fromV U T j = Z at *
  have sC : C.size = 8 := by rw [hC]; rfl
  have F0 : ∀ W', BY w C1 W' → load8 (.pointer (some ⟨w.heap.size, 0, none⟩)) W' = .ok (.value (.agg C1)) W' := fun W' h => load8_row h.r0 (by rw [hC1]; rfl)
  have F1 : ∀ W', BY w C1 W' → store8 (.pointer (some ⟨w.heap.size, 0, none⟩)) (.agg C) W' = .ok .skip (W'.setRow w.heap.size C) := fun W' h => store8_row h.r0 (by rw [hC1]; rfl) sC (by rw [hC]; simp [u32V, Value.oneCell'])
  have HI : Hid (∀ i : Nat, i < 8 → ∀ W : World, (Instr.index 33 (.agg C) (.int .i64 (i : Int))).run Tryd.prog W = .ok (.int .u32 (Z.list.getD i 0 : Nat)) W) := Lib.hid (fun i hi W => by rw [hC]; exact idx8 Z i hi W)
  obtain ⟨i0, hi, hz0, hz1, hz2⟩ := info_parts info_u8
  obtain ⟨M, hM⟩ : ∃ M, M = madeCells (Value.int .u8 0).cells (((32 : Nat) : Int).toNat * i0.size) := ⟨_, rfl⟩
  have hMs : M.size = 32 * 1 := by rw [hM, size_madeCells, hz1]; simp
  have hmk : ∀ W : World, (Instr.makeSlice 22 (.int .i64 0) (.int .i64 32)).run Tryd.prog W = .ok (.slice (some ⟨W.heap.size, 0, none⟩) 0 32) (W.alloc (.cells M 5)) := fun W => by
    have h := run_make (P := Tryd.prog) W 22 5 i0 (.int .u8 0) Tryd.underlying22 hi hz0 .i64 .i64 0 (32 : Int) (by omega) (by omega) (by rw [hz2]; omega) (by omega)
    rw [show ((32 : Int).toNat * i0.size) = (((32 : Nat) : Int).toNat * i0.size) from rfl, ← hM] at h
    simpa using h
  have HO : Hid (∀ W : World, OwnR (W.alloc (.cells M 5)) W.heap.size (.slice (some ⟨W.heap.size, 0, none⟩) 0 32) []) := Lib.hid (fun W => World.ownsRow_made W M 32 (Nat.le_refl _) (by unfold maxLen; omega) hMs)
  clear hM hMs hi hz0 hz1 hz2 hC
  have hX3 := hX2.drew
  clear hC1 hm2 hTT hpad hj hVok hS1 hS2 hb hl1
  go_wp2_with fail
  go_region_law ((first
          | (go_simp; go_at_call 14; (with_reducible refine (K3.out _ _ _ (by assumption) (by assumption)).mono ?_); rintro e w' ⟨rfl, hBx⟩; have hX4 := BY.on (by assumption) hBx)
          | (go_simp; go_at_call 15; (with_reducible refine (K2.out _ (by assumption)).mono ?_); rintro e w' ⟨A3, c3, rfl, hs3, hBx⟩; have hX4 := BY.on (by assumption) hBx)))
  all_goals
    have hX5 := BY.set hT (by assumption : BY w C1 _) C
    generalize w'.setRow w.heap.size C = w5 at *
    have hX6 : BY w C (w5.alloc (.cells M 5)) := hX5.on (Below.alloc (Below.refl _ _) (Nat.le_refl _) _)
    have FL := load8_row hX6.r0 sC
    have O0 := Lib.hid ((HO.out w5).mono hX5.b.size)
    have B0 := Lib.hid hX6.b
    clear hX5 hX6 F0 F1 K2 K3 hX2 hX3 hrun1 hrun2 HW0 HX0 HD HO
    go_wp2_with fail
    go_loopw [5, 28] (fun v5 v28 w3 => ∃ i : Nat, v28 = .int .i64 i ∧ i ≤ 8 ∧ OwnR w3 w.heap.size v5 (outB Z i) ∧ Below w.heap.size w w3) (fun _ v28 _ => 8 - (intOf v28).toNat)
    case atStart => exact ⟨0, rfl, by omega, O0.out, B0.out⟩
    case round =>
      clear O0 B0 FL hmk
      obtain ⟨i, rfl, hi8, ho, hk3⟩ := hrel
      rename World => wr
      have hw3 := hk3.size
      by_cases hj8 : i < 8
      · have hj8' : (i : Int) < 8 := by omega
        have hix := fun W => HI.out i hj8 W
        have hx := hVok2.at i hj8
        have hsu := outB_succ Z i hj8
        have hln := outB_len Z i hi8
        obtain ⟨x, hx0⟩ : ∃ x, x = Z.list.getD i 0 := ⟨_, rfl⟩
        rw [← hx0] at hx hsu
        simp only [← hx0] at hix
        obtain ⟨e0, he0⟩ : ∃ b, b = UInt8.ofNat (x >>> 24) := ⟨_, rfl⟩
        obtain ⟨e1, he1⟩ : ∃ b, b = UInt8.ofNat (x >>> 16) := ⟨_, rfl⟩
        obtain ⟨e2, he2⟩ : ∃ b, b = UInt8.ofNat (x >>> 8) := ⟨_, rfl⟩
        obtain ⟨e3, he3⟩ : ∃ b, b = UInt8.ofNat x := ⟨_, rfl⟩
        have f0 : IntKind.u8.wrap ((x : Int) / 16777216) = (e0.toNat : Int) := by rw [he0]; have := u8_part x 24; simpa using this
        have f1 : IntKind.u8.wrap ((x : Int) / 65536) = (e1.toNat : Int) := by rw [he1]; have := u8_part x 16; simpa using this
        have f2 : IntKind.u8.wrap ((x : Int) / 256) = (e2.toNat : Int) := by rw [he2]; have := u8_part x 8; simpa using this
        have f3 : IntKind.u8.wrap (x : Int) = (e3.toNat : Int) := by rw [he3]; exact u8_at x
        have hb4 : bytes4 x = [e0, e1, e2, e3] := by rw [he0, he1, he2, he3]; rfl
        rw [hb4] at hsu
        obtain ⟨A8, c8, rfl, -⟩ := ho.ownB.bysN
        obtain ⟨P8, hP8⟩ : ∃ P, P = outB Z i := ⟨_, rfl⟩
        rw [← hP8] at ho hsu hln
        rw [← hP8]
        obtain ⟨m8, hm8⟩ : ∃ m, m = P8.length := ⟨_, rfl⟩
        rw [← hm8] at ho
        rw [← hm8]
        have O4 := Lib.hid (ho.alloc (.cells #[.int .u8 e0.toNat, .int .u8 e1.toNat, .int .u8 e2.toNat, .int .u8 e3.toNat] 5))
        have S4 := Lib.hid (Sl.made (w := wr) (t := 5) (l := [e0, e1, e2, e3]) (cs := #[.int .u8 e0.toNat, .int .u8 e1.toNat, .int .u8 e2.toNat, .int .u8 e3.toNat]) rfl (by simp))
        have K4 := Lib.hid (Below.alloc (o := .cells #[.int .u8 e0.toNat, .int .u8 e1.toNat, .int .u8 e2.toNat, .int .u8 e3.toNat] 5) hk3 hk3.size)
        have HSU := Lib.hid hsu
        have HLN := Lib.hid hln
        have q4 : w.heap.size ≤ (wr.alloc (.cells #[.int .u8 e0.toNat, .int .u8 e1.toNat, .int .u8 e2.toNat, .int .u8 e3.toNat] 5)).heap.size := by simp; omega
        clear hb4 he0 he1 he2 he3 hx0 hP8 hm8 ho hk3 hsu hln
        go_wp2_with (first
          | (at_builtin; refine wpList_appR rfl (.tmp 31) (.tmp 43) rfl w.heap.size _ P8 rfl O4.out _ 4 4 rfl [e0, e1, e2, e3] rfl S4.out.bys (fun h => by cases h) (by have := HLN.out; simp; omega) q4 ?_)
          | fail)
        intro v9 w9 ho9 hg9
        have H9 : Hid (OwnR w9 w.heap.size v9 (outB Z (i + 1))) := Lib.hid (by rw [HSU.out]; exact ho9)
        have K9 := Lib.hid (K4.out.grown hg9 q4 (fun k hk => (O4.out.ownB.lt k hk).1))
        clear ho9 hg9 O4 S4 K4
        go_wp2_with fail
        go_roundw
        case rel => exact ⟨i + 1, by go_num, by omega, H9.out, K9.out⟩
        case measure => simp [intOf]; omega
      · have hj8' : ¬ (i : Int) < 8 := by omega
        have hj88 : i = 8 := by omega
        subst hj88
        have HF : Hid (OwnR _ w.heap.size _ (sha l)) := Lib.hid (by rw [HSH.out]; exact ho)
        have KF := Lib.hid hk3
        clear ho hk3 HSH HI
        go_wp2_with fail
        go_ret
        exact ⟨_, rfl, HF.out, KF.out⟩
end Go.Proofs.YtkpnhbjdpbjfjaaDoor
