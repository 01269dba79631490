/-
  The landed digest's mix: the state behind one block's words.
-/
import Derived.Test.YtkpnhbjdpbjfjaaDoorDgR
import Derived.Test.YtkpnhbjdpbjfjaaDoorDgM
namespace Go.Proofs.YtkpnhbjdpbjfjaaDoor
open Go.RowKit
set_option linter.unusedVariables false
set_option maxRecDepth 100000

/-- The table of the rounds' words lies where the program put it. -/
def TabK (w : World) : Prop := ∀ j, j < 64 → w.cell? ⟨0, j, none⟩ = some (.int .u32 (roundKs.getD j 0 : Nat))
theorem TabK.on {w w1 : World} (h : TabK w) (k : Below w.heap.size w w1) : TabK w1 := fun j hj => cell_on (h j hj) k
def agg8 (V : V8) : Value := .agg (V.list.map u32V).toArray
def aggW (ws : List Nat) : Value := .agg (ws.map u32V).toArray
structure MX (W : World) (V : V8) (ws : List Nat) (wr : World) : Prop where
  r0 : wr.heap[W.heap.size]? = some (.cells (V.list.map u32V).toArray 33 (0, 0))
  r1 : Arr wr (W.heap.size + 1) ws
  r2 : wr.heap[W.heap.size + 1 + 1]? = some (.cells #[.int .u32 0, .int .u32 0, .int .u32 0, .int .u32 0, .int .u32 0, .int .u32 0, .int .u32 0, .int .u32 0] 33 (0, 0))
  k : TabK wr
  b : Below W.heap.size W wr
theorem MX.drewN {W wr : World} {V : V8} {ws : List Nat} (h : MX W V ws wr) (m : Nat) : MX W V ws (wr.drewN m) := ⟨h.r0, h.r1, h.r2, h.k, below_drewN h.b m⟩
theorem s0_eq {a : Nat} (la : a < 4294967296) : bits .xor .u32 (bits .xor .u32 ((rotr a 2 : Nat) : Int) ((rotr a 13 : Nat) : Int)) ((rotr a 22 : Nat) : Int) = ((bigS0 a : Nat) : Int) := by
  rw [xor_u32 _ _ (rotr_lt la) (rotr_lt la), xor_u32 _ _ (xor_lt32 (rotr_lt la) (rotr_lt la)) (rotr_lt la)]
  rfl
theorem s1_eq {a : Nat} (la : a < 4294967296) : bits .xor .u32 (bits .xor .u32 ((rotr a 6 : Nat) : Int) ((rotr a 11 : Nat) : Int)) ((rotr a 25 : Nat) : Int) = ((bigS1 a : Nat) : Int) := by
  rw [xor_u32 _ _ (rotr_lt la) (rotr_lt la), xor_u32 _ _ (xor_lt32 (rotr_lt la) (rotr_lt la)) (rotr_lt la)]
  rfl
theorem cho_eq {ex f gx : Nat} (le : ex < 4294967296) (lf : f < 4294967296) (lg : gx < 4294967296) : bits .xor .u32 (bits .and .u32 (ex : Int) (f : Int)) (bits .and .u32 (bits .xor .u32 IntKind.u32.max (ex : Int)) (gx : Int)) = ((cho ex f gx : Nat) : Int) := by
  rw [show IntKind.u32.max = ((4294967295 : Nat) : Int) from rfl]
  rw [and_u32 _ _ le lf, xor_u32 _ _ (by omega) le, and_u32 _ _ (xor_lt32 (by omega) le) lg, xor_u32 _ _ (and_lt32 le) (and_lt32 (xor_lt32 (by omega) le))]
  rfl
theorem maj_eq {a b cx : Nat} (la : a < 4294967296) (lb : b < 4294967296) (lc : cx < 4294967296) : bits .xor .u32 (bits .xor .u32 (bits .and .u32 (a : Int) (b : Int)) (bits .and .u32 (a : Int) (cx : Int))) (bits .and .u32 (b : Int) (cx : Int)) = ((maj a b cx : Nat) : Int) := by
  rw [and_u32 _ _ la lb, and_u32 _ _ la lc, and_u32 _ _ lb lc, xor_u32 _ _ (and_lt32 la) (and_lt32 la), xor_u32 _ _ (xor_lt32 (and_lt32 la) (and_lt32 la)) (and_lt32 lb)]
  rfl
theorem idx8 (U : V8) (j : Nat) (hj : j < 8) (w : World) : (Instr.index 33 (.agg #[.int .u32 (U.a : Nat), .int .u32 (U.b : Nat), .int .u32 (U.c : Nat), .int .u32 (U.d : Nat), .int .u32 (U.e : Nat), .int .u32 (U.f : Nat), .int .u32 (U.g : Nat), .int .u32 (U.h : Nat)]) (.int .i64 (j : Int))).run Tryd.prog w = .ok (.int .u32 (U.list.getD j 0 : Nat)) w := by
  have h : j = 0 ∨ j = 1 ∨ j = 2 ∨ j = 3 ∨ j = 4 ∨ j = 5 ∨ j = 6 ∨ j = 7 := by omega
  rcases h with rfl | rfl | rfl | rfl | rfl | rfl | rfl | rfl
  all_goals exact rfl
theorem info_arr8 : (Tryd.prog.info? 33).map (·.size) = some 8 := rfl
/-- An array of words loaded, stored whole: the walk does not open them. -/
noncomputable def load8 (v : Value) (w : World) : Result Next := ((Instr.loadAt 33 v).run Tryd.prog w).andThen fun a w' => .ok (.value a) w'
theorem exec_load8 (ev : Operand → Value) (d : Option Tmp) (x : Operand) (t : TypeId) (p : String) (f : Array Edge) (gd : Option (Nat × Bool)) (w : World) : (execOp ev { dst := d, op := .load 33 x, type := t, pos := p, after := f, guard := gd }).run Tryd.prog w = load8 (ev x) w := by
  unfold execOp load8
  simp only [Sem.run_bind, Sem.run_pure]
theorem load8_row {w1 : World} {g : Nat} {C : Array Value} (h : w1.heap[g]? = some (.cells C 33 (0, 0))) (hC : C.size = 8) : load8 (.pointer (some ⟨g, 0, none⟩)) w1 = .ok (.value (.agg C)) w1 := by
  unfold load8
  simp only [Instr.loadAt, Instr.sureAddr, Sem.run_bind, Sem.run_pure, Result.andThen_ok, run_loadVar_row w1 g 33 33 C (0, 0) _ h Tryd.underlying33 rfl (by rw [info_arr8, hC])]
noncomputable def store8 (v u : Value) (w : World) : Result Next := ((Instr.storeAt 33 v u).run Tryd.prog w).andThen fun _ w' => .ok .skip w'
theorem exec_store8 (ev : Operand → Value) (d : Option Tmp) (x y : Operand) (t : TypeId) (p : String) (f : Array Edge) (gd : Option (Nat × Bool)) (w : World) : (execOp ev { dst := d, op := .store 33 x y, type := t, pos := p, after := f, guard := gd }).run Tryd.prog w = store8 (ev x) (ev y) w := by
  unfold execOp store8
  simp only [Sem.run_bind, Sem.run_pure]
theorem store8_row {w1 : World} {g : Nat} {old C : Array Value} (h : w1.heap[g]? = some (.cells old 33 (0, 0))) (ho : old.size = 8) (hC : C.size = 8) (h1 : C.all (·.oneCell') = true) : store8 (.pointer (some ⟨g, 0, none⟩)) (.agg C) w1 = .ok .skip (w1.setRow g C) := by
  unfold store8
  simp only [Instr.storeAt, Instr.sureAddr, Sem.run_bind, Sem.run_pure, Result.andThen_ok, run_storeVar_row w1 g 33 33 old C h (by rw [info_arr8, hC]) (by rw [ho, hC]) h1]
attribute [local go_sem ↓] exec_load8 exec_store8
set_option maxHeartbeats 2000000 in
set_option maxRecDepth 100000 in
theorem mix_any (V : V8) (ws : List Nat) (W : World) (hV : V.Ok) (hw : ws.length = 64) (hwl : ∀ x ∈ ws, x < 4294967296) (hT : TabK W) : Calls Tryd.prog 21 #[agg8 V, aggW ws] W fun e w' => e = .returned (agg8 (V.add (roundsOf V ws 64))) ∧ Below W.heap.size W w' := by
  unfold agg8 aggW
  obtain ⟨UU, hUU⟩ : ∃ UU, UU = roundsOf V ws 64 := ⟨_, rfl⟩
  have hUok := roundsOf_ok hV ws 64
  rw [← hUU] at hUok ⊢
  have HUU := Lib.hid hUU
  clear hUU
  obtain ⟨W0, hW0⟩ : ∃ W0, W0 = ((W.alloc (.cells (V.list.map u32V).toArray 33)).alloc (.cells (ws.map u32V).toArray 42)).alloc (.cells #[.int .u32 0, .int .u32 0, .int .u32 0, .int .u32 0, .int .u32 0, .int .u32 0, .int .u32 0, .int .u32 0] 33) := ⟨_, rfl⟩
  have r0 : W0.heap[W.heap.size]? = some (.cells (V.list.map u32V).toArray 33 (0, 0)) := by rw [hW0]; exact row_old _ (row_old _ (row_new _ rfl))
  have r1 : Arr W0 (W.heap.size + 1) ws := by rw [hW0]; exact row_old _ (row_new _ (by simp))
  have r2 : W0.heap[W.heap.size + 1 + 1]? = some (.cells #[.int .u32 0, .int .u32 0, .int .u32 0, .int .u32 0, .int .u32 0, .int .u32 0, .int .u32 0, .int .u32 0] 33 (0, 0)) := by rw [hW0]; exact row_new _ (by simp)
  have b0 : Below W.heap.size W W0 := by rw [hW0]; exact Below.alloc (Below.alloc (Below.alloc (Below.refl _ _) (Nat.le_refl _) _) (by simp) _) (by simp; omega) _
  have hc : ∀ j, j < 8 → W0.cell? ⟨W.heap.size, j, none⟩ = some (.int .u32 (V.list.getD j 0 : Nat)) := fun j hj => by
    rw [cell_of_row _ _ _ _ _ _ r0]
    have : V.list.length = 8 := rfl
    simp [u32V, List.getD_eq_getElem?_getD, this, hj]
  have HW0 := Lib.hid hW0
  have R0 := Lib.hid r0
  have R1 := Lib.hid r1
  have R2 := Lib.hid r2
  have B0 := Lib.hid b0
  have HK := Lib.hid (hT.on b0)
  clear hW0 r0 r1 r2 b0 hT
  have y0 : W0.cell? ⟨W.heap.size, 0, none⟩ = some (.int .u32 (V.a : Nat)) := hc 0 (by omega)
  have y1 : W0.cell? ⟨W.heap.size, 1, none⟩ = some (.int .u32 (V.b : Nat)) := hc 1 (by omega)
  have y2 : W0.cell? ⟨W.heap.size, 2, none⟩ = some (.int .u32 (V.c : Nat)) := hc 2 (by omega)
  have y3 : W0.cell? ⟨W.heap.size, 3, none⟩ = some (.int .u32 (V.d : Nat)) := hc 3 (by omega)
  have y4 : W0.cell? ⟨W.heap.size, 4, none⟩ = some (.int .u32 (V.e : Nat)) := hc 4 (by omega)
  have y5 : W0.cell? ⟨W.heap.size, 5, none⟩ = some (.int .u32 (V.f : Nat)) := hc 5 (by omega)
  have y6 : W0.cell? ⟨W.heap.size, 6, none⟩ = some (.int .u32 (V.g : Nat)) := hc 6 (by omega)
  have y7 : W0.cell? ⟨W.heap.size, 7, none⟩ = some (.int .u32 (V.h : Nat)) := hc 7 (by omega)
  clear hc
  go_enter Tryd.func21, Tryd.ntmps21
  go_wp2_with fail
  rw [← HW0.out]
  go_quiet (fail)
  clear y0 y1 y2 y3 y4 y5 y6 y7
  have HM : Hid (MX W V ws (W0.drewN nq)) := Lib.hid ⟨R0.out, R1.out, R2.out, HK.out, below_drewN B0.out nq⟩
  clear HW0 R0 R1 R2 HK B0
  generalize W0.drewN nq = W1 at *
  go_wp2_with fail
  go_loopw [38, 5, 6, 7, 8, 9, 10, 11, 12] (fun v38 v5 v6 v7 v8 v9 v10 v11 v12 wr => ∃ i : Nat, v38 = .int .i64 i ∧ i ≤ 64 ∧ v5 = .int .u32 ((roundsOf V ws i).a : Nat) ∧ v6 = .int .u32 ((roundsOf V ws i).b : Nat) ∧ v7 = .int .u32 ((roundsOf V ws i).c : Nat) ∧ v8 = .int .u32 ((roundsOf V ws i).d : Nat) ∧ v9 = .int .u32 ((roundsOf V ws i).e : Nat) ∧ v10 = .int .u32 ((roundsOf V ws i).f : Nat) ∧ v11 = .int .u32 ((roundsOf V ws i).g : Nat) ∧ v12 = .int .u32 ((roundsOf V ws i).h : Nat) ∧ MX W V ws wr) (fun v38 _ _ _ _ _ _ _ _ _ => 64 - (intOf v38).toNat)
  case atStart => exact ⟨0, rfl, by omega, rfl, rfl, rfl, rfl, rfl, rfl, rfl, rfl, HM.out⟩
  case round =>
    clear HM
    obtain ⟨i, rfl, hi64, rfl, rfl, rfl, rfl, rfl, rfl, rfl, rfl, hM⟩ := hrel
    rename World => wr
    have hok := roundsOf_ok hV ws i
    by_cases hlt : i < 64
    · have hti : (i : Int) < 64 := by omega
      have HN : Hid (roundsOf V ws (i + 1) = (roundsOf V ws i).next (roundKs.getD i 0) (ws.getD i 0)) := Lib.hid rfl
      generalize roundsOf V ws i = U at *
      obtain ⟨a, b, cx, d, ex, f, gx, hx⟩ := U
      obtain ⟨la, lb, lc, ld, le, lf, lg, lh⟩ := hok
      dsimp only at la lb lc ld le lf lg lh
      have HM := Lib.hid hM
      clear hM
      have hsg : IntKind.u32.signed = false := rfl
      have A2 : Hid (∀ W, Calls Tryd.prog 26 #[.int .u32 a, .int .i64 2] W fun e w' => e = .returned (.int .u32 (rotr a 2)) ∧ ∃ m, w' = W.drewN m) := Lib.hid (fun W => right_any a 2 W la (by omega) (by omega))
      have A13 : Hid (∀ W, Calls Tryd.prog 26 #[.int .u32 a, .int .i64 13] W fun e w' => e = .returned (.int .u32 (rotr a 13)) ∧ ∃ m, w' = W.drewN m) := Lib.hid (fun W => right_any a 13 W la (by omega) (by omega))
      have A22 : Hid (∀ W, Calls Tryd.prog 26 #[.int .u32 a, .int .i64 22] W fun e w' => e = .returned (.int .u32 (rotr a 22)) ∧ ∃ m, w' = W.drewN m) := Lib.hid (fun W => right_any a 22 W la (by omega) (by omega))
      have E6 : Hid (∀ W, Calls Tryd.prog 26 #[.int .u32 ex, .int .i64 6] W fun e w' => e = .returned (.int .u32 (rotr ex 6)) ∧ ∃ m, w' = W.drewN m) := Lib.hid (fun W => right_any ex 6 W le (by omega) (by omega))
      have E11 : Hid (∀ W, Calls Tryd.prog 26 #[.int .u32 ex, .int .i64 11] W fun e w' => e = .returned (.int .u32 (rotr ex 11)) ∧ ∃ m, w' = W.drewN m) := Lib.hid (fun W => right_any ex 11 W le (by omega) (by omega))
      have E25 : Hid (∀ W, Calls Tryd.prog 26 #[.int .u32 ex, .int .i64 25] W fun e w' => e = .returned (.int .u32 (rotr ex 25)) ∧ ∃ m, w' = W.drewN m) := Lib.hid (fun W => right_any ex 25 W le (by omega) (by omega))
      go_wp2_with fail
      refine (A2.out _).mono ?_
      rintro e w1 ⟨rfl, m, rfl⟩
      have HM := Lib.hid (HM.out.drewN m)
      generalize World.drewN _ m = wr at *
      go_wp2_with fail
      refine (A13.out _).mono ?_
      rintro e w1 ⟨rfl, m, rfl⟩
      have HM := Lib.hid (HM.out.drewN m)
      generalize World.drewN _ m = wr at *
      go_wp2_with fail
      refine (A22.out _).mono ?_
      rintro e w1 ⟨rfl, m, rfl⟩
      have HM := Lib.hid (HM.out.drewN m)
      generalize World.drewN _ m = wr at *
      go_wp2_with fail
      refine (E6.out _).mono ?_
      rintro e w1 ⟨rfl, m, rfl⟩
      have HM := Lib.hid (HM.out.drewN m)
      generalize World.drewN _ m = wr at *
      go_wp2_with fail
      refine (E11.out _).mono ?_
      rintro e w1 ⟨rfl, m, rfl⟩
      have HM := Lib.hid (HM.out.drewN m)
      generalize World.drewN _ m = wr at *
      go_wp2_with fail
      refine (E25.out _).mono ?_
      rintro e w1 ⟨rfl, m, rfl⟩
      have HM := Lib.hid (HM.out.drewN m)
      generalize World.drewN _ m = wr at *
      go_wp2_with fail
      rw [s0_eq la, s1_eq le, cho_eq le lf lg, maj_eq la lb lc]
      have yk := HM.out.k i hlt
      have yw : wr.cell? ⟨W.heap.size + 1, i, none⟩ = some (.int .u32 (ws.getD i 0 : Nat)) := by
        have h := HM.out.r1.cell i (by omega)
        rw [List.getD_eq_getElem?_getD, List.getElem?_eq_getElem (by omega)]
        exact h
      have ei : 0 ≤ (i : Int) ∧ (i : Int) < 64 := by omega
      have HN := Lib.hid (HN.out.trans (next_eq a b cx d ex f gx hx (roundKs.getD i 0) (ws.getD i 0)))
      generalize roundKs.getD i 0 = kx at *
      generalize ws.getD i 0 = wx at *
      generalize bigS0 a = s0 at *
      generalize bigS1 ex = s1 at *
      generalize cho ex f gx = ch at *
      generalize maj a b cx = mj at *
      go_quiet (fail)
      have HM := Lib.hid (HM.out.drewN nq)
      clear yk yw
      generalize World.drewN wr nq = wr at *
      go_wp2_with fail
      refine ⟨⟨i + 1, by go_num, by omega, ?_, ?_, ?_, ?_, ?_, ?_, ?_, ?_, HM.out⟩, by simp [intOf]; omega⟩
      · rw [HN.out]; dsimp only; congr 1
      · rw [HN.out]
      · rw [HN.out]
      · rw [HN.out]
      · rw [HN.out]; dsimp only; congr 1
      · rw [HN.out]
      · rw [HN.out]
      · rw [HN.out]
    · obtain rfl : i = 64 := by omega
      have HM := Lib.hid hM
      clear hM hlt hi64
      rw [← HUU.out]
      have hidx := fun j hj w => idx8 UU j hj w
      go_wp2_with fail
      go_loopw [114] (fun v114 wr => ∃ j : Nat, v114 = .int .i64 j ∧ j ≤ 8 ∧ wr.heap[W.heap.size]? = some (.cells ((mixL V UU j).map u32V).toArray 33 (0, 0)) ∧ wr.heap[W.heap.size + 1 + 1]? = some (.cells #[.int .u32 0, .int .u32 0, .int .u32 0, .int .u32 0, .int .u32 0, .int .u32 0, .int .u32 0, .int .u32 0] 33 (0, 0)) ∧ Below W.heap.size W wr) (fun v114 _ => 8 - (intOf v114).toNat)
      case atStart => exact ⟨0, rfl, by omega, by rw [mixL_zero]; exact HM.out.r0, HM.out.r2, HM.out.b⟩
      case round =>
        clear HM
        obtain ⟨j, rfl, hj8, h0, h2, hB⟩ := hrel
        rename World => wr
        by_cases hlt : j < 8
        · have hti : (j : Int) < 8 := by omega
          have ej : 0 ≤ (j : Int) ∧ (j : Int) < 8 := by omega
          have hl8 := mixL_len V UU hj8
          have yj : wr.cell? ⟨W.heap.size, j, none⟩ = some (.int .u32 (V.list.getD j 0 : Nat)) := by
            rw [cell_of_row _ _ _ _ _ _ h0, ← mixL_at V UU hlt]
            simp [u32V, List.getD_eq_getElem?_getD, hl8, hlt]
          have hix := fun w => hidx j hlt w
          clear hidx
          have hol : V.list.getD j 0 < 4294967296 ∧ UU.list.getD j 0 < 4294967296 := by
            match j, hlt with
            | 0, _ => exact ⟨hV.a, hUok.a⟩
            | 1, _ => exact ⟨hV.b, hUok.b⟩
            | 2, _ => exact ⟨hV.c, hUok.c⟩
            | 3, _ => exact ⟨hV.d, hUok.d⟩
            | 4, _ => exact ⟨hV.e, hUok.e⟩
            | 5, _ => exact ⟨hV.f, hUok.f⟩
            | 6, _ => exact ⟨hV.g, hUok.g⟩
            | 7, _ => exact ⟨hV.h, hUok.h⟩
          have hfr : wr.frozen? ⟨W.heap.size, j, none⟩ = false := frozen_of_row _ _ _ _ _ h0
          have HN := Lib.hid (mixL_next V UU hlt)
          generalize V.list.getD j 0 = xv at *
          generalize UU.list.getD j 0 = xu at *
          have H0 := Lib.hid h0
          have H2 := Lib.hid h2
          clear h0 h2
          go_wp2_with fail
          refine ⟨⟨j + 1, by go_num, by omega, ?_, ?_, hB.setCell (Nat.le_refl _) _⟩, by simp [intOf]; omega⟩
          · rw [← HN.out, show (((xv : Int) + xu) % 4294967296) = (((xv + xu) % 4294967296 : Nat) : Int) by omega, row_set _ H0.out]
            congr 2
            apply Array.ext'
            simp [u32V, List.map_set]
          · exact (Below.heap_setCell _ _ _ _ (by simp; omega)).trans H2.out
        · obtain rfl : j = 8 := by omega
          rw [mixL_end] at h0
          obtain ⟨C, hC⟩ : ∃ C, C = ((V.add UU).list.map u32V).toArray := ⟨_, rfl⟩
          have hCs : C.size = 8 := by rw [hC]; rfl
          have hC1 : C.all (·.oneCell') = true := by
            rw [hC]
            simp [u32V, Value.oneCell']
          rw [← hC] at h0
          have hL := load8_row (w1 := wr) (g := W.heap.size) (C := C) h0 hCs
          have hSt := store8_row (w1 := wr) (g := W.heap.size + 1 + 1) (C := C) h2 rfl hCs hC1
          have HC := Lib.hid hC
          clear hC h0 hlt hj8
          go_wp2_with fail
          refine bodyPost_ret (v := .agg C) (results_cell_row (fn := Tryd.f21) (p := 4) (ty := 33) (by kernel_rfl) _ _ (W.heap.size + 1 + 1) 33 C (0, 0) _ rfl (setRow_heap _ _ _ C _ _ h2) Tryd.underlying33 rfl (by rw [info_arr8, hCs])) rfl ?_
          exact ⟨by rw [HC.out], Below.setRow hB (by omega) _⟩
end Go.Proofs.YtkpnhbjdpbjfjaaDoor
