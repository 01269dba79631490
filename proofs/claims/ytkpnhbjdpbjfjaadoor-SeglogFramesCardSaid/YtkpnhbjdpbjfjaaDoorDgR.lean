/-
  The landed digest's spread: the words of a block, in an array.
-/
import Derived.Test.YtkpnhbjdpbjfjaaDoorDgN
import Derived.Test.YtkpnhbjdpbjfjaaDoorSl
import Derived.LoopN
namespace Go.Proofs.YtkpnhbjdpbjfjaaDoor
open Go.RowKit
set_option linter.unusedVariables false
set_option maxRecDepth 100000

/-- An array of 64 words in memory. -/
def Arr (w : World) (g : Nat) (xs : List Nat) : Prop := w.heap[g]? = some (.cells (xs.map u32V).toArray 42 (0, 0))
theorem Arr.cell {w : World} {g : Nat} {xs : List Nat} (h : Arr w g xs) (j : Nat) (hj : j < xs.length) : w.cell? ⟨g, j, none⟩ = some (.int .u32 xs[j]) := by
  rw [cell_of_row _ _ _ _ _ _ h]
  simp [hj, u32V]
theorem Arr.thaw {w : World} {g : Nat} {xs : List Nat} (h : Arr w g xs) (j : Nat) : w.frozen? ⟨g, j, none⟩ = false := frozen_of_row _ _ _ _ _ h
theorem Arr.set {w : World} {g : Nat} {xs : List Nat} (h : Arr w g xs) (j v : Nat) : Arr (w.setCell ⟨g, j, none⟩ (.int .u32 v)) g (xs.set j v) := by
  unfold Arr
  rw [row_set _ h]
  congr 2
  apply Array.ext'
  simp [u32V, List.map_set]
theorem Arr.on {w w1 : World} {g : Nat} {xs : List Nat} (h : Arr w g xs) (hB : Below w.heap.size w w1) : Arr w1 g xs := (hB.block _ (Array.getElem?_eq_some_iff.1 h).1).trans h
abbrev Z64 : Array Value := #[.int .u32 0, .int .u32 0, .int .u32 0, .int .u32 0, .int .u32 0, .int .u32 0, .int .u32 0, .int .u32 0, .int .u32 0, .int .u32 0, .int .u32 0, .int .u32 0, .int .u32 0, .int .u32 0, .int .u32 0, .int .u32 0, .int .u32 0, .int .u32 0, .int .u32 0, .int .u32 0, .int .u32 0, .int .u32 0, .int .u32 0, .int .u32 0, .int .u32 0, .int .u32 0, .int .u32 0, .int .u32 0, .int .u32 0, .int .u32 0, .int .u32 0, .int .u32 0, .int .u32 0, .int .u32 0, .int .u32 0, .int .u32 0, .int .u32 0, .int .u32 0, .int .u32 0, .int .u32 0, .int .u32 0, .int .u32 0, .int .u32 0, .int .u32 0, .int .u32 0, .int .u32 0, .int .u32 0, .int .u32 0, .int .u32 0, .int .u32 0, .int .u32 0, .int .u32 0, .int .u32 0, .int .u32 0, .int .u32 0, .int .u32 0, .int .u32 0, .int .u32 0, .int .u32 0, .int .u32 0, .int .u32 0, .int .u32 0, .int .u32 0, .int .u32 0]
theorem arr_zero {w : World} {g : Nat} (h : w.heap[g]? = some (.cells Z64 42 (0, 0))) : Arr w g (List.replicate 64 0) := h
theorem or_byte (v y : Nat) (hv : v < 16777216) (hy : y < 256) : bits .or .u32 (((v * 256 : Nat) : Int)) ((y : Nat) : Int) = ((v * 256 + y : Nat) : Int) := by
  rw [or_u32 _ _ (by omega) (by omega)]
  congr 1
  have h := Nat.shiftLeft_add_eq_or_of_lt (i := 8) (b := y) (by omega) v
  rw [Nat.shiftLeft_eq, show (2 : Nat) ^ 8 = 256 from rfl] at h
  exact h.symm
/-- What the first j bytes say. -/
def part (q : Bs) (j : Nat) : Nat := (q.take j).foldl (fun v b => v * 256 + b.toNat) 0
theorem part_next (q : Bs) (j : Nat) (hj : j < q.length) : part q (j + 1) = part q j * 256 + q[j].toNat := by
  unfold part
  rw [List.take_add_one, List.getElem?_eq_getElem hj, Option.toList_some, List.foldl_append]
  rfl
theorem part_lt (q : Bs) (j : Nat) (h : j ≤ q.length) : part q j < 256 ^ j := by
  induction j with
  | zero => simp [part]
  | succ j ih =>
    rw [part_next q j (by omega)]
    have := ih (by omega)
    have := q[j].toNat_lt
    rw [Nat.pow_succ]
    omega
theorem words_part (l : Bs) (k : Nat) (hk : k < 16) (hl : l.length = 64) : words l (k + 1) = words l k ++ [part ((l.drop (4 * k)).take 4) 4] := by
  have h4 : ((l.drop (4 * k)).take 4).length = 4 := by rw [List.length_take, List.length_drop]; omega
  have g : ∀ j, j < 4 → l.getD (4 * k + j) 0 = ((l.drop (4 * k)).take 4).getD j 0 := fun j hj => by
    rw [List.getD_eq_getElem?_getD, List.getD_eq_getElem?_getD, List.getElem?_take, if_pos hj, List.getElem?_drop]
  rw [words, if_pos hk, show (4 * k : Nat) = 4 * k + 0 from rfl, g 0 (by omega), g 1 (by omega), g 2 (by omega), g 3 (by omega)]
  rw [Nat.add_zero]
  generalize (l.drop (4 * k)).take 4 = q at *
  congr 2
  match q, h4 with
  | [a, b, c, d], _ =>
    simp [part, wordOf, List.getD]
    omega
theorem set_zero (xs : List Nat) (n : Nat) : (xs ++ List.replicate (n + 1) 0).set xs.length 0 = xs ++ List.replicate (n + 1) 0 := by
  rw [List.replicate_succ, List.set_append]
  simp
theorem set_next (xs : List Nat) (n v : Nat) : (xs ++ List.replicate (n + 1) 0).set xs.length v = (xs ++ [v]) ++ List.replicate n 0 := by
  rw [List.replicate_succ, List.set_append]
  simp
theorem info_arr : (Tryd.prog.info? 42).map (·.size) = some 64 := rfl
/-- An array of words loaded, stored whole: the walk does not open them. -/
noncomputable def loadW (v : Value) (w : World) : Result Next := ((Instr.loadAt 42 v).run Tryd.prog w).andThen fun a w' => .ok (.value a) w'
theorem exec_loadW (ev : Operand → Value) (d : Option Tmp) (x : Operand) (t : TypeId) (p : String) (f : Array Edge) (gd : Option (Nat × Bool)) (w : World) : (execOp ev { dst := d, op := .load 42 x, type := t, pos := p, after := f, guard := gd }).run Tryd.prog w = loadW (ev x) w := by
  unfold execOp loadW
  simp only [Sem.run_bind, Sem.run_pure]
theorem loadW_row {w1 : World} {g : Nat} {C : Array Value} (h : w1.heap[g]? = some (.cells C 42 (0, 0))) (hC : C.size = 64) : loadW (.pointer (some ⟨g, 0, none⟩)) w1 = .ok (.value (.agg C)) w1 := by
  unfold loadW
  simp only [Instr.loadAt, Instr.sureAddr, Sem.run_bind, Sem.run_pure, Result.andThen_ok, run_loadVar_row w1 g 42 42 C (0, 0) _ h Tryd.underlying42 rfl (by rw [info_arr, hC])]
noncomputable def storeW (v u : Value) (w : World) : Result Next := ((Instr.storeAt 42 v u).run Tryd.prog w).andThen fun _ w' => .ok .skip w'
theorem exec_storeW (ev : Operand → Value) (d : Option Tmp) (x y : Operand) (t : TypeId) (p : String) (f : Array Edge) (gd : Option (Nat × Bool)) (w : World) : (execOp ev { dst := d, op := .store 42 x y, type := t, pos := p, after := f, guard := gd }).run Tryd.prog w = storeW (ev x) (ev y) w := by
  unfold execOp storeW
  simp only [Sem.run_bind, Sem.run_pure]
theorem storeW_row {w1 : World} {g : Nat} {old C : Array Value} (h : w1.heap[g]? = some (.cells old 42 (0, 0))) (ho : old.size = 64) (hC : C.size = 64) (h1 : C.all (·.oneCell') = true) : storeW (.pointer (some ⟨g, 0, none⟩)) (.agg C) w1 = .ok .skip (w1.setRow g C) := by
  unfold storeW
  simp only [Instr.storeAt, Instr.sureAddr, Sem.run_bind, Sem.run_pure, Result.andThen_ok, run_storeVar_row w1 g 42 42 old C h (by rw [info_arr, hC]) (by rw [ho, hC]) h1]
attribute [local go_sem ↓] exec_loadW exec_storeW
set_option maxHeartbeats 2000000 in
set_option maxRecDepth 100000 in
theorem spread_any (A : Option Addr) (l : Bs) (c : Nat) (W : World) (hS : Bys W A l) (hl : l.length = 64) (hc : 64 ≤ c) (hcm : c ≤ 9223372036854775807) (hnil : A = none → c = 0) : Calls Tryd.prog 22 #[.slice A 64 c] W fun e w' => e = .returned (.agg ((words l 64).map u32V).toArray) ∧ Below W.heap.size W w' := by
  have HL := Lib.hid hl
  obtain ⟨W0, hW0⟩ : ∃ W0, W0 = (W.alloc (.cells Z64 42)).alloc (.cells Z64 42) := ⟨_, rfl⟩
  have hz0 : Arr W0 (W.heap.size + 1) (List.replicate 64 0) := arr_zero (by rw [hW0]; exact row_new _ (by simp))
  have hz1 : W0.heap[W.heap.size]? = some (.cells Z64 42 (0, 0)) := by rw [hW0]; exact row_old _ (row_new _ rfl)
  have hB0 : Below W.heap.size W W0 := by rw [hW0]; exact Below.alloc (Below.alloc (Below.refl _ _) (Nat.le_refl _) _) (by simp) _
  have HW0 := Lib.hid hW0
  have HZ0 := Lib.hid hz0
  have HZ1 := Lib.hid hz1
  have HB0 := Lib.hid hB0
  clear hl hW0 hz0 hz1 hB0
  go_enter Tryd.func22, Tryd.ntmps22
  go_wp2_with fail
  rw [← HW0.out]
  go_loopw [15] (fun u wr => ∃ k : Nat, u = .int .i64 k ∧ k ≤ 16 ∧ Arr wr (W.heap.size + 1) (words l k ++ List.replicate (64 - k) 0) ∧ wr.heap[W.heap.size]? = some (.cells Z64 42 (0, 0)) ∧ Below W.heap.size W wr) (fun u _ => 16 - (intOf u).toNat)
  case atStart => exact ⟨0, rfl, by omega, by simpa [words] using HZ0.out, HZ1.out, HB0.out⟩
  case round =>
    obtain ⟨k, rfl, hk, hA, hZ, hB⟩ := hrel
    rename World => wr
    by_cases hlt : k < 16
    · have hti : (k : Int) < 16 := by omega
      have hL := HL.out
      have hS' : Sl W A c l := ⟨hS, by omega, hcm, hnil⟩
      obtain ⟨A', hrun, hq⟩ := hS'.mid (4 * k) 4 (4 * (k : Int)) (4 * ((k : Int) + 1)) (by omega) (by omega) (by omega)
      have hq4 : ((l.drop (4 * k)).take 4).length = 4 := by rw [List.length_take, List.length_drop]; omega
      have HN := Lib.hid (words_part l k hlt hL)
      have hwl := words_length l k
      obtain ⟨n, hn⟩ : ∃ n, 64 - k = n + 1 := ⟨63 - k, by omega⟩
      have hn' : 64 - (k + 1) = n := by omega
      rw [hn] at hA
      rw [hq4, hL] at hrun
      generalize (l.drop (4 * k)).take 4 = q at *
      have p1 : IntKind.i64.wrap (4 * (k : Int)) = 4 * (k : Int) := by rw [IntKind.wrap_i64]; omega
      have p2 : IntKind.i64.wrap ((k : Int) + 1) = (k : Int) + 1 := by rw [IntKind.wrap_i64]; omega
      have p3 : IntKind.i64.wrap (4 * ((k : Int) + 1)) = 4 * ((k : Int) + 1) := by rw [IntKind.wrap_i64]; omega
      clear hL hS' hlt
      obtain ⟨X, hX⟩ : ∃ X, X = words l k ++ List.replicate (n + 1) 0 := ⟨_, rfl⟩
      have hX0 : X.set k (part q 0) = X := by
        rw [hX]
        have := set_zero (words l k) n
        rw [hwl] at this
        exact this
      have HX4 : Hid (X.set k (part q 4) = words l (k + 1) ++ List.replicate n 0) := Lib.hid (by
        rw [HN.out, hX]
        have := set_next (words l k) n (part q 4)
        rw [hwl] at this
        exact this)
      have hXl : k < X.length := by rw [hX, List.length_append, hwl, List.length_replicate]; omega
      have hX64 : X.length = 64 := by rw [hX, List.length_append, hwl, List.length_replicate]; omega
      rw [← hX] at hA
      clear hX
      have hPL := fun j h => part_lt q j h
      have hPN := fun j h => part_next q j h
      have HQ := Lib.hid hq
      have HP := Lib.hid hPL
      have HPN := Lib.hid hPN
      have Hq := Lib.hid hq4
      clear hq hPL hPN hS
      go_wp2_with fail
      go_loopw [26] (fun u ws => ∃ j : Nat, u = .int .i64 j ∧ j ≤ 4 ∧ Arr ws (W.heap.size + 1) (X.set k (part q j)) ∧ ws.heap[W.heap.size]? = some (.cells Z64 42 (0, 0)) ∧ Below W.heap.size W ws) (fun u _ => 4 - (intOf u).toNat)
      case atStart => exact ⟨0, rfl, by omega, by rw [hX0]; exact hA, hZ, hB⟩
      case round =>
        clear hA hZ hB hX0 hrun
        obtain ⟨j, rfl, hj, hA, hZ, hB⟩ := hrel
        rename World => ws
        by_cases hjt : j < 4
        · have hti2 : (j : Int) < 4 := by omega
          have hq4' := Hq.out
          obtain ⟨gb, off, hA', hcell⟩ := (HQ.out.bys.on hB) (by omega)
          subst hA'
          have yb := hcell j (by omega)
          have HNj := Lib.hid (HPN.out j (by omega))
          have hvl : part q j < 16777216 := Nat.lt_of_lt_of_le (HP.out j (by omega)) (Nat.le_trans (Nat.pow_le_pow_right (by omega) (show j ≤ 3 by omega)) (by decide))
          obtain ⟨y, hy⟩ : ∃ y, y = q[j].toNat := ⟨_, rfl⟩
          have hyl : y < 256 := by rw [hy]; exact q[j].toNat_lt
          rw [← hy] at yb
          have HNj2 : Hid (part q (j + 1) = part q j * 256 + y) := Lib.hid (by rw [HNj.out, hy])
          have yw := hA.cell k (by rw [List.length_set]; exact hXl)
          rw [List.getElem_set_self] at yw
          have hfr := hA.thaw k
          have HA := Lib.hid hA
          generalize part q j = v at *
          have HO := or_byte v y hvl hyl
          have ek : 0 ≤ (k : Int) ∧ (k : Int) < 64 := by omega
          clear hcell hA hy HNj
          go_wp2_with fail
          rw [show (v : Int) * 256 = ((v * 256 : Nat) : Int) by omega, HO]
          refine ⟨⟨j + 1, by go_num, by omega, ?_, ?_, hB.setCell (by simp) _⟩, by simp [intOf]; omega⟩
          · rw [HNj2.out]
            have := HA.out.set k (v * 256 + y)
            rw [List.set_set] at this
            exact this
          · exact (Below.heap_setCell _ _ _ _ (by simp)).trans hZ
        · obtain rfl : j = 4 := by omega
          rw [HX4.out] at hA
          have hq4' := Hq.out
          clear hjt hj
          go_wp2_with fail
          exact ⟨⟨k + 1, by go_num, by omega, by rw [hn']; exact hA, hZ, hB⟩, by simp [intOf]; omega⟩
    · obtain rfl : k = 16 := by omega
      clear hlt hk
      go_wp2_with fail
      rw [show ((16 : Nat) : Int) = (16 : Int) from rfl]
      go_loopw [8] (fun u ws => ∃ i : Nat, u = .int .i64 i ∧ 16 ≤ i ∧ i ≤ 64 ∧ Arr ws (W.heap.size + 1) (words l i ++ List.replicate (64 - i) 0) ∧ ws.heap[W.heap.size]? = some (.cells Z64 42 (0, 0)) ∧ Below W.heap.size W ws) (fun u _ => 64 - (intOf u).toNat)
      case atStart => exact ⟨16, rfl, by omega, by omega, hA, hZ, hB⟩
      case round =>
        clear hA hZ hB
        obtain ⟨i, rfl, h16, h64, hA, hZ, hB⟩ := hrel
        rename World => ws
        by_cases hlt : i < 64
        · have hti : (i : Int) < 64 := by omega
          have hcell : ∀ j, j < i → ws.cell? ⟨W.heap.size + 1, j, none⟩ = some (.int .u32 ((words l i).getD j 0 : Nat)) := fun j hj => by
            have hw := words_length l i
            have h := hA.cell j (by rw [List.length_append, hw]; omega)
            rw [List.getElem_append_left (by omega)] at h
            rw [List.getD_eq_getElem?_getD, List.getElem?_eq_getElem (by omega)]
            exact h
          have y15 := hcell (i - 15) (by omega)
          have y2 := hcell (i - 2) (by omega)
          have y16 := hcell (i - 16) (by omega)
          have y7 := hcell (i - 7) (by omega)
          have hlt4 : ∀ j, (words l i).getD j 0 < 4294967296 := fun j => by
            rw [List.getD_eq_getElem?_getD]
            cases h : (words l i)[j]? with
            | none => decide
            | some v => exact words_lt l i v (List.mem_of_getElem? h)
          have q15 := hlt4 (i - 15)
          have q2 := hlt4 (i - 2)
          have q16 := hlt4 (i - 16)
          have q7 := hlt4 (i - 7)
          obtain ⟨n, hn⟩ : ∃ n, 64 - i = n + 1 := ⟨63 - i, by omega⟩
          have hn' : 64 - (i + 1) = n := by omega
          rw [hn] at hA
          have HN : Hid (words l (i + 1) = words l i ++ [((words l i).getD (i - 16) 0 + sig0 ((words l i).getD (i - 15) 0) + (words l i).getD (i - 7) 0 + sig1 ((words l i).getD (i - 2) 0)) % 4294967296]) := Lib.hid (by
            rw [words, if_neg (by omega)])
          have HSN := Lib.hid (fun v => set_next (words l i) n v)
          have hwl := words_length l i
          generalize (words l i).getD (i - 15) 0 = x15 at *
          generalize (words l i).getD (i - 2) 0 = x2 at *
          generalize (words l i).getD (i - 16) 0 = x16 at *
          generalize (words l i).getD (i - 7) 0 = x7 at *
          clear hcell hlt4
          have R7 : Hid (∀ W, Calls Tryd.prog 26 #[.int .u32 x15, .int .i64 7] W fun e w' => e = .returned (.int .u32 (rotr x15 7)) ∧ ∃ m, w' = W.drewN m) := Lib.hid (fun W => right_any x15 7 W q15 (by omega) (by omega))
          have R18 : Hid (∀ W, Calls Tryd.prog 26 #[.int .u32 x15, .int .i64 18] W fun e w' => e = .returned (.int .u32 (rotr x15 18)) ∧ ∃ m, w' = W.drewN m) := Lib.hid (fun W => right_any x15 18 W q15 (by omega) (by omega))
          have R17 : Hid (∀ W, Calls Tryd.prog 26 #[.int .u32 x2, .int .i64 17] W fun e w' => e = .returned (.int .u32 (rotr x2 17)) ∧ ∃ m, w' = W.drewN m) := Lib.hid (fun W => right_any x2 17 W q2 (by omega) (by omega))
          have R19 : Hid (∀ W, Calls Tryd.prog 26 #[.int .u32 x2, .int .i64 19] W fun e w' => e = .returned (.int .u32 (rotr x2 19)) ∧ ∃ m, w' = W.drewN m) := Lib.hid (fun W => right_any x2 19 W q2 (by omega) (by omega))
          have HS0 : Hid (bits .xor .u32 (bits .xor .u32 ((rotr x15 7 : Nat) : Int) ((rotr x15 18 : Nat) : Int)) ((x15 : Int) / (8 : Int)) = ((sig0 x15 : Nat) : Int)) := Lib.hid (by
            rw [show (x15 : Int) / (8 : Int) = ((x15 >>> 3 : Nat) : Int) from div8 x15, xor_u32 _ _ (rotr_lt q15) (rotr_lt q15), xor_u32 _ _ (Nat.xor_lt_two_pow (n := 32) (rotr_lt q15) (rotr_lt q15)) (by rw [Nat.shiftRight_eq_div_pow]; omega)]
            rfl)
          have HS1 : Hid (bits .xor .u32 (bits .xor .u32 ((rotr x2 17 : Nat) : Int) ((rotr x2 19 : Nat) : Int)) ((x2 : Int) / (1024 : Int)) = ((sig1 x2 : Nat) : Int)) := Lib.hid (by
            rw [show (x2 : Int) / (1024 : Int) = ((x2 >>> 10 : Nat) : Int) from div1024 x2, xor_u32 _ _ (rotr_lt q2) (rotr_lt q2), xor_u32 _ _ (Nat.xor_lt_two_pow (n := 32) (rotr_lt q2) (rotr_lt q2)) (by rw [Nat.shiftRight_eq_div_pow]; omega)]
            rfl)
          have i15 : (0 : Int) ≤ (i : Int) - 15 ∧ (i : Int) - 15 < 64 := by omega
          have i2 : (0 : Int) ≤ (i : Int) - 2 ∧ (i : Int) - 2 < 64 := by omega
          have i16 : (0 : Int) ≤ (i : Int) - 16 ∧ (i : Int) - 16 < 64 := by omega
          have i7 : (0 : Int) ≤ (i : Int) - 7 ∧ (i : Int) - 7 < 64 := by omega
          have n15 : ((i : Int) - 15).toNat = i - 15 := by omega
          have n2 : ((i : Int) - 2).toNat = i - 2 := by omega
          have n16 : ((i : Int) - 16).toNat = i - 16 := by omega
          have n7 : ((i : Int) - 7).toNat = i - 7 := by omega
          have p15 : IntKind.i64.wrap ((i : Int) - 15) = (i : Int) - 15 := by rw [IntKind.wrap_i64]; omega
          have p2 : IntKind.i64.wrap ((i : Int) - 2) = (i : Int) - 2 := by rw [IntKind.wrap_i64]; omega
          have p16 : IntKind.i64.wrap ((i : Int) - 16) = (i : Int) - 16 := by rw [IntKind.wrap_i64]; omega
          have p7 : IntKind.i64.wrap ((i : Int) - 7) = (i : Int) - 7 := by rw [IntKind.wrap_i64]; omega
          have hfr := hA.thaw i
          have HA := Lib.hid hA
          have HZ := Lib.hid hZ
          have HB := Lib.hid hB
          clear hA hZ hB
          go_wp2_with fail
          go_quiet ((first | (go_at_call 26; with_reducible refine Calls.quiet_of (R7.out _)) | (go_at_call 26; with_reducible refine Calls.quiet_of (R18.out _))))
          rw [HS0.out]
          have y2 : (ws.drewN nq).cell? ⟨W.heap.size + 1, i - 2, none⟩ = some (.int .u32 (x2 : Nat)) := y2
          have y16 : (ws.drewN nq).cell? ⟨W.heap.size + 1, i - 16, none⟩ = some (.int .u32 (x16 : Nat)) := y16
          have y7 : (ws.drewN nq).cell? ⟨W.heap.size + 1, i - 7, none⟩ = some (.int .u32 (x7 : Nat)) := y7
          have hfr : (ws.drewN nq).frozen? ⟨W.heap.size + 1, i, none⟩ = false := hfr
          have HA : Hid (Arr (ws.drewN nq) (W.heap.size + 1) (words l i ++ List.replicate (n + 1) 0)) := HA
          have HZ : Hid ((ws.drewN nq).heap[W.heap.size]? = some (.cells Z64 42 (0, 0))) := HZ
          have HB : Hid (Below W.heap.size W (ws.drewN nq)) := Lib.hid (below_drewN HB.out nq)
          generalize ws.drewN nq = wa at *
          clear y15 R7 R18 HS0
          go_wp2_with fail
          go_quiet ((first | (go_at_call 26; with_reducible refine Calls.quiet_of (R17.out _)) | (go_at_call 26; with_reducible refine Calls.quiet_of (R19.out _))))
          rw [HS1.out]
          have y16 : (wa.drewN nq).cell? ⟨W.heap.size + 1, i - 16, none⟩ = some (.int .u32 (x16 : Nat)) := y16
          have y7 : (wa.drewN nq).cell? ⟨W.heap.size + 1, i - 7, none⟩ = some (.int .u32 (x7 : Nat)) := y7
          have hfr : (wa.drewN nq).frozen? ⟨W.heap.size + 1, i, none⟩ = false := hfr
          have HA : Hid (Arr (wa.drewN nq) (W.heap.size + 1) (words l i ++ List.replicate (n + 1) 0)) := HA
          have HZ : Hid ((wa.drewN nq).heap[W.heap.size]? = some (.cells Z64 42 (0, 0))) := HZ
          have HB : Hid (Below W.heap.size W (wa.drewN nq)) := Lib.hid (below_drewN HB.out nq)
          generalize wa.drewN nq = wb at *
          clear y2 R17 R19 HS1
          generalize sig0 x15 = s0 at *
          generalize sig1 x2 = s1 at *
          have hz : IntKind.u32.wrap (IntKind.u32.wrap (IntKind.u32.wrap ((s1 : Int) + x7) + s0) + x16) = (((x16 + s0 + x7 + s1) % 4294967296 : Nat) : Int) := by
            rw [IntKind.wrap_u32, IntKind.wrap_u32, IntKind.wrap_u32]
            omega
          generalize ((x16 + s0 + x7 + s1) % 4294967296) = X at *
          have ei : 0 ≤ (i : Int) ∧ (i : Int) < 64 := by omega
          have yi := HA.out.cell i (by rw [List.length_append, hwl, List.length_replicate]; omega)
          have j7 : (7 : Int) ≤ (i : Int) := by omega
          have j16 : (16 : Int) ≤ (i : Int) := by omega
          go_wp2_with fail
          go_still_tail 14, (by kernel_rfl)
          change wpList _ _ _ _ _ wb.drew
          go_wp2_with fail
          go_roundw
          case rel =>
            refine ⟨i + 1, by go_num, by omega, by omega, ?_, ?_, ?_⟩
            · rw [hn', HN.out, ← HSN.out X, hwl]
              exact HA.out.set i X
            · exact (Below.heap_setCell _ _ _ _ (by simp)).trans HZ.out
            · exact (HB.out.setCell (by simp) _).drew
          case measure => simp [intOf]; omega
        · obtain rfl : i = 64 := by omega
          have hA : Arr ws (W.heap.size + 1) (words l 64) := by simpa using hA
          clear hlt h16 h64
          have hw64 := words_length l 64
          obtain ⟨C, hC⟩ : ∃ C, C = ((words l 64).map u32V).toArray := ⟨_, rfl⟩
          have hCs : C.size = 64 := by rw [hC]; simp [hw64]
          have hC1 : C.all (·.oneCell') = true := by
            rw [hC]
            simp [u32V, Value.oneCell']
          have hL := loadW_row (w1 := ws) (g := W.heap.size + 1) (C := C) (by rw [hC]; exact hA) hCs
          have hSt := storeW_row (w1 := ws) (g := W.heap.size) (C := C) hZ rfl hCs hC1
          have HC := Lib.hid hC
          clear hC hA
          go_wp2_with fail
          refine bodyPost_ret (v := .agg C) (results_cell_row (fn := Tryd.f22) (p := 2) (ty := 42) (by kernel_rfl) _ _ W.heap.size 42 C (0, 0) _ rfl (setRow_heap _ _ _ C _ _ hZ) Tryd.underlying42 rfl (by rw [info_arr, hCs])) rfl ?_
          exact ⟨by rw [HC.out], Below.setRow hB (Nat.le_refl _) _⟩
end Go.Proofs.YtkpnhbjdpbjfjaaDoor
