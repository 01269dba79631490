/-
  The landed digest's mixAll: the state behind whole blocks.
-/
import Derived.Test.YtkpnhbjdpbjfjaaDoorDgS
import Derived.Deep.RegionLaw
namespace Go.Proofs.YtkpnhbjdpbjfjaaDoor
open Go.RowKit
set_option linter.unusedVariables false
set_option maxRecDepth 100000

theorem V8.add_comm (v u : V8) : v.add u = u.add v := by
  unfold V8.add
  simp only [Nat.add_comm]
/-- The state behind the first k blocks, from a state on. -/
def fromV (v : V8) (l : Bs) : Nat → V8
  | 0 => v
  | k + 1 => compress (fromV v l k) ((l.drop (64 * k)).take 64)
theorem compress_ok {v : V8} (h : v.Ok) (b : Bs) : (compress v b).Ok := by
  unfold compress V8.add
  constructor <;> exact Nat.mod_lt _ (by decide)
theorem fromV_ok {v : V8} (h : v.Ok) (l : Bs) : ∀ k, (fromV v l k).Ok
  | 0 => h
  | k + 1 => compress_ok (fromV_ok h l k) _
attribute [local go_sem ↓] exec_load8 exec_store8
abbrev cells8 (V : V8) : Array Value := (V.list.map u32V).toArray
structure AX (W : World) (C : Array Value) (wr : World) : Prop where
  r0 : wr.heap[W.heap.size]? = some (.cells C 33 (0, 0))
  r2 : wr.heap[W.heap.size + 1]? = some (.cells #[.int .u32 0, .int .u32 0, .int .u32 0, .int .u32 0, .int .u32 0, .int .u32 0, .int .u32 0, .int .u32 0] 33 (0, 0))
  k : TabK wr
  b : Below W.heap.size W wr
theorem AX.on {W wr w1 : World} {C : Array Value} (h : AX W C wr) (k : Below wr.heap.size wr w1) : AX W C w1 := ⟨(k.block _ (Array.getElem?_eq_some_iff.1 h.r0).1).trans h.r0, (k.block _ (Array.getElem?_eq_some_iff.1 h.r2).1).trans h.r2, h.k.on k, Below.trans h.b (k.mono h.b.size)⟩
theorem AX.drew {W wr : World} {C : Array Value} (h : AX W C wr) : AX W C wr.drew := ⟨h.r0, h.r2, h.k, Below.drew h.b⟩
theorem AX.set {W wr : World} {C : Array Value} (hT : TabK W) (h : AX W C wr) (C' : Array Value) : AX W C' (wr.setRow W.heap.size C') := ⟨setRow_heap _ _ _ _ _ _ h.r0, (setRow_other _ _ _ _ (by omega)).trans h.r2, hT.on (Below.setRow h.b (Nat.le_refl _) _), Below.setRow h.b (Nat.le_refl _) _⟩
set_option maxHeartbeats 2000000 in
set_option maxRecDepth 100000 in
theorem mixAll_any (V : V8) (A : Option Addr) (l : Bs) (c n : Nat) (W : World) (hV : V.Ok) (hS : Sl W A c l) (hl : l.length = 64 * n) (hT : TabK W) : Calls Tryd.prog 14 #[agg8 V, .slice A l.length c] W fun e w' => e = .returned (agg8 (fromV V l n)) ∧ Below W.heap.size W w' := by
  obtain ⟨W0, hW0⟩ : ∃ W0, W0 = (W.alloc (.cells (cells8 V) 33)).alloc (.cells #[.int .u32 0, .int .u32 0, .int .u32 0, .int .u32 0, .int .u32 0, .int .u32 0, .int .u32 0, .int .u32 0] 33) := ⟨_, rfl⟩
  have b0 : Below W.heap.size W W0 := by rw [hW0]; exact Below.alloc (Below.alloc (Below.refl _ _) (Nat.le_refl _) _) (by simp) _
  have X0 : AX W (cells8 V) W0 := ⟨by rw [hW0]; exact row_old _ (row_new _ rfl), by rw [hW0]; exact row_new _ (by simp), hT.on b0, b0⟩
  have HW0 := Lib.hid hW0
  have HX0 := Lib.hid X0
  clear hW0 X0 b0
  have hm := hS.max
  have hlc := hS.le
  have HS := Lib.hid hS
  have HL := Lib.hid hl
  clear hS
  rw [hl] at hlc ⊢
  clear hl
  unfold agg8
  go_enter Tryd.func14, Tryd.ntmps14
  go_wp2_with fail
  change Code.wp _ _ _ _ ((W.alloc (.cells (cells8 V) 33)).alloc (.cells #[.int .u32 0, .int .u32 0, .int .u32 0, .int .u32 0, .int .u32 0, .int .u32 0, .int .u32 0, .int .u32 0] 33))
  rw [← HW0.out]
  go_loopw [5] (fun u wr => ∃ k : Nat, u = .int .i64 (64 * (k : Int)) ∧ k ≤ n ∧ AX W (cells8 (fromV V l k)) wr) (fun u _ => 64 * n - (intOf u).toNat)
  case atStart => exact ⟨0, rfl, by omega, HX0.out⟩
  case round =>
    obtain ⟨k, rfl, hk, hX⟩ := hrel
    rename World => wr
    by_cases hlt : k < n
    · have hti : (k : Int) < (n : Int) := by omega
      have hL := HL.out
      obtain ⟨A', hrun, hq⟩ := HS.out.mid (64 * k) 64 (64 * (k : Int)) (64 * (k : Int) + 64) (by omega) (by omega) (by omega)
      have hq4 : ((l.drop (64 * k)).take 64).length = 64 := by rw [List.length_take, List.length_drop]; omega
      have HN : Hid (fromV V l (k + 1) = compress (fromV V l k) ((l.drop (64 * k)).take 64)) := Lib.hid rfl
      have hU := fromV_ok hV l k
      rw [hq4, hL] at hrun
      generalize (l.drop (64 * k)).take 64 = q at *
      generalize fromV V l k = U at *
      have p1 : IntKind.i64.wrap (64 * (k : Int) + 64) = 64 * (k : Int) + 64 := by rw [IntKind.wrap_i64]; omega
      obtain ⟨C0, hC0⟩ : ∃ C0, C0 = cells8 U := ⟨_, rfl⟩
      obtain ⟨C1, hC1⟩ : ∃ C1, C1 = ((words q 64).map u32V).toArray := ⟨_, rfl⟩
      obtain ⟨C2, hC2⟩ : ∃ C2, C2 = cells8 (compress U q) := ⟨_, rfl⟩
      have K1 : Hid (∀ W', AX W C0 W' → Calls Tryd.prog 22 #[.slice A' 64 (c - 64 * k)] W' fun e w' => e = .returned (.agg C1) ∧ Below W'.heap.size W' w') := Lib.hid (fun W' h => by
        rw [hC1]
        have := hq.le
        exact spread_any A' q (c - 64 * k) W' (hq.on h.b).bys hq4 (by omega) hq.max hq.nil)
      have K2 : Hid (∀ W', AX W C0 W' → Calls Tryd.prog 21 #[.agg C0, .agg C1] W' fun e w' => e = .returned (.agg C2) ∧ Below W'.heap.size W' w') := Lib.hid (fun W' h => by
        rw [hC0, hC1, hC2]
        have := mix_any U (words q 64) W' hU (words_length q 64) (fun x hx => words_lt q 64 x hx) h.k
        rw [V8.add_comm] at this
        exact this)
      have s0 : C0.size = 8 := by rw [hC0]; rfl
      have s2 : C2.size = 8 := by rw [hC2]; rfl
      have o2 : C2.all (·.oneCell') = true := by rw [hC2]; simp [u32V, Value.oneCell']
      rw [← hC0] at hX
      have HC2 := Lib.hid hC2
      have F0 : ∀ W', AX W C0 W' → load8 (.pointer (some ⟨W.heap.size, 0, none⟩)) W' = .ok (.value (.agg C0)) W' := fun W' h => load8_row h.r0 s0
      have F1 : ∀ W', AX W C0 W' → store8 (.pointer (some ⟨W.heap.size, 0, none⟩)) (.agg C2) W' = .ok .skip (W'.setRow W.heap.size C2) := fun W' h => store8_row h.r0 s0 s2 o2
      clear hC0 hC1 hC2 hU hq hq4 hV hL s0 s2 o2
      go_wp2_with fail
      have hX1 := hX.drew
      go_region_law ((first
          | (go_simp; go_at_call 21; (with_reducible refine (K2.out _ (by assumption)).mono ?_); rintro e w' ⟨rfl, hBx⟩; have hX2 := AX.on (by assumption) hBx)
          | (go_simp; go_at_call 22; (with_reducible refine (K1.out _ (by assumption)).mono ?_); rintro e w' ⟨rfl, hBx⟩; have hX2 := AX.on (by assumption) hBx)))
      all_goals go_wp2_with fail
      all_goals exact ⟨⟨k + 1, by congr 1, by omega, by rw [HN.out, ← HC2.out]; exact AX.set hT (by assumption) C2⟩, by simp [intOf]; omega⟩
    · obtain rfl : k = n := by omega
      obtain ⟨C0, hC0⟩ : ∃ C0, C0 = cells8 (fromV V l k) := ⟨_, rfl⟩
      have s0 : C0.size = 8 := by rw [hC0]; rfl
      have o0 : C0.all (·.oneCell') = true := by rw [hC0]; simp [u32V, Value.oneCell']
      rw [← hC0] at hX
      have F0 := load8_row hX.r0 s0
      have F1 := store8_row hX.r2 rfl s0 o0
      have HC0 := Lib.hid hC0
      have HX := Lib.hid hX
      clear hC0 hX hlt hk
      go_wp2_with fail
      refine bodyPost_ret (v := .agg C0) (results_cell_row (fn := Tryd.f14) (p := 4) (ty := 33) (by kernel_rfl) _ _ (W.heap.size + 1) 33 C0 (0, 0) _ rfl (setRow_heap _ _ _ C0 _ _ HX.out.r2) Tryd.underlying33 rfl (by rw [info_arr8, s0])) rfl ?_
      exact ⟨by rw [HC0.out], Below.setRow HX.out.b (by omega) _⟩
end Go.Proofs.YtkpnhbjdpbjfjaaDoor
