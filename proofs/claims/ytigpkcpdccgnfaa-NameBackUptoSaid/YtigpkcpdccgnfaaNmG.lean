/-
  name.Compare.
-/
import Derived.Test.YtigpkcpdccgnfaaNmF
import Derived.Deep.RegionWith
import Derived.Deep.RegionHeld3
namespace Go.Proofs.Ytigpkcpdccgnfaa
open Go.RowKit
set_option linter.unusedVariables false

theorem lower_no_any {a b : Bs} (h : (can a && can b) = false) : comp a b = 0 := by unfold comp; rw [h]; rfl

/-- What is left of the order behind labels that are alike. -/
theorem cmpL_drop {A B : List Bs} {k : Nat} (h1 : k < A.length) (h2 : k < B.length) : cmpL (A.drop k) (B.drop k) = if cmpB A[k] B[k] = 0 then cmpL (A.drop (k + 1)) (B.drop (k + 1)) else cmpB A[k] B[k] := by
  rw [List.drop_eq_getElem_cons h1, List.drop_eq_getElem_cons h2, cmpL]
theorem cmpL_end {A B : List Bs} {k : Nat} (h : k = min A.length B.length) : cmpL (A.drop k) (B.drop k) = cmpI A.length B.length := by
  subst h
  unfold cmpI
  rcases Nat.lt_trichotomy A.length B.length with h | h | h
  · rw [if_pos (by omega), Nat.min_eq_left (by omega), List.drop_length, List.drop_eq_getElem_cons h, cmpL]
  · rw [if_neg (by omega), if_neg (by omega), Nat.min_eq_left (by omega), List.drop_length, h, List.drop_length, cmpL]
  · rw [if_neg (by omega), if_pos (by omega), Nat.min_eq_right (by omega), List.drop_length, List.drop_eq_getElem_cons h, cmpL]

/-- Two rows of places, known whole. -/
structure Two (w : World) (g5 g7 : Nat) (Ca Cb : Array Value) (w' : World) : Prop where
  r5 : w'.heap[g5]? = some (.cells Ca 46 (0, 0))
  r7 : w'.heap[g7]? = some (.cells Cb 46 (0, 0))
  bel : Below w.heap.size w w'

theorem heap_lt {w : World} {g : Nat} {o : Obj} (h : w.heap[g]? = some o) : g < w.heap.size := (Array.getElem?_eq_some_iff.1 h).1
theorem Two.on {w : World} {g5 g7 : Nat} {Ca Cb : Array Value} {w1 w2 : World} (h : Two w g5 g7 Ca Cb w1) (hB : Below w1.heap.size w1 w2) : Two w g5 g7 Ca Cb w2 :=
  ⟨(hB.block _ (heap_lt h.r5)).trans h.r5, (hB.block _ (heap_lt h.r7)).trans h.r7, Below.trans h.bel (hB.mono h.bel.size)⟩
theorem Two.drew {w : World} {g5 g7 : Nat} {Ca Cb : Array Value} {w1 : World} (h : Two w g5 g7 Ca Cb w1) : Two w g5 g7 Ca Cb w1.drew := ⟨h.r5, h.r7, Below.drew h.bel⟩
/-- A row of places, loaded whole: the walk does not open it. -/
noncomputable def loadPl (v : Value) (w : World) : Result Next := ((Instr.loadAt 46 v).run Try.prog w).andThen fun a w' => .ok (.value a) w'
theorem exec_loadPl (ev : Operand → Value) (d : Option Tmp) (x : Operand) (t : TypeId) (p : String) (f : Array Edge) (w : World) : (execOp ev { dst := d, op := .load 46 x, type := t, pos := p, after := f, guard := none }).run Try.prog w = loadPl (ev x) w := by
  unfold execOp loadPl
  simp only [Sem.run_bind, Sem.run_pure]
theorem loadPl_row {w1 : World} {g : Nat} {C : Array Value} (h : w1.heap[g]? = some (.cells C 46 (0, 0))) (hC : C.size = 129) : loadPl (.pointer (some ⟨g, 0, none⟩)) w1 = .ok (.value (.agg C)) w1 := by
  unfold loadPl
  simp only [Instr.loadAt, Instr.sureAddr, Sem.run_bind, Sem.run_pure, Result.andThen_ok, run_loadVar_row w1 g 46 46 C (0, 0) _ h Try.underlying46 rfl (pl_size hC)]

set_option maxHeartbeats 2000000 in
theorem Compare_no (a b : Bs) (w : World) (h : (can a && can b) = false) : Calls Try.prog 21 #[.string (bs a), .string (bs b)] w fun e w' => e = .returned (.int .i64 0) ∧ Below w.heap.size w w' := by
  obtain ⟨ip, hi, hz, hs⟩ := info_pl
  cases ha : can (lower a) <;> cases hb : can (lower b)
  case true.true => rw [can_lower] at ha hb; rw [ha, hb] at h; cases h
  all_goals
    clear h
    go_enter Try.func21, Try.ntmps21
    go_wp2_with fail
    refine (Lower_any a w).mono ?_
    rintro e w1 ⟨rfl, hB1⟩
    go_wp2_with fail
    refine (Lower_any b w1).mono ?_
    rintro e w2 ⟨rfl, hB2⟩
    have hB : Below w.heap.size w w2 := Below.trans hB1 (hB2.mono hB1.size)
    clear hB1 hB2
    go_wp2_with fail
    refine (split_any (lower a) w2).mono ?_
    rintro e w3 ⟨Ca, rfl, hCa, h1a, _, hB3⟩
    have hB : Below w.heap.size w w3 := Below.trans hB (hB3.mono hB.size)
    clear hB3
    rw [ha]
    go_wp2_with (first
      | (refine wpList_alloc_at rfl 46 rfl ip zeroPl hi hz ?_)
      | (refine wpList_store_row rfl 46 (.tmp 5) (.tmp 18) rfl w3.heap.size Ca rfl rfl 46 zeroPl (new_row _ _) (pl_size hCa) (zero_size.trans hCa.symm) h1a ?_)
      | fail)
    have hB : Below w.heap.size w _ := Below.setRow (Below.alloc hB hB.size (Obj.cells zeroPl 46 (0, 0))) hB.size Ca
    refine (split_any (lower b) _).mono ?_
    rintro e w4 ⟨Cb, rfl, hCb, h1b, _, hB4⟩
    have hB : Below w.heap.size w w4 := Below.trans hB (hB4.mono hB.size)
    clear hB4
    rw [hb]
    go_wp2_with (first
      | (refine wpList_alloc_at rfl 46 rfl ip zeroPl hi hz ?_)
      | (refine wpList_store_row rfl 46 (.tmp 7) (.tmp 23) rfl w4.heap.size Cb rfl rfl 46 zeroPl (new_row _ _) (pl_size hCb) (zero_size.trans hCb.symm) h1b ?_)
      | fail)
    go_ret
    exact ⟨rfl, Below.setRow (Below.alloc hB hB.size (Obj.cells zeroPl 46 (0, 0))) hB.size Cb⟩
end Go.Proofs.Ytigpkcpdccgnfaa
