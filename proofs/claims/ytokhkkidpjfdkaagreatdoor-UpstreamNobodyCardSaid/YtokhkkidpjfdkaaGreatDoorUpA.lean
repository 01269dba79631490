/-
  Servers that no call made: what each call answers; of what was there nothing turns.
-/
import Derived.Test.YtokhkkidpjfdkaaGreatDoorRdE
import Derived.Deep.QuietTactic
import Derived.BigQuiet
import Derived.LoopN
import Derived.WalkSpells
namespace Go.Proofs.YtokhkkidpjfdkaaGreatDoor
open Go.RowKit
set_option linter.unusedVariables false
set_option maxRecDepth 100000

/-- nil, or servers whose map is nil. -/
def NobU (w : World) (v : Value) : Prop := v = .pointer none ∨ ∃ g, v = .pointer (some ⟨g, 0, none⟩) ∧ w.cell? ⟨g, 2, none⟩ = some (.map none)
theorem NobU.on {w w1 : World} {v : Value} (h : NobU w v) (k : Below w.heap.size w w1) : NobU w1 v := by
  rcases h with h | ⟨g, h1, h2⟩
  · exact .inl h
  · exact .inr ⟨g, h1, cell_on h2 k⟩
theorem NobU.made {w : World} {v : Value} (h : NobU w v) : Calls Tryz.prog 7 #[v] w fun e w' => e = .returned (.bool false) ∧ w' = w := by
  rcases h with rfl | ⟨g, rfl, c1⟩
  · go_enter Tryz.func7, Tryz.ntmps7
    go_wp2_with fail
    go_ret
    exact ⟨rfl, rfl⟩
  · have hm := run_neq_map_nil (P := Tryz.prog) w 36 3 53 none Tryz.underlying36
    go_enter Tryz.func7, Tryz.ntmps7
    go_wp2_with fail
    go_ret
    exact ⟨rfl, rfl⟩
theorem FeedU_nob {w : World} {v : Value} (h : NobU w v) (x1 : Value) (k2 : Int) (x3 : Value) : Calls Tryz.prog 4 #[v, x1, .int .i64 k2, x3] w fun e w' => e = .returned (.tuple #[.slice none 0 0, .int .i64 2]) ∧ Below w.heap.size w w' := by
  have C := Lib.hid (fun W (k : Below w.heap.size w W) => (h.on k).made)
  clear h
  go_enter Tryz.func4, Tryz.ntmps4
  go_wp2_with fail
  refine (C.out _ ?_).mono ?_
  · (repeat first | (with_reducible exact Below.refl _ _) | (with_reducible assumption) | (with_reducible refine below_drewN ?_ _) | (with_reducible refine Below.drew ?_) | (with_reducible refine Below.alloc ?_ (by go_size) _) | (with_reducible refine Below.setCell ?_ (by go_size) _))
  rintro e w1 ⟨rfl, hw⟩
  rw [hw]
  clear hw C
  go_wp2_with fail
  go_returns
  exact ⟨rfl, by (repeat first | (with_reducible exact Below.refl _ _) | (with_reducible assumption) | (with_reducible refine below_drewN ?_ _) | (with_reducible refine Below.drew ?_) | (with_reducible refine Below.alloc ?_ (by go_size) _) | (with_reducible refine Below.setCell ?_ (by go_size) _))⟩
theorem ForgetU_nob {w : World} {v : Value} (h : NobU w v) (x1 : Value) : Calls Tryz.prog 5 #[v, x1] w fun e w' => e = .returned (.int .i64 2) ∧ Below w.heap.size w w' := by
  have C := Lib.hid (fun W (k : Below w.heap.size w W) => (h.on k).made)
  clear h
  go_enter Tryz.func5, Tryz.ntmps5
  go_wp2_with fail
  refine (C.out _ ?_).mono ?_
  · (repeat first | (with_reducible exact Below.refl _ _) | (with_reducible assumption) | (with_reducible refine below_drewN ?_ _) | (with_reducible refine Below.drew ?_) | (with_reducible refine Below.alloc ?_ (by go_size) _) | (with_reducible refine Below.setCell ?_ (by go_size) _))
  rintro e w1 ⟨rfl, hw⟩
  rw [hw]
  clear hw C
  go_wp2_with fail
  go_ret
  exact ⟨rfl, by (repeat first | (with_reducible exact Below.refl _ _) | (with_reducible assumption) | (with_reducible refine below_drewN ?_ _) | (with_reducible refine Below.drew ?_) | (with_reducible refine Below.alloc ?_ (by go_size) _) | (with_reducible refine Below.setCell ?_ (by go_size) _))⟩
/-- A tree without zones. -/
theorem sizes_none (w : World) : Calls Tryz.prog 44 #[.agg #[.slice none 0 0, .slice none 0 0]] w fun e w' => e = .returned (.bool false) ∧ Below w.heap.size w w' := by
  go_enter Tryz.func44, Tryz.ntmps44
  go_wp2_with fail
  go_ret
  exact ⟨rfl, by (repeat first | (with_reducible exact Below.refl _ _) | (with_reducible assumption) | (with_reducible refine below_drewN ?_ _) | (with_reducible refine Below.drew ?_) | (with_reducible refine Below.alloc ?_ (by go_size) _) | (with_reducible refine Below.setCell ?_ (by go_size) _))⟩
theorem lay_none (w : World) : Calls Tryz.prog 24 #[.agg #[.slice none 0 0, .slice none 0 0]] w fun e w' => e = .returned (.tuple #[.slice none 0 0, .bool false]) ∧ Below w.heap.size w w' := by
  have C := Lib.hid (fun W => sizes_none W)
  have r0 := row_new (w := w) (k := w.heap.size) (.cells #[.slice none 0 0, .slice none 0 0] 35 (0, 0)) rfl
  have b0 : Below w.heap.size w (w.alloc (.cells #[.slice none 0 0, .slice none 0 0] 35 (0, 0))) := Below.alloc (Below.refl _ _) (Nat.le_refl _) _
  have I0 : Hid ((Tryz.prog.info? 35).map (·.size) = some (#[.slice none 0 0, .slice none 0 0] : Array Value).size) := Lib.hid (by kernel_rfl)
  go_enter Tryz.func24, Tryz.ntmps24
  go_wp2_with (first
    | (refine wpList_load_row rfl 35 (.tmp 1) rfl w.heap.size rfl 35 _ (0, 0) _ r0 Tryz.underlying35 rfl I0.out ?_)
    | fail)
  refine (C.out _).mono ?_
  rintro e w1 ⟨rfl, b1⟩
  have bb := Below.trans b0 (b1.mono b0.size)
  clear r0 b0 b1 C
  go_wp2_with fail
  go_returns
  exact ⟨rfl, bb⟩
theorem canT_none (w : World) : Calls Tryz.prog 13 #[.agg #[.slice none 0 0, .slice none 0 0]] w fun e w' => e = .returned (.bool false) ∧ Below w.heap.size w w' := by
  have C := Lib.hid (fun W => lay_none W)
  have b0 : Below w.heap.size w (w.alloc (.cells #[.slice none 0 0, .slice none 0 0] 35 (0, 0))) := Below.alloc (Below.refl _ _) (Nat.le_refl _) _
  go_enter Tryz.func13, Tryz.ntmps13
  go_wp2_with fail
  refine (C.out _).mono ?_
  rintro e w1 ⟨rfl, b1⟩
  have bb := Below.trans b0 (b1.mono b0.size)
  clear b0 b1
  go_wp2_with fail
  go_ret
  exact ⟨rfl, bb⟩
theorem NewU_none (w : World) : Calls Tryz.prog 6 #[.agg #[.slice none 0 0, .slice none 0 0]] w fun e w' => e = .returned (.tuple #[.pointer none, .int .i64 1]) ∧ Below w.heap.size w w' := by
  have C := Lib.hid (fun W => canT_none W)
  have r0 := row_new (w := w) (k := w.heap.size) (.cells #[.slice none 0 0, .slice none 0 0] 35 (0, 0)) rfl
  have b0 : Below w.heap.size w (w.alloc (.cells #[.slice none 0 0, .slice none 0 0] 35 (0, 0))) := Below.alloc (Below.refl _ _) (Nat.le_refl _) _
  have I0 : Hid ((Tryz.prog.info? 35).map (·.size) = some (#[.slice none 0 0, .slice none 0 0] : Array Value).size) := Lib.hid (by kernel_rfl)
  go_enter Tryz.func6, Tryz.ntmps6
  go_wp2_with fail
  refine (C.out _).mono ?_
  rintro e w1 ⟨rfl, b1⟩
  have bb := Below.trans b0 (b1.mono b0.size)
  clear r0 b0 b1 C
  go_wp2_with fail
  go_returns
  exact ⟨rfl, bb⟩
end Go.Proofs.YtokhkkidpjfdkaaGreatDoor
