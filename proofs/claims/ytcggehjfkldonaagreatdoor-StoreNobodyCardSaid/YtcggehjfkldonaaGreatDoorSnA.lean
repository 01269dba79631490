/-
  A disk, and a log, that no call made: what each call answers; nothing turns.
-/
import Derived.Test.YtcggehjfkldonaaGreatDoorRdE
import Derived.Deep.QuietTactic
import Derived.BigQuiet
import Derived.LoopN
import Derived.WalkSpells
namespace Go.Proofs.YtcggehjfkldonaaGreatDoor
open Go.RowKit
set_option linter.unusedVariables false
set_option maxRecDepth 100000

/-- nil, or a disk whose map is nil. -/
def NobD (w : World) (v : Value) : Prop := v = .pointer none ∨ ∃ g, v = .pointer (some ⟨g, 0, none⟩) ∧ w.cell? ⟨g, 0, none⟩ = some (.map none)
theorem NobD.made {w : World} {v : Value} (h : NobD w v) : Calls Tryz.prog 73 #[v] w fun e w' => e = .returned (.bool false) ∧ w' = w := by
  rcases h with rfl | ⟨g, rfl, c1⟩
  · go_enter Tryz.func73, Tryz.ntmps73
    go_wp2_with fail
    go_ret
    exact ⟨rfl, rfl⟩
  · have hm := run_neq_map_nil (P := Tryz.prog) w 36 9 125 none Tryz.underlying36
    go_enter Tryz.func73, Tryz.ntmps73
    go_wp2_with fail
    go_ret
    exact ⟨rfl, rfl⟩
theorem ReadD_nob {w : World} {v : Value} (h : NobD w v) (x : Value) : Calls Tryz.prog 33 #[v, x] w fun e w' => e = .returned (.tuple #[.slice none 0 0, .int .i64 2]) ∧ w' = w := by
  have C := Lib.hid h.made
  clear h
  go_enter Tryz.func33, Tryz.ntmps33
  go_wp2_with fail
  refine C.out.mono ?_
  rintro e w1 ⟨rfl, rfl⟩
  go_wp2_with fail
  go_returns
  exact ⟨rfl, rfl⟩
theorem OpenL_nob {w : World} {v : Value} (h : NobD w v) : Calls Tryz.prog 10 #[v] w fun e w' => e = .returned (.tuple #[.pointer none, .slice none 0 0, .int .i64 2]) ∧ w' = w := by
  have C := Lib.hid (fun x => ReadD_nob h x)
  clear h
  go_enter Tryz.func10, Tryz.ntmps10
  go_wp2_with fail
  refine (C.out _).mono ?_
  rintro e w1 ⟨rfl, rfl⟩
  go_wp2_with fail
  go_returns
  exact ⟨rfl, rfl⟩
/-- nil, or a log whose disk is nil. -/
def NobL (w : World) (v : Value) : Prop := v = .pointer none ∨ ∃ g, v = .pointer (some ⟨g, 0, none⟩) ∧ w.cell? ⟨g, 0, none⟩ = some (.pointer none)
theorem NobL.made {w : World} {v : Value} (h : NobL w v) : Calls Tryz.prog 20 #[v] w fun e w' => e = .returned (.bool false) ∧ w' = w := by
  rcases h with rfl | ⟨g, rfl, c1⟩
  · go_enter Tryz.func20, Tryz.ntmps20
    go_wp2_with fail
    go_ret
    exact ⟨rfl, rfl⟩
  · go_enter Tryz.func20, Tryz.ntmps20
    go_wp2_with fail
    go_ret
    exact ⟨rfl, rfl⟩
theorem AppendL_nob {w : World} {v : Value} (h : NobL w v) (x : Value) : Calls Tryz.prog 5 #[v, x] w fun e w' => e = .returned (.int .i64 2) ∧ w' = w := by
  have C := Lib.hid h.made
  clear h
  go_enter Tryz.func5, Tryz.ntmps5
  go_wp2_with fail
  refine C.out.mono ?_
  rintro e w1 ⟨rfl, rfl⟩
  go_wp2_with fail
  go_ret
  exact ⟨rfl, rfl⟩
theorem SyncL_nob {w : World} {v : Value} (h : NobL w v) : Calls Tryz.prog 6 #[v] w fun e w' => e = .returned (.int .i64 2) ∧ w' = w := by
  have C := Lib.hid h.made
  clear h
  go_enter Tryz.func6, Tryz.ntmps6
  go_wp2_with fail
  refine C.out.mono ?_
  rintro e w1 ⟨rfl, rfl⟩
  go_wp2_with fail
  go_ret
  exact ⟨rfl, rfl⟩
theorem ReplaceL_nob {w : World} {v : Value} (h : NobL w v) (x : Value) : Calls Tryz.prog 7 #[v, x] w fun e w' => e = .returned (.int .i64 2) ∧ w' = w := by
  have C := Lib.hid h.made
  clear h
  go_enter Tryz.func7, Tryz.ntmps7
  go_wp2_with fail
  refine C.out.mono ?_
  rintro e w1 ⟨rfl, rfl⟩
  go_wp2_with fail
  go_ret
  exact ⟨rfl, rfl⟩
theorem SegmentsL_nob {w : World} {v : Value} (h : NobL w v) : Calls Tryz.prog 8 #[v] w fun e w' => e = .returned (.slice none 0 0) ∧ w' = w := by
  have C := Lib.hid h.made
  clear h
  go_enter Tryz.func8, Tryz.ntmps8
  go_wp2_with fail
  refine C.out.mono ?_
  rintro e w1 ⟨rfl, rfl⟩
  go_wp2_with fail
  go_ret
  exact ⟨rfl, rfl⟩
theorem BytesL_nob {w : World} {v : Value} (h : NobL w v) : Calls Tryz.prog 9 #[v] w fun e w' => e = .returned (.int .i64 0) ∧ w' = w := by
  have C := Lib.hid h.made
  clear h
  go_enter Tryz.func9, Tryz.ntmps9
  go_wp2_with fail
  refine C.out.mono ?_
  rintro e w1 ⟨rfl, rfl⟩
  go_wp2_with fail
  go_ret
  exact ⟨rfl, rfl⟩
end Go.Proofs.YtcggehjfkldonaaGreatDoor
