/-
  A disk that no call made: what each call answers; nothing turns.
-/
import Derived.Test.YtcnnifogppabdaaFlX
namespace Go.Proofs.Ytcnnifogppabdaa
open Go.RowKit
set_option linter.unusedVariables false
set_option maxRecDepth 100000

/-- nil, or a disk whose map is nil. -/
def Nob (w : World) (v : Value) : Prop := v = .pointer none ∨ ∃ a, v = .pointer (some a) ∧ w.cell? a = some (.map none)
theorem Nob.made {w : World} {v : Value} (h : Nob w v) : Calls Try.prog 33 #[v] w fun e w' => e = .returned (.bool false) ∧ w = w' := by
  rcases h with rfl | ⟨a, rfl, c0⟩
  · exact made_nil w
  · exact made_plain w a c0
theorem Append_nob {w : World} {v : Value} (h : Nob w v) (x : Value) (y : Value) : Calls Try.prog 16 #[v, x, y] w fun e w' => e = .returned (.tuple #[.int .i64 0, .int .i64 2]) ∧ w = w' := by
  have C := Lib.hid h.made
  clear h
  go_enter Try.func16, Try.ntmps16
  go_wp2_with fail
  with_reducible refine Calls.mono C.out ?_
  rintro e w1 ⟨rfl, rfl⟩
  go_wp2_with fail
  go_ret2
  exact ⟨rfl, rfl⟩
theorem Read_nob {w : World} {v : Value} (h : Nob w v) (x : Value) : Calls Try.prog 20 #[v, x] w fun e w' => e = .returned (.tuple #[.slice none 0 0, .int .i64 2]) ∧ w = w' := by
  have C := Lib.hid h.made
  clear h
  go_enter Try.func20, Try.ntmps20
  go_wp2_with fail
  with_reducible refine Calls.mono C.out ?_
  rintro e w1 ⟨rfl, rfl⟩
  go_wp2_with fail
  go_ret2
  exact ⟨rfl, rfl⟩
theorem Sync_nob {w : World} {v : Value} (h : Nob w v) (x : Value) : Calls Try.prog 17 #[v, x] w fun e w' => e = .returned (.int .i64 2) ∧ w = w' := by
  have C := Lib.hid h.made
  clear h
  go_enter Try.func17, Try.ntmps17
  go_wp2_with fail
  with_reducible refine Calls.mono C.out ?_
  rintro e w1 ⟨rfl, rfl⟩
  go_wp2_with fail
  go_ret
  exact ⟨rfl, rfl⟩
theorem Cut_nob {w : World} {v : Value} (h : Nob w v) (x : Value) (y : Value) : Calls Try.prog 27 #[v, x, y] w fun e w' => e = .returned (.int .i64 2) ∧ w = w' := by
  have C := Lib.hid h.made
  clear h
  go_enter Try.func27, Try.ntmps27
  go_wp2_with fail
  with_reducible refine Calls.mono C.out ?_
  rintro e w1 ⟨rfl, rfl⟩
  go_wp2_with fail
  go_ret
  exact ⟨rfl, rfl⟩
theorem Rename_nob {w : World} {v : Value} (h : Nob w v) (x : Value) (y : Value) : Calls Try.prog 26 #[v, x, y] w fun e w' => e = .returned (.int .i64 2) ∧ w = w' := by
  have C := Lib.hid h.made
  clear h
  go_enter Try.func26, Try.ntmps26
  go_wp2_with fail
  with_reducible refine Calls.mono C.out ?_
  rintro e w1 ⟨rfl, rfl⟩
  go_wp2_with fail
  go_ret
  exact ⟨rfl, rfl⟩
theorem Remove_nob {w : World} {v : Value} (h : Nob w v) (x : Value) : Calls Try.prog 25 #[v, x] w fun e w' => e = .returned (.int .i64 2) ∧ w = w' := by
  have C := Lib.hid h.made
  clear h
  go_enter Try.func25, Try.ntmps25
  go_wp2_with fail
  with_reducible refine Calls.mono C.out ?_
  rintro e w1 ⟨rfl, rfl⟩
  go_wp2_with fail
  go_ret
  exact ⟨rfl, rfl⟩
theorem Short_nob {w : World} {v : Value} (h : Nob w v) (x : Value) : Calls Try.prog 29 #[v, x] w fun e w' => e = .returned (.int .i64 2) ∧ w = w' := by
  have C := Lib.hid h.made
  clear h
  go_enter Try.func29, Try.ntmps29
  go_wp2_with fail
  with_reducible refine Calls.mono C.out ?_
  rintro e w1 ⟨rfl, rfl⟩
  go_wp2_with fail
  go_ret
  exact ⟨rfl, rfl⟩
theorem Room_nob {w : World} {v : Value} (h : Nob w v) (x : Value) : Calls Try.prog 28 #[v, x] w fun e w' => e = .returned (.int .i64 2) ∧ w = w' := by
  have C := Lib.hid h.made
  clear h
  go_enter Try.func28, Try.ntmps28
  go_wp2_with fail
  with_reducible refine Calls.mono C.out ?_
  rintro e w1 ⟨rfl, rfl⟩
  go_wp2_with fail
  go_ret
  exact ⟨rfl, rfl⟩
theorem Fuse_nob {w : World} {v : Value} (h : Nob w v) (x : Value) : Calls Try.prog 24 #[v, x] w fun e w' => e = .returned (.int .i64 2) ∧ w = w' := by
  have C := Lib.hid h.made
  clear h
  go_enter Try.func24, Try.ntmps24
  go_wp2_with fail
  with_reducible refine Calls.mono C.out ?_
  rintro e w1 ⟨rfl, rfl⟩
  go_wp2_with fail
  go_ret
  exact ⟨rfl, rfl⟩
theorem Crash_nob {w : World} {v : Value} (h : Nob w v) (x : Value) : Calls Try.prog 18 #[v, x] w fun e w' => e = .returned (.int .i64 2) ∧ w = w' := by
  have C := Lib.hid h.made
  clear h
  go_enter Try.func18, Try.ntmps18
  go_wp2_with fail
  with_reducible refine Calls.mono C.out ?_
  rintro e w1 ⟨rfl, rfl⟩
  go_wp2_with fail
  go_ret
  exact ⟨rfl, rfl⟩
theorem List_nob {w : World} {v : Value} (h : Nob w v)  : Calls Try.prog 31 #[v] w fun e w' => e = .returned (.slice none 0 0) ∧ w = w' := by
  have C := Lib.hid h.made
  clear h
  go_enter Try.func31, Try.ntmps31
  go_wp2_with fail
  with_reducible refine Calls.mono C.out ?_
  rintro e w1 ⟨rfl, rfl⟩
  go_wp2_with fail
  go_ret
  exact ⟨rfl, rfl⟩
theorem Synced_nob {w : World} {v : Value} (h : Nob w v) (x : Value) : Calls Try.prog 22 #[v, x] w fun e w' => e = .returned (.int .i64 0) ∧ w = w' := by
  have C := Lib.hid h.made
  clear h
  go_enter Try.func22, Try.ntmps22
  go_wp2_with fail
  with_reducible refine Calls.mono C.out ?_
  rintro e w1 ⟨rfl, rfl⟩
  go_wp2_with fail
  go_ret
  exact ⟨rfl, rfl⟩
theorem Used_nob {w : World} {v : Value} (h : Nob w v)  : Calls Try.prog 23 #[v] w fun e w' => e = .returned (.int .i64 0) ∧ w = w' := by
  have C := Lib.hid h.made
  clear h
  go_enter Try.func23, Try.ntmps23
  go_wp2_with fail
  with_reducible refine Calls.mono C.out ?_
  rintro e w1 ⟨rfl, rfl⟩
  go_wp2_with fail
  go_ret
  exact ⟨rfl, rfl⟩
theorem Copy_nob {w : World} {v : Value} (h : Nob w v)  : Calls Try.prog 12 #[v] w fun e w' => e = .returned (.pointer none) ∧ w = w' := by
  have C := Lib.hid h.made
  clear h
  go_enter Try.func12, Try.ntmps12
  go_wp2_with fail
  with_reducible refine Calls.mono C.out ?_
  rintro e w1 ⟨rfl, rfl⟩
  go_wp2_with fail
  go_ret
  exact ⟨rfl, rfl⟩
end Go.Proofs.Ytcnnifogppabdaa
