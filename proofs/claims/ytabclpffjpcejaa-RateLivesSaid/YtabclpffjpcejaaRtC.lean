/-
  The table is told of answers and failures.
-/
import Derived.Test.YtabclpffjpcejaaRtB
import Derived.Laws.Externs
namespace Go.Proofs.Ytabclpffjpcejaa
open Go.RowKit Go.Maps
set_option linter.unusedVariables false
set_option maxRecDepth 100000

theorem run_archFloor (w : World) (x : Nat) (h : (FloatKind.f64.decode x).isNaN = false) : (callFunc 52 #[.float .f64 x]).run Try.prog w = .ok (.value (.float .f64 (FloatKind.f64.encode ((FloatKind.f64.decode x).integral .down)))) w := by
  have he : Extern.find Try.f52 = some (Extern.MathFloor.toIntegral "math.archFloor" .down) := by kernel_rfl
  rw [run_callFunc_extern Try.func52 (by kernel_rfl) (by kernel_rfl) (by kernel_rfl) he]
  generalize hd : FloatKind.f64.decode x = d at h ⊢
  change Result.andThen (Sem.run (α := Value) Try.prog (Extern.MathFloor.toIntegral.match_1 (fun _ => Sem Value) (FloatKind.f64.decode x) _ _) w) _ = _
  rw [hd]
  cases d with
  | nan s t => cases h
  | infinity s => rfl
  | number s m e => rfl
theorem Floor_any (x y : Nat) (w : World) (h1 : FloatKind.f64.encode ((FloatKind.f64.decode x).integral .down) = y) (h2 : (FloatKind.f64.decode x).isNaN = false) : Calls Try.prog 45 #[.float .f64 x] w fun e w' => e = .returned (.float .f64 y) ∧ w = w' := by
  have hf := run_archFloor w x h2
  rw [h1] at hf
  clear h1 h2
  go_enter Try.func45, Try.ntmps45
  go_wp2_with fail
  go_ret
  exact ⟨rfl, rfl⟩
end Go.Proofs.Ytabclpffjpcejaa
