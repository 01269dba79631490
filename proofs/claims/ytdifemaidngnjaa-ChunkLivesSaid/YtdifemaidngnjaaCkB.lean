/-
  The document's reader of chunks: digit, sized, fed.
-/
import Derived.Test.YtdifemaidngnjaaCkO
import Derived.Test.YtdifemaidngnjaaPfB
import Derived.Test.YtdifemaidngnjaaSp
import Derived.Deep.QuietTactic
import Derived.BigQuiet
namespace Go.Proofs.Ytdifemaidngnjaa
open Go.RowKit
set_option linter.unusedVariables false
set_option maxRecDepth 100000

set_option maxHeartbeats 1000000 in
theorem digit_any (n : Nat) (hn : n < 256) (w : World) : Calls Try.prog 37 #[.int .u8 n] w fun e w' => e = .returned (.int .i64 (dgn n)) ∧ w' = w := by
  by_cases h1 : 48 ≤ n ∧ n ≤ 57
  · have e : dgn n = (n : Int) - 48 := by unfold dgn; rw [if_pos h1]
    have a1 : (48 : Int) ≤ n := by omega
    have a2 : (n : Int) ≤ 57 := by omega
    have w1 : IntKind.u8.wrap ((n : Int) - 48) = (n : Int) - 48 := IntWalk.u8_in _ (by omega)
    have w2 : IntKind.i64.wrap ((n : Int) - 48) = (n : Int) - 48 := IntWalk.i64_in _ (by omega)
    rw [e]
    clear e h1
    go_enter Try.func37, Try.ntmps37
    go_wp2_with fail
    go_ret
    exact ⟨rfl, rfl⟩
  by_cases h2 : 97 ≤ n ∧ n ≤ 102
  · have e : dgn n = (n : Int) - 97 + 10 := by unfold dgn; rw [if_neg h1, if_pos h2]; omega
    have a0 : (48 : Int) ≤ n := by omega
    have a1 : ¬ (n : Int) ≤ 57 := by omega
    have a2 : (97 : Int) ≤ n := by omega
    have a3 : (n : Int) ≤ 102 := by omega
    have w1 : IntKind.u8.wrap ((n : Int) - 97) = (n : Int) - 97 := IntWalk.u8_in _ (by omega)
    have w2 : IntKind.i64.wrap ((n : Int) - 97) = (n : Int) - 97 := IntWalk.i64_in _ (by omega)
    have w3 : IntKind.i64.wrap ((n : Int) - 97 + 10) = (n : Int) - 97 + 10 := IntWalk.i64_in _ (by omega)
    rw [e]
    clear e h1 h2
    go_enter Try.func37, Try.ntmps37
    go_wp2_with fail
    go_ret
    exact ⟨rfl, rfl⟩
  by_cases h3 : 65 ≤ n ∧ n ≤ 70
  · have e : dgn n = (n : Int) - 65 + 10 := by unfold dgn; rw [if_neg h1, if_neg h2, if_pos h3]; omega
    have a0 : (48 : Int) ≤ n := by omega
    have a1 : ¬ (n : Int) ≤ 57 := by omega
    have a2 : ¬ (97 : Int) ≤ n := by omega
    have a3 : (65 : Int) ≤ n := by omega
    have a4 : (n : Int) ≤ 70 := by omega
    have w1 : IntKind.u8.wrap ((n : Int) - 65) = (n : Int) - 65 := IntWalk.u8_in _ (by omega)
    have w2 : IntKind.i64.wrap ((n : Int) - 65) = (n : Int) - 65 := IntWalk.i64_in _ (by omega)
    have w3 : IntKind.i64.wrap ((n : Int) - 65 + 10) = (n : Int) - 65 + 10 := IntWalk.i64_in _ (by omega)
    rw [e]
    clear e h1 h2 h3
    go_enter Try.func37, Try.ntmps37
    go_wp2_with fail
    go_ret
    exact ⟨rfl, rfl⟩
  · have e : dgn n = -1 := by unfold dgn; rw [if_neg h1, if_neg h2, if_neg h3]
    have b1 : decide ((48 : Int) ≤ n) = true → decide ((n : Int) ≤ 57) = false := by simp; omega
    have b2 : decide ((97 : Int) ≤ n) = true → decide ((n : Int) ≤ 102) = false := by simp; omega
    have b3 : decide ((65 : Int) ≤ n) = true → decide ((n : Int) ≤ 70) = false := by simp; omega
    rw [e]
    clear e h1 h2 h3
    by_cases c1 : (48 : Int) ≤ n <;> by_cases c2 : (97 : Int) ≤ n <;> by_cases c3 : (65 : Int) ≤ n <;> simp only [c1, c2, c3, decide_true, decide_false, true_implies, decide_eq_false_iff_not, Bool.false_eq_true, false_implies] at b1 b2 b3
    all_goals first
      | omega
      | (go_enter Try.func37, Try.ntmps37
         go_wp2_with fail
         go_ret
         exact ⟨rfl, rfl⟩)
end Go.Proofs.Ytdifemaidngnjaa
