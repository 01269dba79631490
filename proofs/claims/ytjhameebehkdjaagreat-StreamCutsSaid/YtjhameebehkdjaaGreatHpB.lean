/-
  Replies of HTTP: the landed Reply.
-/
import Derived.Test.YtjhameebehkdjaaGreatHpA
namespace Go.Proofs.YtjhameebehkdjaaGreat
open Go.RowKit
set_option linter.unusedVariables false
set_option maxRecDepth 100000

theorem headR_len {n : Nat} (hn : n < 10 ^ 15) (ok keep : Bool) : (headR ok n keep).length ≤ 120 := by
  have := (decD_len 14 n hn).1
  have h1 : sOk.length = 56 := by decide
  have h2 : sBad.length = 26 := by decide
  cases ok <;> cases keep <;> simp [headR, lenLine, sLen, crlf, sClose, h1, h2] <;> omega
/-- What Reply answers. -/
def MayR (code : Int) (n : Nat) (keep ok : Bool) : Prop := (code = 200 ∧ n ≤ 65535 ∧ ok = true) ∨ (code = 400 ∧ n = 0 ∧ keep = false ∧ ok = false)
def ReplyOk (w : World) (x : Bs) (e : Ending) (w' : World) : Prop := ∃ v, e = .returned (.tuple #[v, .int .i64 0]) ∧ OwnB w' w.heap.size v x ∧ Below w.heap.size w w'
end Go.Proofs.YtjhameebehkdjaaGreat
