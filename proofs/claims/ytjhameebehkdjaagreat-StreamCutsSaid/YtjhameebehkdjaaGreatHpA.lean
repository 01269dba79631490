/-
  Replies of HTTP: plain bytes; the landed lines of a head; Reply.
-/
import Derived.Test.YtjhameebehkdjaaGreatMo
import Derived.Test.YtjhameebehkdjaaGreatEnN
import Derived.Lib.ItoaNum
import Derived.Deep.QuietTactic
import Derived.BigQuiet
namespace Go.Proofs.YtjhameebehkdjaaGreat
open Go.RowKit
set_option linter.unusedVariables false
set_option maxRecDepth 100000

def decD (n : Nat) : Bs := Go.Lib.decDigits n
theorem decD_len : ∀ (k n : Nat), n < 10 ^ (k + 1) → (decD n).length ≤ k + 1 ∧ 0 < (decD n).length
  | 0, n, h => by unfold decD; rw [Go.Lib.decDigits, dif_pos (by simpa using h)]; simp
  | k + 1, n, h => by
    unfold decD
    rw [Go.Lib.decDigits]
    split
    · simp
    · have := decD_len k (n / 10) (by rw [Nat.pow_succ] at h; omega)
      unfold decD at this
      simp
      omega
def crlf : Bs := [13, 10]
def sLen : Bs := [67, 111, 110, 116, 101, 110, 116, 45, 76, 101, 110, 103, 116, 104, 58, 32]
def sClose : Bs := [67, 111, 110, 110, 101, 99, 116, 105, 111, 110, 58, 32, 99, 108, 111, 115, 101, 13, 10]
def sOk : Bs := "HTTP/1.1 200 OK\r\nContent-Type: application/dns-message\r\n".toUTF8.data.toList
def sBad : Bs := "HTTP/1.1 400 Bad Request\r\n".toUTF8.data.toList
def lenLine (n : Nat) : Bs := sLen ++ decD n ++ crlf
def headR (ok : Bool) (n : Nat) (keep : Bool) : Bs := (if ok then sOk else sBad) ++ lenLine n ++ (if keep then [] else sClose) ++ crlf
theorem str2 {a b : Bs} (z : ByteArray) (h : z = bs (a ++ b)) : bs a ++ bs b = z := by rw [h, bs_append]
end Go.Proofs.YtjhameebehkdjaaGreat
