/-
  Replies of HTTP: plain bytes; the landed lines of a head; Reply.
-/
import Derived.Test.YtjhameebehkdjaaGreatDoorMo
import Derived.Test.YtjhameebehkdjaaGreatDoorEnN
import Derived.Lib.ItoaNum
import Derived.Deep.QuietTactic
import Derived.BigQuiet
namespace Go.Proofs.YtjhameebehkdjaaGreatDoor
open Go.RowKit
set_option linter.unusedVariables false
set_option maxRecDepth 100000

def decD (n : Nat) : Bs := Go.Lib.decDigits n
theorem decD_len : ∀ (k n : Nat), n < 10 ^ (k + 1) → (decD n).length ≤ k + 1 ∧ 0 < (decD n).length
  | 0, n, h => by unfold decD; rw [Go.Lib.decDigits, dif_pos (by simpa using h)]; simp
  | k + 1, n, h => by
    unfold decD
    rw [Go.Lib.decDigits]
    split
    · simp
    · have := decD_len k (n / 10) (by rw [Nat.pow_succ] at h; omega)
      unfold decD at this
      simp
      omega
/-- What Itoa answers. -/
def IT (n : Nat) (w : World) : Prop := Calls Tryz.prog 39 #[.int .i64 n] w fun e w' => e = .returned (.string (bs (decD n))) ∧ Below w.heap.size w w'
def crlf : Bs := [13, 10]
def sLen : Bs := [67, 111, 110, 116, 101, 110, 116, 45, 76, 101, 110, 103, 116, 104, 58, 32]
def sClose : Bs := [67, 111, 110, 110, 101, 99, 116, 105, 111, 110, 58, 32, 99, 108, 111, 115, 101, 13, 10]
def sOk : Bs := "HTTP/1.1 200 OK\r\nContent-Type: application/dns-message\r\n".toUTF8.data.toList
def sBad : Bs := "HTTP/1.1 400 Bad Request\r\n".toUTF8.data.toList
def lenLine (n : Nat) : Bs := sLen ++ decD n ++ crlf
def headR (ok : Bool) (n : Nat) (keep : Bool) : Bs := (if ok then sOk else sBad) ++ lenLine n ++ (if keep then [] else sClose) ++ crlf
theorem str2 {a b : Bs} (z : ByteArray) (h : z = bs (a ++ b)) : bs a ++ bs b = z := by rw [h, bs_append]
set_option maxHeartbeats 400000 in
theorem lengthLine_any (n : Nat) (w : World) (hn : n < 10 ^ 15) (h : IT n w) : Calls Tryz.prog 31 #[.int .i64 n] w fun e w' => e = .returned (.string (bs (lenLine n))) ∧ Below w.heap.size w w' := by
  have hl := (decD_len 14 n hn).1
  have H := Lib.hid h
  have HE : Hid (bs (lenLine n) = (bs sLen ++ bs (decD n)) ++ bs crlf) := Lib.hid (by rw [bs_append, bs_append]; rfl)
  rw [HE.out]
  clear HE
  unfold IT at H
  generalize decD n = d at *
  clear h hn
  have h1 : 16 + d.length ≤ 9223372036854775807 := by omega
  have h2 : 16 + d.length + 2 ≤ 9223372036854775807 := by omega
  clear hl
  go_enter Tryz.func31, Tryz.ntmps31
  go_wp2_with fail
  refine H.out.mono ?_
  rintro e w1 ⟨rfl, k1⟩
  go_wp2_with fail
  go_ret
  exact ⟨rfl, k1⟩
set_option maxHeartbeats 1000000 in
theorem replyHead_any (code : Int) (ok : Bool) (hc : (code = 200 ∧ ok = true) ∨ (code = 400 ∧ ok = false)) (n : Nat) (keep : Bool) (w : World) (hn : n < 10 ^ 15) (h : IT n w) : Calls Tryz.prog 24 #[.int .i64 code, .int .i64 n, .bool keep] w fun e w' => e = .returned (.string (bs (headR ok n keep))) ∧ Below w.heap.size w w' := by
  have hl : (lenLine n).length ≤ 40 := by have := (decD_len 14 n hn).1; simp [lenLine, sLen, crlf]; omega
  have H := Lib.hid (lengthLine_any n w hn h)
  have HE : Hid (bs (headR ok n keep) = (((if ok then bs sOk else bs sBad) ++ bs (lenLine n)) ++ (if keep then bs [] else bs sClose)) ++ bs crlf) := Lib.hid (by cases ok <;> cases keep <;> simp [bs_append, headR])
  rw [HE.out]
  clear HE
  generalize lenLine n = d at *
  clear h hn
  have q1 : 55 + d.length ≤ 9223372036854775807 := by omega
  have q2 : 26 + d.length ≤ 9223372036854775807 := by omega
  have q3 : 55 + d.length + 19 ≤ 9223372036854775807 := by omega
  have q4 : 26 + d.length + 19 ≤ 9223372036854775807 := by omega
  have q5 : 55 + d.length + 19 + 2 ≤ 9223372036854775807 := by omega
  have q6 : 26 + d.length + 19 + 2 ≤ 9223372036854775807 := by omega
  have q7 : 55 + d.length + 2 ≤ 9223372036854775807 := by omega
  have q8 : 26 + d.length + 2 ≤ 9223372036854775807 := by omega
  have E0 : Hid (∀ b : ByteArray, b ++ bs [] = b) := Lib.hid (fun b => by rw [bs_list b, bs_append, List.append_nil])
  rcases hc with ⟨rfl, rfl⟩ | ⟨rfl, rfl⟩ <;> cases keep
  all_goals
    go_enter Tryz.func24, Tryz.ntmps24
    go_wp2_with fail
    refine H.out.mono ?_
    rintro e w1 ⟨rfl, k1⟩
    go_wp2_with fail
    go_ret
    first | exact ⟨rfl, k1⟩ | (refine ⟨?_, k1⟩; first | (simp only [E0.out]; rfl) | (simp only [if_true, E0.out]; rfl) | (simp only [Bool.false_eq_true, if_false]; rfl) | (simp only [Bool.false_eq_true, if_false, E0.out]; rfl) | (simp only [if_true, if_false, Bool.false_eq_true, E0.out]; rfl))
end Go.Proofs.YtjhameebehkdjaaGreatDoor
