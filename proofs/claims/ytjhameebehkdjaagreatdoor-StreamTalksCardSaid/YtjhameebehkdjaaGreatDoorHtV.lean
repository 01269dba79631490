/-
  Requests of HTTP: the landed Ask, where no chunks are asked; Itoa of one.
-/
import Derived.Test.YtjhameebehkdjaaGreatDoorHpB
namespace Go.Proofs.YtjhameebehkdjaaGreatDoor
open Go.RowKit
set_option linter.unusedVariables false
set_option maxRecDepth 100000

/-- Itoa of one. -/
theorem IT1 (w : World) : IT 1 w := by
  have HD : Hid (bs (decD 1) = ⟨#[49]⟩) := Lib.hid (by unfold decD; rw [Go.Lib.decDigits]; rfl)
  have S : ∀ w : World, Calls Tryz.prog 56 #[.int .i64 1] w fun e w' => e = .returned (.string ⟨#[49]⟩) ∧ w' = w := fun w => by
    go_enter Tryz.func56, Tryz.ntmps56
    go_wp2_with fail
    go_ret
    exact ⟨rfl, rfl⟩
  have HS := Lib.hid S
  clear S
  have F : ∀ w : World, Calls Tryz.prog 50 #[.int .i64 1, .int .i64 10] w fun e w' => e = .returned (.string ⟨#[49]⟩) ∧ w' = w := fun w => by
    go_enter Tryz.func50, Tryz.ntmps50
    go_wp2_with fail
    refine (HS.out _).mono ?_
    rintro e w1 ⟨rfl, rfl⟩
    go_wp2_with fail
    go_ret
    exact ⟨rfl, rfl⟩
  have HF := Lib.hid F
  clear F
  have G : ∀ w : World, Calls Tryz.prog 46 #[.int .i64 1] w fun e w' => e = .returned (.string ⟨#[49]⟩) ∧ w' = w := fun w => by
    go_enter Tryz.func46, Tryz.ntmps46
    go_wp2_with fail
    refine (HF.out _).mono ?_
    rintro e w1 ⟨rfl, rfl⟩
    go_wp2_with fail
    go_ret
    exact ⟨rfl, rfl⟩
  have HG := Lib.hid G
  clear G
  unfold IT
  rw [HD.out]
  clear HD
  go_enter Tryz.func39, Tryz.ntmps39
  go_wp2_with fail
  refine (HG.out _).mono ?_
  rintro e w1 ⟨rfl, hw⟩
  rw [hw]
  clear hw
  go_wp2_with fail
  go_ret
  exact ⟨rfl, Below.refl _ _⟩
theorem wpList_conv_own {ops : Array Oper} {rest : List Oper} {o : Oper} {a : Act} {w : World} {Q : Exit → Act → World → Prop} (hgd : o.guard = none) (x : Operand) (ho : o.op = .convert 9 29 x) {h : Bs} (hx : a.eval x = .string (bs h)) (hl : h.length ≤ 140737488355328)
    (hK : ∀ v w', OwnB w' w.heap.size v h → Below w.heap.size w w' → wpList Tryz.prog ops Q rest (a.put o.dst v) w') : wpList Tryz.prog ops Q (o :: rest) a w := by
  refine wpList_plain hgd fun K hK' => ?_
  obtain ⟨v, w', hr, h3, h4⟩ := conv_own h w hl
  unfold Oper.wp execOp
  simp only [ho, Sem.run_bind, Sem.run_pure, Result.andThen_ok, hx, hr]
  exact hK' _ _ (hK v w' h3 h4)
def sAsk : Bs := [80, 79, 83, 84, 32, 47, 100, 110, 115, 45, 113, 117, 101, 114, 121, 32, 72, 84, 84, 80, 47, 49, 46, 49, 13, 10, 72, 111, 115, 116, 58, 32, 114, 101, 115, 111, 108, 118, 101, 114, 13, 10, 67, 111, 110, 116, 101, 110, 116, 45, 84, 121, 112, 101, 58, 32, 97, 112, 112, 108, 105, 99, 97, 116, 105, 111, 110, 47, 100, 110, 115, 45, 109, 101, 115, 115, 97, 103, 101, 13, 10]
def askH (n : Nat) : Bs := sAsk ++ (lenLine n ++ crlf)
theorem askH_len {n : Nat} (hn : n < 10 ^ 15) : (askH n).length ≤ 140 := by
  have h1 := (decD_len 14 n hn).1
  have h2 : sAsk.length = 81 := by decide
  simp [askH, lenLine, sLen, crlf, h2]
  omega
end Go.Proofs.YtjhameebehkdjaaGreatDoor
