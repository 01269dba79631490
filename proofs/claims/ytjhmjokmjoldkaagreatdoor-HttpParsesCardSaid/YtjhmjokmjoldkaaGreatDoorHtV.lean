/-
  Requests of HTTP: the landed Ask, where no chunks are asked; Itoa of one.
-/
import Derived.Test.YtjhmjokmjoldkaaGreatDoorHpB
namespace Go.Proofs.YtjhmjokmjoldkaaGreatDoor
open Go.RowKit
set_option linter.unusedVariables false
set_option maxRecDepth 100000

/-- Itoa of one. -/
theorem IT1 (w : World) : IT 1 w := by
  have HD : Hid (bs (decD 1) = ⟨#[49]⟩) := Lib.hid (by unfold decD; rw [Go.Lib.decDigits]; rfl)
  have S : ∀ w : World, Calls Tryz.prog 68 #[.int .i64 1] w fun e w' => e = .returned (.string ⟨#[49]⟩) ∧ w' = w := fun w => by
    go_enter Tryz.func68, Tryz.ntmps68
    go_wp2_with fail
    go_ret
    exact ⟨rfl, rfl⟩
  have HS := Lib.hid S
  clear S
  have F : ∀ w : World, Calls Tryz.prog 60 #[.int .i64 1, .int .i64 10] w fun e w' => e = .returned (.string ⟨#[49]⟩) ∧ w' = w := fun w => by
    go_enter Tryz.func60, Tryz.ntmps60
    go_wp2_with fail
    refine (HS.out _).mono ?_
    rintro e w1 ⟨rfl, rfl⟩
    go_wp2_with fail
    go_ret
    exact ⟨rfl, rfl⟩
  have HF := Lib.hid F
  clear F
  have G : ∀ w : World, Calls Tryz.prog 48 #[.int .i64 1] w fun e w' => e = .returned (.string ⟨#[49]⟩) ∧ w' = w := fun w => by
    go_enter Tryz.func48, Tryz.ntmps48
    go_wp2_with fail
    refine (HF.out _).mono ?_
    rintro e w1 ⟨rfl, rfl⟩
    go_wp2_with fail
    go_ret
    exact ⟨rfl, rfl⟩
  have HG := Lib.hid G
  clear G
  unfold IT
  rw [HD.out]
  clear HD
  go_enter Tryz.func37, Tryz.ntmps37
  go_wp2_with fail
  refine (HG.out _).mono ?_
  rintro e w1 ⟨rfl, hw⟩
  rw [hw]
  clear hw
  go_wp2_with fail
  go_ret
  exact ⟨rfl, Below.refl _ _⟩
theorem wpList_conv_own {ops : Array Oper} {rest : List Oper} {o : Oper} {a : Act} {w : World} {Q : Exit → Act → World → Prop} (hgd : o.guard = none) (x : Operand) (ho : o.op = .convert 9 22 x) {h : Bs} (hx : a.eval x = .string (bs h)) (hl : h.length ≤ 140737488355328)
    (hK : ∀ v w', OwnB w' w.heap.size v h → Below w.heap.size w w' → wpList Tryz.prog ops Q rest (a.put o.dst v) w') : wpList Tryz.prog ops Q (o :: rest) a w := by
  refine wpList_plain hgd fun K hK' => ?_
  obtain ⟨v, w', hr, h3, h4⟩ := conv_own h w hl
  unfold Oper.wp execOp
  simp only [ho, Sem.run_bind, Sem.run_pure, Result.andThen_ok, hx, hr]
  exact hK' _ _ (hK v w' h3 h4)
def sAsk : Bs := [80, 79, 83, 84, 32, 47, 100, 110, 115, 45, 113, 117, 101, 114, 121, 32, 72, 84, 84, 80, 47, 49, 46, 49, 13, 10, 72, 111, 115, 116, 58, 32, 114, 101, 115, 111, 108, 118, 101, 114, 13, 10, 67, 111, 110, 116, 101, 110, 116, 45, 84, 121, 112, 101, 58, 32, 97, 112, 112, 108, 105, 99, 97, 116, 105, 111, 110, 47, 100, 110, 115, 45, 109, 101, 115, 115, 97, 103, 101, 13, 10]
def askH (n : Nat) : Bs := sAsk ++ (lenLine n ++ crlf)
theorem askH_len {n : Nat} (hn : n < 10 ^ 15) : (askH n).length ≤ 140 := by
  have h1 := (decD_len 14 n hn).1
  have h2 : sAsk.length = 81 := by decide
  simp [askH, lenLine, sLen, crlf, h2]
  omega
set_option maxRecDepth 100000 in
set_option maxHeartbeats 1000000 in
theorem ask_plain (A : Option Addr) (b : Bs) (c : Nat) (w : World) (hb : Sl w A c b) (hn : b.length ≤ 65535) (hI : IT b.length w) : Calls Tryz.prog 10 #[.slice A b.length c, .bool false] w (ReplyOk w (askH b.length ++ b)) := by
  have hh := askH_len (n := b.length) (by omega)
  have HC := Lib.hid (lengthLine_any b.length w (by omega) hI)
  have hl : (lenLine b.length).length ≤ 40 := by have := (decD_len 14 b.length (by omega)).1; simp [lenLine, sLen, crlf]; omega
  have HD : Hid (∀ v w', OwnB w' w.heap.size v (askH b.length ++ b) → Below w.heap.size w w' → ReplyOk w (askH b.length ++ b) (.returned (.tuple #[v, .int .i64 0])) w') := Lib.hid (fun v w' o k => ⟨v, rfl, o, k⟩)
  generalize ReplyOk w (askH b.length ++ b) = Q at *
  obtain ⟨n, hnn⟩ : ∃ n, n = b.length := ⟨_, rfl⟩
  rw [← hnn] at hn hh HC HD hl ⊢
  have HN := Lib.hid hnn
  have HB := Lib.hid hb
  have HE : Hid (∀ z : ByteArray, z = bs sAsk → Value.string (z ++ (bs (lenLine n) ++ bs crlf)) = .string (bs (askH n))) := Lib.hid (fun z hz => by rw [hz, askH, bs_append, bs_append])
  have HHH := Lib.hid hh
  have hsz : (bs (lenLine n)).size = (lenLine n).length := bs_size _
  generalize lenLine n = d at *
  generalize askH n = h at *
  clear hnn hb hI hh
  have hle : ¬ (n : Int) > 65535 := by omega
  go_enter Tryz.func10, Tryz.ntmps10
  go_wp2_with fail
  refine HC.out.mono ?_
  rintro e w1 ⟨rfl, k1⟩
  have K1 := Lib.hid k1
  have hw1 := k1.size
  clear k1 HC
  have q1 : d.length + 2 ≤ 9223372036854775807 := by omega
  have q2 : 81 + (d.length + 2) ≤ 9223372036854775807 := by omega
  go_wp2_with (first
    | (refine wpList_conv_own rfl (.tmp 20) rfl (h := h) (HE.out _ rfl) (by have := HHH.out; omega) ?_)
    | fail)
  intro v2 w2 o2' k2
  have o2 := o2'.mono (Nat.le_trans hw1 (Nat.le_refl _))
  have O2 := Lib.hid o2
  have K2 := Lib.hid (K1.out.trans (k2.mono hw1))
  have B2 := Lib.hid (HB.out.on K2.out)
  have hw2 := K2.out.size
  clear o2 o2' k2 HE
  go_wp2_with (first
    | (at_builtin; refine wpList_append_bys rfl (.tmp 21) (.tmp 22) rfl w.heap.size _ h rfl O2.out A c n b rfl HN.out B2.out.bys B2.out.nil (by rw [← HN.out]; have := HHH.out; omega) hw2 ?_)
    | fail)
  intro v3 w3 o3 g3 _
  have HF := Lib.hid (HD.out v3 w3 o3 (K2.out.grown g3 hw2 (fun k hk => (O2.out.lt k hk).1)))
  clear o3 g3
  go_wp2_with fail
  exact HF.out
end Go.Proofs.YtjhmjokmjoldkaaGreatDoor
