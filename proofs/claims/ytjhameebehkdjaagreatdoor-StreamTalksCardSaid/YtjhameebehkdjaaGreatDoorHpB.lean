/-
  Replies of HTTP: the landed Reply.
-/
import Derived.Test.YtjhameebehkdjaaGreatDoorHpA
namespace Go.Proofs.YtjhameebehkdjaaGreatDoor
open Go.RowKit
set_option linter.unusedVariables false
set_option maxRecDepth 100000

theorem headR_len {n : Nat} (hn : n < 10 ^ 15) (ok keep : Bool) : (headR ok n keep).length ≤ 120 := by
  have := (decD_len 14 n hn).1
  have h1 : sOk.length = 56 := by decide
  have h2 : sBad.length = 26 := by decide
  cases ok <;> cases keep <;> simp [headR, lenLine, sLen, crlf, sClose, h1, h2] <;> omega
/-- What Reply answers. -/
def MayR (code : Int) (n : Nat) (keep ok : Bool) : Prop := (code = 200 ∧ n ≤ 65535 ∧ ok = true) ∨ (code = 400 ∧ n = 0 ∧ keep = false ∧ ok = false)
def ReplyOk (w : World) (x : Bs) (e : Ending) (w' : World) : Prop := ∃ v, e = .returned (.tuple #[v, .int .i64 0]) ∧ OwnB w' w.heap.size v x ∧ Below w.heap.size w w'
set_option maxHeartbeats 1000000 in
theorem reply_yes (code : Int) (A : Option Addr) (b : Bs) (c : Nat) (keep ok : Bool) (w : World) (hb : Sl w A c b) (hm : MayR code b.length keep ok) (hI : IT b.length w) : Calls Tryz.prog 93 #[.int .i64 code, .slice A b.length c, .bool keep] w (ReplyOk w (headR ok b.length keep ++ b)) := by
  have hn : b.length ≤ 65535 := by rcases hm with ⟨_, h, _⟩ | ⟨_, h, _⟩ <;> omega
  have hh := headR_len (n := b.length) (by omega) ok keep
  have HC := Lib.hid (replyHead_any code ok (by rcases hm with ⟨h1, _, h2⟩ | ⟨h1, _, _, h2⟩ <;> simp [h1, h2]) b.length keep w (by omega) hI)
  have HD : Hid (∀ v w', OwnB w' w.heap.size v (headR ok b.length keep ++ b) → Below w.heap.size w w' → ReplyOk w (headR ok b.length keep ++ b) (.returned (.tuple #[v, .int .i64 0])) w') := Lib.hid (fun v w' o k => ⟨v, rfl, o, k⟩)
  generalize ReplyOk w (headR ok b.length keep ++ b) = Q at *
  obtain ⟨n, hnn⟩ : ∃ n, n = b.length := ⟨_, rfl⟩
  rw [← hnn] at hn hh hm HC HD ⊢
  have HN := Lib.hid hnn
  have HB := Lib.hid hb
  generalize headR ok n keep = h at *
  clear hnn hb hI
  have rest : ∀ (w1 : World), Below w.heap.size w w1 → ∃ v w2, (convert 9 29 (.string (bs h))).run Tryz.prog w1 = .ok v w2 ∧ OwnB w2 w.heap.size v h ∧ Below w.heap.size w w2 := fun w1 k1 => by
    obtain ⟨v, w2, a, o, k⟩ := conv_own h w1 (by omega)
    exact ⟨v, w2, a, o.mono k1.size, k1.trans (k.mono k1.size)⟩
  have R := Lib.hid rest
  clear rest
  rcases hm with ⟨rfl, h65, rfl⟩ | ⟨rfl, rfl, rfl, rfl⟩
  · have hle : (n : Int) ≤ 65535 := by omega
    go_enter Tryz.func93, Tryz.ntmps93
    go_wp2_with fail
    refine HC.out.mono ?_
    rintro e w1 ⟨rfl, k1⟩
    obtain ⟨v2, w2, hcv, o2, k2⟩ := R.out w1 k1
    have O2 := Lib.hid o2
    have K2 := Lib.hid k2
    have B2 := Lib.hid (HB.out.on k2)
    have hw2 := k2.size
    clear o2 k2 k1 R HC
    go_wp2_with (first
      | (at_builtin; refine wpList_append_bys rfl (.tmp 33) (.tmp 34) rfl w.heap.size _ h rfl O2.out A c n b rfl HN.out B2.out.bys B2.out.nil (by rw [← HN.out]; omega) hw2 ?_)
      | fail)
    intro v3 w3 o3 g3 _
    have HF := Lib.hid (HD.out v3 w3 o3 (K2.out.grown g3 hw2 (fun k hk => (O2.out.lt k hk).1)))
    clear o3 g3 hcv
    go_wp2_with fail
    exact HF.out
  · go_enter Tryz.func93, Tryz.ntmps93
    go_wp2_with fail
    refine HC.out.mono ?_
    rintro e w1 ⟨rfl, k1⟩
    obtain ⟨v2, w2, hcv, o2, k2⟩ := R.out w1 k1
    have O2 := Lib.hid o2
    have K2 := Lib.hid k2
    have B2 := Lib.hid (HB.out.on k2)
    have hw2 := k2.size
    clear o2 k2 k1 R HC
    go_wp2_with (first
      | (at_builtin; refine wpList_append_bys rfl (.tmp 33) (.tmp 34) rfl w.heap.size _ h rfl O2.out A c 0 b rfl HN.out B2.out.bys B2.out.nil (by rw [← HN.out]; omega) hw2 ?_)
      | fail)
    intro v3 w3 o3 g3 _
    have HF := Lib.hid (HD.out v3 w3 o3 (K2.out.grown g3 hw2 (fun k hk => (O2.out.lt k hk).1)))
    clear o3 g3 hcv
    go_wp2_with fail
    exact HF.out
set_option maxHeartbeats 1000000 in
theorem reply_no (code : Int) (A : Option Addr) (n : Nat) (c : Nat) (keep : Bool) (w : World) (h2 : ∀ ok, ¬ MayR code n keep ok) : Calls Tryz.prog 93 #[.int .i64 code, .slice A n c, .bool keep] w fun e w' => e = .returned (.tuple #[.slice none 0 0, .int .i64 1]) ∧ w' = w := by
  have ha : code = 200 → ¬ (n : Int) ≤ 65535 := fun h k => h2 true (.inl ⟨h, by omega, rfl⟩)
  have hb : code = 400 → (n : Int) = 0 → keep = true := fun h k => by
    cases keep with
    | true => rfl
    | false => exact absurd (.inr ⟨h, by omega, rfl, rfl⟩) (h2 false)
  clear h2
  by_cases h200 : code = 200
  · have h65 := ha h200
    subst h200
    clear ha hb
    go_enter Tryz.func93, Tryz.ntmps93
    go_wp2_with fail
    go_returns
    exact ⟨rfl, rfl⟩
  · by_cases h400 : code = 400
    · subst h400
      by_cases hn : (n : Int) = 0
      · have hk := hb rfl hn
        subst hk
        obtain rfl : n = 0 := by omega
        clear ha hb h200 hn
        go_enter Tryz.func93, Tryz.ntmps93
        go_wp2_with fail
        go_returns
        exact ⟨rfl, rfl⟩
      · have hn' : ((n : Int) == 0) = false := by rw [beq_eq_false_iff_ne]; exact hn
        clear ha hb h200
        go_enter Tryz.func93, Tryz.ntmps93
        go_wp2_with fail
        go_returns
        exact ⟨rfl, rfl⟩
    · have q1 : (code == 200) = false := by rw [beq_eq_false_iff_ne]; exact h200
      have q2 : (code == 400) = false := by rw [beq_eq_false_iff_ne]; exact h400
      clear ha hb
      go_enter Tryz.func93, Tryz.ntmps93
      go_wp2_with fail
      go_returns
      exact ⟨rfl, rfl⟩
end Go.Proofs.YtjhameebehkdjaaGreatDoor
