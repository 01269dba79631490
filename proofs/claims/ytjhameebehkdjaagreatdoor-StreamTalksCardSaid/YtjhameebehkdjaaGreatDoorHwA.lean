/-
  The document's decimal, Reply and Ask; the landed Ask of too many bytes.
-/
import Derived.Test.YtjhameebehkdjaaGreatDoorHn
import Derived.Test.YtjhameebehkdjaaGreatDoorCkF
import Derived.Test.YtjhameebehkdjaaGreatDoorHpB
import Derived.Lib.SlBytesConst
namespace Go.Proofs.YtjhameebehkdjaaGreatDoor
open Go.RowKit
set_option linter.unusedVariables false
set_option maxRecDepth 100000

/-- Bytes that are there, and an error's number. -/
def RepP (w : World) (X : Bs) (E : Int) (e : Ending) (w' : World) : Prop := ∃ A c, e = .returned (.tuple #[.slice A X.length c, .int .i64 E]) ∧ Sl w' A c X ∧ Below w.heap.size w w'
theorem RepP.ok {w : World} {X : Bs} {e : Ending} {w' : World} (h : ReplyOk w X e w') : RepP w X 0 e w' := by
  obtain ⟨v, rfl, o, k⟩ := h
  obtain ⟨A, c, rfl, s⟩ := o.bysN
  exact ⟨A, c, rfl, s, k⟩
theorem RepP.no {w : World} {e : Ending} {w' : World} (h : e = .returned (.tuple #[.slice none 0 0, .int .i64 1]) ∧ w' = w) : RepP w [] 1 e w' := by
  obtain ⟨h1, rfl⟩ := h
  exact ⟨none, 0, h1, ⟨fun h => absurd h (by simp), by simp, by omega, fun _ => rfl⟩, Below.refl _ _⟩
def dgt (k : Nat) : Bs := [UInt8.ofNat (48 + k)]
theorem decD_low {n : Nat} (h : n < 10) : decD n = dgt n := by
  unfold decD
  rw [Go.Lib.decDigits, dif_pos h]
  rfl
theorem decD_high {n : Nat} (h : ¬ n < 10) : decD n = decD (n / 10) ++ dgt (n % 10) := by
  unfold decD
  rw [Go.Lib.decDigits, dif_neg h]
  rfl
theorem dig_slice (k : Nat) (hk : k < 10) (w : World) : (Instr.slice 9 (.string ⟨#[48, 49, 50, 51, 52, 53, 54, 55, 56, 57]⟩) (some (.int .i64 k)) (some (.int .i64 ((k : Int) + 1))) none).run Tryz.prog w = .ok (.string (bs (dgt k))) w := by
  have e : (⟨#[48, 49, 50, 51, 52, 53, 54, 55, 56, 57]⟩ : ByteArray) = bs [48, 49, 50, 51, 52, 53, 54, 55, 56, 57] := rfl
  rw [e, run_slice_string w 9 _ _ _ _ _ Tryz.underlying9 (by omega) (by omega) (by rw [bs_size]; simp; omega), bs_extract]
  have h1 : ((k : Int)).toNat = k := by omega
  have h2 : ((k : Int) + 1).toNat - ((k : Int)).toNat = 1 := by omega
  have h : k = 0 ∨ k = 1 ∨ k = 2 ∨ k = 3 ∨ k = 4 ∨ k = 5 ∨ k = 6 ∨ k = 7 ∨ k = 8 ∨ k = 9 := by omega
  have e2 : (([48, 49, 50, 51, 52, 53, 54, 55, 56, 57] : Bs).drop k).take 1 = dgt k := by
    rcases h with rfl | rfl | rfl | rfl | rfl | rfl | rfl | rfl | rfl | rfl <;> rfl
  first
    | rw [h1, show ((k : Int) + 1).toNat - k = 1 by omega, e2]
    | (rw [h2, h1, e2])
set_option maxHeartbeats 1000000 in
theorem decR_any (n : Nat) : n ≤ 65535 → ∀ w, Calls Tryz.prog 15 #[.int .i64 n] w fun e w' => e = .returned (.string (bs (decD n))) ∧ Below w.heap.size w w' := by
  induction n using Nat.strongRecOn with
  | _ n ih =>
    intro hn w
    obtain ⟨k, hk⟩ : ∃ k, k = n % 10 := ⟨_, rfl⟩
    obtain ⟨q, hq⟩ : ∃ q, q = n / 10 := ⟨_, rfl⟩
    have hk10 : k < 10 := by omega
    have h1 : Int.tmod (n : Int) 10 = (k : Int) := by rw [Int.tmod_eq_emod_of_nonneg (by omega)]; omega
    have h2 : Int.tdiv (n : Int) 10 = (q : Int) := by rw [Int.tdiv_eq_ediv_of_nonneg (by omega)]; omega
    have h3 : (n : Int) / 10 = (q : Int) := by omega
    have h4 : (n : Int) % 10 = (k : Int) := by omega
    have h5 : n / 10 = q := by omega
    have h6 : n % 10 = k := by omega
    have sp := fun w => dig_slice k hk10 w
    have hd : 0 < (dgt k).length ∧ (dgt k).length ≤ 1 := by simp [dgt]
    by_cases h10 : n < 10
    · have HD : Hid (decD n = dgt k) := Lib.hid (by rw [decD_low h10]; congr 1; omega)
      have h10' : (n : Int) < 10 := by omega
      generalize dgt k = d at *
      clear ih hk hq
      go_enter Tryz.func15, Tryz.ntmps15
      go_wp2_with fail
      go_ret
      exact ⟨by rw [HD.out]; rfl, Below.refl _ _⟩
    · have HD : Hid (bs (decD n) = bs (decD q) ++ bs (dgt k)) := Lib.hid (by rw [decD_high h10, bs_append, ← hq, ← hk])
      have h10' : ¬ (n : Int) < 10 := by omega
      have IH := Lib.hid (ih q (by omega) (by omega))
      have hql := (decD_len 14 q (by omega)).1
      have hs : (decD q).length + (dgt k).length ≤ 9223372036854775807 := by omega
      rw [HD.out]
      clear HD
      generalize dgt k = d at *
      generalize decD q = dq at *
      clear ih hk hq hql
      go_enter Tryz.func15, Tryz.ntmps15
      go_wp2_with fail
      refine (IH.out _).mono ?_
      rintro e w1 ⟨rfl, k1⟩
      go_wp2_with fail
      go_ret
      exact ⟨rfl, k1⟩
def sGood : Bs := [72, 84, 84, 80, 47, 49, 46, 49, 32, 50, 48, 48, 32, 79, 75, 13, 10, 67, 111, 110, 116, 101, 110, 116, 45, 84, 121, 112, 101, 58, 32, 97, 112, 112, 108, 105, 99, 97, 116, 105, 111, 110, 47, 100, 110, 115, 45, 109, 101, 115, 115, 97, 103, 101, 13, 10, 67, 111, 110, 116, 101, 110, 116, 45, 76, 101, 110, 103, 116, 104, 58, 32]
theorem sGood_eq : sGood = sOk ++ sLen := by decide
theorem headR_good (n : Nat) (keep : Bool) : headR true n keep = (sGood ++ decD n ++ crlf) ++ (if keep then [] else sClose) ++ crlf := by
  rw [sGood_eq]
  unfold headR lenLine
  simp
set_option maxHeartbeats 1000000 in
theorem rAsk_no (A : Option Addr) (n c : Nat) (ch : Bool) (w : World) (h : ¬ n ≤ 65535) : Calls Tryz.prog 6 #[.slice A n c, .bool ch] w fun e w' => e = .returned (.tuple #[.slice none 0 0, .int .i64 1]) ∧ w' = w := by
  have h65 : (n : Int) > 65535 := by omega
  go_enter Tryz.func6, Tryz.ntmps6
  go_wp2_with fail
  go_returns
  exact ⟨rfl, rfl⟩
set_option maxHeartbeats 1000000 in
set_option maxRecDepth 100000 in
theorem rAsk_plain (A : Option Addr) (b : Bs) (c : Nat) (w : World) (hb : Sl w A c b) (hn : b.length ≤ 65535) : Calls Tryz.prog 6 #[.slice A b.length c, .bool false] w (ReplyOk w (askH b.length ++ b)) := by
  have hh := askH_len (n := b.length) (by omega)
  have HC := Lib.hid (decR_any b.length hn)
  have hdl := (decD_len 14 b.length (by omega)).1
  have HD : Hid (∀ v w', OwnB w' w.heap.size v (askH b.length ++ b) → Below w.heap.size w w' → ReplyOk w (askH b.length ++ b) (.returned (.tuple #[v, .int .i64 0])) w') := Lib.hid (fun v w' o k => ⟨v, rfl, o, k⟩)
  generalize ReplyOk w (askH b.length ++ b) = Q at *
  obtain ⟨n, hnn⟩ : ∃ n, n = b.length := ⟨_, rfl⟩
  rw [← hnn] at hn hh HC HD hdl ⊢
  have HN := Lib.hid hnn
  have HB := Lib.hid hb
  have HE : Hid (∀ z1 z2 z3 : ByteArray, z1 = bs sAsk → z2 = bs sLen → z3 = bs (crlf ++ crlf) → Value.string (((z1 ++ z2) ++ bs (decD n)) ++ z3) = .string (bs (askH n))) := Lib.hid (fun z1 z2 z3 h1 h2 h3 => by rw [h1, h2, h3]; simp [askH, lenLine, bs_append])
  have HHH := Lib.hid hh
  generalize decD n = d at *
  generalize askH n = h at *
  have q1 : 97 + d.length ≤ 9223372036854775807 := by omega
  have q2 : 97 + d.length + 4 ≤ 9223372036854775807 := by omega
  clear hnn hb hh hdl
  have hle : ¬ (n : Int) > 65535 := by omega
  go_enter Tryz.func6, Tryz.ntmps6
  go_wp2_with fail
  refine (HC.out _).mono ?_
  rintro e w1 ⟨rfl, k1⟩
  have K1 := Lib.hid k1
  have hw1 := k1.size
  clear k1 HC
  go_wp2_with (first
    | (refine wpList_conv_own rfl (.tmp 20) rfl (h := h) (HE.out _ _ _ rfl rfl rfl) (by have := HHH.out; omega) ?_)
    | fail)
  intro v2 w2 o2' k2
  have O2 := Lib.hid (o2'.mono hw1)
  have K2 := Lib.hid (K1.out.trans (k2.mono hw1))
  have B2 := Lib.hid (HB.out.on K2.out)
  have hw2 := K2.out.size
  clear o2' k2 HE
  go_wp2_with (first
    | (at_builtin; refine wpList_append_bys rfl (.tmp 21) (.tmp 22) rfl w.heap.size _ h rfl O2.out A c n b rfl HN.out B2.out.bys B2.out.nil (by rw [← HN.out]; have := HHH.out; omega) hw2 ?_)
    | fail)
  intro v3 w3 o3 g3 _
  have HF := Lib.hid (HD.out v3 w3 o3 (K2.out.grown g3 hw2 (fun k hk => (O2.out.lt k hk).1)))
  clear o3 g3
  go_wp2_with fail
  exact HF.out
set_option maxHeartbeats 1000000 in
set_option maxRecDepth 100000 in
theorem rAsk_chunk (A : Option Addr) (b : Bs) (c : Nat) (w : World) (hb : Sl w A c b) (hn : b.length ≤ 65535) : Calls Tryz.prog 6 #[.slice A b.length c, .bool true] w (ReplyOk w (chunkH b)) := by
  have EC := Lib.hid (encK_ref A b c 100 w hb (by omega))
  have ECP : Hid (∀ e w', EncK w b 100 e w' → Below w.heap.size w w' ∧ ∃ v, e = .returned (.tuple #[v, .int .i64 0]) ∧ OwnB w' w.heap.size v (encK 100 b)) := Lib.hid (fun e w' ⟨k, h⟩ => by
    rcases h with ⟨h, -⟩ | ⟨-, -, v, h1, h2⟩
    · omega
    · exact ⟨k, v, h1, h2⟩)
  have hel : (encK 100 b).length ≤ 6 * 65535 + 5 := by
    have := encC_len b.length 100 b (by omega) (by omega)
    unfold encK
    omega
  have HD : Hid (∀ v w', OwnB w' w.heap.size v ((sAsk ++ (lEnc ++ crlf) ++ crlf) ++ encK 100 b) → Below w.heap.size w w' → ReplyOk w (chunkH b) (.returned (.tuple #[v, .int .i64 0])) w') := Lib.hid (fun v w' o k => ⟨v, rfl, by rw [chunkH_eq]; exact o, k⟩)
  generalize ReplyOk w (chunkH b) = Q at *
  generalize EncK w b 100 = QE at *
  obtain ⟨y, hy⟩ : ∃ y, y = encK 100 b := ⟨_, rfl⟩
  rw [← hy] at hel HD ECP
  have HE : Hid (∀ z1 z2 : ByteArray, z1 = bs sAsk → z2 = bs (lEnc ++ crlf ++ crlf) → Value.string (z1 ++ z2) = .string (bs (sAsk ++ (lEnc ++ crlf) ++ crlf))) := Lib.hid (fun z1 z2 h1 h2 => by rw [h1, h2]; simp [bs_append])
  have hhl : (sAsk ++ (lEnc ++ crlf) ++ crlf).length = 111 := by decide
  generalize sAsk ++ (lEnc ++ crlf) ++ crlf = h at *
  obtain ⟨n, hnn⟩ : ∃ n, n = b.length := ⟨_, rfl⟩
  rw [← hnn] at hn EC ⊢
  have hle : ¬ (n : Int) > 65535 := by omega
  have HEL := Lib.hid hel
  have HHL := Lib.hid hhl
  clear hb hnn hy hel hhl
  go_enter Tryz.func6, Tryz.ntmps6
  go_wp2_with fail
  refine EC.out.mono ?_
  intro e w1 he
  obtain ⟨k1, v1, rfl, o1⟩ := ECP.out e w1 he
  obtain ⟨A1, c1, rfl, s1⟩ := o1.bysN
  have K1 := Lib.hid k1
  have S1 := Lib.hid s1
  have hw1 := k1.size
  obtain ⟨ny, hny⟩ : ∃ n, n = y.length := ⟨_, rfl⟩
  rw [← hny]
  have HNY := Lib.hid hny
  clear EC ECP he k1 o1 s1 hny
  go_wp2_with (first
    | (refine wpList_conv_own rfl (.tmp 30) rfl (h := h) (HE.out _ _ rfl rfl) (by have := HHL.out; omega) ?_)
    | fail)
  intro v2 w2 o2' k2
  have O2 := Lib.hid (o2'.mono hw1)
  have K2 := Lib.hid (K1.out.trans (k2.mono hw1))
  have S2 := Lib.hid (S1.out.on k2)
  have hw2 := K2.out.size
  clear o2' k2 HE
  go_wp2_with (first
    | (at_builtin; refine wpList_append_bys rfl (.tmp 31) (.tmp 32) rfl w.heap.size _ h rfl O2.out A1 c1 ny y rfl HNY.out S2.out.bys S2.out.nil (by have := HHL.out; have := HEL.out; omega) hw2 ?_)
    | fail)
  intro v3 w3 o3 g3 _
  have HF := Lib.hid (HD.out v3 w3 o3 (K2.out.grown g3 hw2 (fun k hk => (O2.out.lt k hk).1)))
  clear o3 g3
  go_wp2_with fail
  exact HF.out
end Go.Proofs.YtjhameebehkdjaaGreatDoor
