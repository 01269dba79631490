/-
  Requests of HTTP: the landed Ask.
-/
import Derived.Test.YtgkfolgebkjjmaaGreatDoorHtX
import Derived.Test.YtgkfolgebkjjmaaGreatDoorHz
namespace Go.Proofs.YtgkfolgebkjjmaaGreatDoor
open Go.RowKit
set_option linter.unusedVariables false
set_option maxRecDepth 100000

theorem chunkH_eq (b : Bs) : chunkH b = (sAsk ++ (lEnc ++ crlf) ++ crlf) ++ encK 100 b := by
  have e : sAsk = catL [reqL, lHost, lType] := by decide
  unfold chunkH
  rw [e]
  simp [catL, crlf]
set_option maxRecDepth 100000 in
set_option maxHeartbeats 1000000 in
theorem ask_chunk (A : Option Addr) (b : Bs) (c : Nat) (w : World) (hb : Sl w A c b) (hn : b.length ≤ 65535) (hT : TabC w) : Calls Tryz.prog 7 #[.slice A b.length c, .bool true] w (ReplyOk w (chunkH b)) := by
  have EC := Lib.hid (encL_any A b c 100 w hb hT (by omega))
  have ECP : Hid (∀ e w', EncK w b 100 e w' → Below w.heap.size w w' ∧ ∃ v, e = .returned (.tuple #[v, .int .i64 0]) ∧ OwnB w' w.heap.size v (encK 100 b)) := Lib.hid (fun e w' ⟨k, h⟩ => by
    rcases h with ⟨h, -⟩ | ⟨-, -, v, h1, h2⟩
    · omega
    · exact ⟨k, v, h1, h2⟩)
  have hel : (encK 100 b).length ≤ 6 * 65535 + 5 := by
    have := encC_len b.length 100 b (by omega) (by omega)
    unfold encK
    omega
  have HD : Hid (∀ v w', OwnB w' w.heap.size v ((sAsk ++ (lEnc ++ crlf) ++ crlf) ++ encK 100 b) → Below w.heap.size w w' → ReplyOk w (chunkH b) (.returned (.tuple #[v, .int .i64 0])) w') := Lib.hid (fun v w' o k => ⟨v, rfl, by rw [chunkH_eq]; exact o, k⟩)
  generalize ReplyOk w (chunkH b) = Q at *
  generalize EncK w b 100 = QE at *
  obtain ⟨y, hy⟩ : ∃ y, y = encK 100 b := ⟨_, rfl⟩
  rw [← hy] at hel HD ECP
  have HE : Hid (∀ z1 z2 z3 : ByteArray, z1 = bs sAsk → z2 = bs (lEnc ++ crlf) → z3 = bs crlf → Value.string ((z1 ++ z2) ++ z3) = .string (bs (sAsk ++ (lEnc ++ crlf) ++ crlf))) := Lib.hid (fun z1 z2 z3 h1 h2 h3 => by rw [h1, h2, h3, bs_append, bs_append])
  have hhl : (sAsk ++ (lEnc ++ crlf) ++ crlf).length = 111 := by decide
  generalize sAsk ++ (lEnc ++ crlf) ++ crlf = h at *
  obtain ⟨n, hnn⟩ : ∃ n, n = b.length := ⟨_, rfl⟩
  rw [← hnn] at hn EC ⊢
  have hle : ¬ (n : Int) > 65535 := by omega
  have HEL := Lib.hid hel
  have HHL := Lib.hid hhl
  clear hb hT hnn hy hel hhl
  go_enter Tryz.func7, Tryz.ntmps7
  go_wp2_with fail
  refine EC.out.mono ?_
  intro e w1 he
  obtain ⟨k1, v1, rfl, o1⟩ := ECP.out e w1 he
  obtain ⟨A1, c1, rfl, s1⟩ := o1.bysN
  have K1 := Lib.hid k1
  have S1 := Lib.hid s1
  have hw1 := k1.size
  obtain ⟨ny, hny⟩ : ∃ n, n = y.length := ⟨_, rfl⟩
  rw [← hny]
  have HNY := Lib.hid hny
  clear EC ECP he k1 o1 s1 hny
  go_wp2_with (first
    | (refine wpList_conv_own rfl (.tmp 31) rfl (h := h) (HE.out _ _ _ rfl rfl rfl) (by have := HHL.out; omega) ?_)
    | fail)
  intro v2 w2 o2' k2
  have O2 := Lib.hid (o2'.mono hw1)
  have K2 := Lib.hid (K1.out.trans (k2.mono hw1))
  have S2 := Lib.hid (S1.out.on k2)
  have hw2 := K2.out.size
  clear o2' k2 HE
  go_wp2_with (first
    | (at_builtin; refine wpList_append_bys rfl (.tmp 32) (.tmp 33) rfl w.heap.size _ h rfl O2.out A1 c1 ny y rfl HNY.out S2.out.bys S2.out.nil (by have := HHL.out; have := HEL.out; omega) hw2 ?_)
    | fail)
  intro v3 w3 o3 g3 _
  have HF := Lib.hid (HD.out v3 w3 o3 (K2.out.grown g3 hw2 (fun k hk => (O2.out.lt k hk).1)))
  clear o3 g3
  go_wp2_with fail
  exact HF.out
/-- The bytes of a request. -/
def askB' (ch : Bool) (b : Bs) : Bs := if ch then chunkH b else askH b.length ++ b
theorem ask_any (A : Option Addr) (b : Bs) (c : Nat) (ch : Bool) (w : World) (hb : Sl w A c b) (hn : b.length ≤ 65535) (hT : TabC w) (hI : IT b.length w) : Calls Tryz.prog 7 #[.slice A b.length c, .bool ch] w (ReplyOk w (askB' ch b)) := by
  cases ch
  · exact ask_plain A b c w hb hn hI
  · exact ask_chunk A b c w hb hn hT
theorem go_askB (ch : Bool) (b r : Bs) (h : b.length ≤ 65535) : goH (.hd []) ((if ch then chunkH b else askH b.length ++ b) ++ r) = thenH (nextH true b) (goH (.hd []) r) := by
  cases ch
  · exact go_ask b r h
  · exact go_chunks b r h
/-- Requests behind each other. -/
def askAll (L : List (Bool × Bs)) : Bs := L.flatMap fun x => if x.1 then chunkH x.2 else askH x.2.length ++ x.2
theorem go_all : ∀ (L : List (Bool × Bs)), (∀ x ∈ L, x.2.length ≤ 65535) → goH (.hd []) (askAll L) = (.hd [], L.map (fun x => (x.2, true)), false)
  | [], _ => rfl
  | x :: L, h => by
    have e : askAll (x :: L) = (if x.1 then chunkH x.2 else askH x.2.length ++ x.2) ++ askAll L := by simp [askAll]
    rw [e, go_askB _ _ _ (h x (by simp)), go_all L (fun y hy => h y (by simp [hy]))]
    rfl
end Go.Proofs.YtgkfolgebkjjmaaGreatDoor
