/-
  The document's decimal, Reply and Ask; the landed Ask of too many bytes.
  A small request is read (awake); readers that no call made; the walk of HttpNobody.
  The walk of HttpWrites.
  The tables of strconv and math/bits, as the row lists them; Itoa's contract.
-/
import Derived.Test.YthbggcigneigjaaGreatDoorHtAa
import Derived.Test.YthbggcigneigjaaGreatDoorCkF
import Derived.Test.YthbggcigneigjaaGreatDoorHpB
import Derived.Lib.SlBytesConst
import Derived.Test.YthbggcigneigjaaGreatDoorHuG
import Derived.Test.YthbggcigneigjaaGreatDoorHtV
import Derived.Test.YthbggcigneigjaaGreatDoorRdE
import Derived.Shelf.Strconv.Itoa3
import Derived.Test.YthbggcigneigjaaGreatDoorSh
import Derived.Lib.AppendIntMem
import Derived.Test.YthbggcigneigjaaGreatDoorCards
import Derived.Lib.LaidTab
import Derived.Stop.LaidErr
import Derived.WalkSmall
namespace Go.Proofs.YthbggcigneigjaaGreatDoor
open Go.RowKit
set_option linter.unusedVariables false
set_option maxRecDepth 100000

/-- Bytes that are there, and an error's number. -/
def RepP (w : World) (X : Bs) (E : Int) (e : Ending) (w' : World) : Prop := ∃ A c, e = .returned (.tuple #[.slice A X.length c, .int .i64 E]) ∧ Sl w' A c X ∧ Below w.heap.size w w'
theorem RepP.ok {w : World} {X : Bs} {e : Ending} {w' : World} (h : ReplyOk w X e w') : RepP w X 0 e w' := by
  obtain ⟨v, rfl, o, k⟩ := h
  obtain ⟨A, c, rfl, s⟩ := o.bysN
  exact ⟨A, c, rfl, s, k⟩
theorem RepP.no {w : World} {e : Ending} {w' : World} (h : e = .returned (.tuple #[.slice none 0 0, .int .i64 1]) ∧ w' = w) : RepP w [] 1 e w' := by
  obtain ⟨h1, rfl⟩ := h
  exact ⟨none, 0, h1, ⟨fun h => absurd h (by simp), by simp, by omega, fun _ => rfl⟩, Below.refl _ _⟩
def dgt (k : Nat) : Bs := [UInt8.ofNat (48 + k)]
theorem decD_low {n : Nat} (h : n < 10) : decD n = dgt n := by
  unfold decD
  rw [Go.Lib.decDigits, dif_pos h]
  rfl
theorem decD_high {n : Nat} (h : ¬ n < 10) : decD n = decD (n / 10) ++ dgt (n % 10) := by
  unfold decD
  rw [Go.Lib.decDigits, dif_neg h]
  rfl
theorem dig_slice (k : Nat) (hk : k < 10) (w : World) : (Instr.slice 9 (.string ⟨#[48, 49, 50, 51, 52, 53, 54, 55, 56, 57]⟩) (some (.int .i64 k)) (some (.int .i64 ((k : Int) + 1))) none).run Tryz.prog w = .ok (.string (bs (dgt k))) w := by
  have e : (⟨#[48, 49, 50, 51, 52, 53, 54, 55, 56, 57]⟩ : ByteArray) = bs [48, 49, 50, 51, 52, 53, 54, 55, 56, 57] := rfl
  rw [e, run_slice_string w 9 _ _ _ _ _ Tryz.underlying9 (by omega) (by omega) (by rw [bs_size]; simp; omega), bs_extract]
  have h1 : ((k : Int)).toNat = k := by omega
  have h2 : ((k : Int) + 1).toNat - ((k : Int)).toNat = 1 := by omega
  have h : k = 0 ∨ k = 1 ∨ k = 2 ∨ k = 3 ∨ k = 4 ∨ k = 5 ∨ k = 6 ∨ k = 7 ∨ k = 8 ∨ k = 9 := by omega
  have e2 : (([48, 49, 50, 51, 52, 53, 54, 55, 56, 57] : Bs).drop k).take 1 = dgt k := by
    rcases h with rfl | rfl | rfl | rfl | rfl | rfl | rfl | rfl | rfl | rfl <;> rfl
  first
    | rw [h1, show ((k : Int) + 1).toNat - k = 1 by omega, e2]
    | (rw [h2, h1, e2])
set_option maxHeartbeats 1000000 in
theorem decR_any (n : Nat) : n ≤ 65535 → ∀ w, Calls Tryz.prog 17 #[.int .i64 n] w fun e w' => e = .returned (.string (bs (decD n))) ∧ Below w.heap.size w w' := by
  induction n using Nat.strongRecOn with
  | _ n ih =>
    intro hn w
    obtain ⟨k, hk⟩ : ∃ k, k = n % 10 := ⟨_, rfl⟩
    obtain ⟨q, hq⟩ : ∃ q, q = n / 10 := ⟨_, rfl⟩
    have hk10 : k < 10 := by omega
    have h1 : Int.tmod (n : Int) 10 = (k : Int) := by rw [Int.tmod_eq_emod_of_nonneg (by omega)]; omega
    have h2 : Int.tdiv (n : Int) 10 = (q : Int) := by rw [Int.tdiv_eq_ediv_of_nonneg (by omega)]; omega
    have h3 : (n : Int) / 10 = (q : Int) := by omega
    have h4 : (n : Int) % 10 = (k : Int) := by omega
    have h5 : n / 10 = q := by omega
    have h6 : n % 10 = k := by omega
    have sp := fun w => dig_slice k hk10 w
    have hd : 0 < (dgt k).length ∧ (dgt k).length ≤ 1 := by simp [dgt]
    by_cases h10 : n < 10
    · have HD : Hid (decD n = dgt k) := Lib.hid (by rw [decD_low h10]; congr 1; omega)
      have h10' : (n : Int) < 10 := by omega
      generalize dgt k = d at *
      clear ih hk hq
      go_enter Tryz.func17, Tryz.ntmps17
      go_wp2_with fail
      go_ret
      exact ⟨by rw [HD.out]; rfl, Below.refl _ _⟩
    · have HD : Hid (bs (decD n) = bs (decD q) ++ bs (dgt k)) := Lib.hid (by rw [decD_high h10, bs_append, ← hq, ← hk])
      have h10' : ¬ (n : Int) < 10 := by omega
      have IH := Lib.hid (ih q (by omega) (by omega))
      have hql := (decD_len 14 q (by omega)).1
      have hs : (decD q).length + (dgt k).length ≤ 9223372036854775807 := by omega
      rw [HD.out]
      clear HD
      generalize dgt k = d at *
      generalize decD q = dq at *
      clear ih hk hq hql
      go_enter Tryz.func17, Tryz.ntmps17
      go_wp2_with fail
      refine (IH.out _).mono ?_
      rintro e w1 ⟨rfl, k1⟩
      go_wp2_with fail
      go_ret
      exact ⟨rfl, k1⟩
set_option maxHeartbeats 1000000 in
theorem rReply_no (code : Int) (A : Option Addr) (n : Nat) (c : Nat) (keep : Bool) (w : World) (h2 : ∀ ok, ¬ MayR code n keep ok) : Calls Tryz.prog 6 #[.int .i64 code, .slice A n c, .bool keep] w fun e w' => e = .returned (.tuple #[.slice none 0 0, .int .i64 1]) ∧ w' = w := by
  have ha : code = 200 → ¬ (n : Int) ≤ 65535 := fun h k => h2 true (.inl ⟨h, by omega, rfl⟩)
  have hb : code = 400 → (n : Int) = 0 → keep = true := fun h k => by
    cases keep with
    | true => rfl
    | false => exact absurd (.inr ⟨h, by omega, rfl, rfl⟩) (h2 false)
  clear h2
  by_cases h200 : code = 200
  · have h65 := ha h200
    subst h200
    clear ha hb
    go_enter Tryz.func6, Tryz.ntmps6
    go_wp2_with fail
    go_returns
    exact ⟨rfl, rfl⟩
  · by_cases h400 : code = 400
    · subst h400
      by_cases h65 : (n : Int) ≤ 65535
      · by_cases hn : (n : Int) = 0
        · have hk := hb rfl hn
          subst hk
          obtain rfl : n = 0 := by omega
          clear ha hb h200 hn h65
          go_enter Tryz.func6, Tryz.ntmps6
          go_wp2_with fail
          go_returns
          exact ⟨rfl, rfl⟩
        · have hn' : (0 : Int) < (n : Int) := by omega
          clear ha hb h200
          go_enter Tryz.func6, Tryz.ntmps6
          go_wp2_with fail
          go_returns
          exact ⟨rfl, rfl⟩
      · clear ha hb h200
        go_enter Tryz.func6, Tryz.ntmps6
        go_wp2_with fail
        go_returns
        exact ⟨rfl, rfl⟩
    · have q1 : (code != 200) = true := by rw [bne_iff_ne]; exact h200
      have q2 : (code != 400) = true := by rw [bne_iff_ne]; exact h400
      clear ha hb
      go_enter Tryz.func6, Tryz.ntmps6
      go_wp2_with fail
      go_returns
      exact ⟨rfl, rfl⟩
def sGood : Bs := [72, 84, 84, 80, 47, 49, 46, 49, 32, 50, 48, 48, 32, 79, 75, 13, 10, 67, 111, 110, 116, 101, 110, 116, 45, 84, 121, 112, 101, 58, 32, 97, 112, 112, 108, 105, 99, 97, 116, 105, 111, 110, 47, 100, 110, 115, 45, 109, 101, 115, 115, 97, 103, 101, 13, 10, 67, 111, 110, 116, 101, 110, 116, 45, 76, 101, 110, 103, 116, 104, 58, 32]
theorem sGood_eq : sGood = sOk ++ sLen := by decide
theorem headR_good (n : Nat) (keep : Bool) : headR true n keep = (sGood ++ decD n ++ crlf) ++ (if keep then [] else sClose) ++ crlf := by
  rw [sGood_eq]
  unfold headR lenLine
  simp
set_option maxHeartbeats 1000000 in
set_option maxRecDepth 100000 in
theorem rReply_yes (code : Int) (A : Option Addr) (b : Bs) (c : Nat) (keep ok : Bool) (w : World) (hb : Sl w A c b) (hm : MayR code b.length keep ok) : Calls Tryz.prog 6 #[.int .i64 code, .slice A b.length c, .bool keep] w (RepP w (headR ok b.length keep ++ b) 0) := by
  have hn : b.length ≤ 65535 := by rcases hm with ⟨_, h, _⟩ | ⟨_, h, _⟩ <;> omega
  have hh := headR_len (n := b.length) (by omega) ok keep
  have HC := Lib.hid (decR_any b.length hn)
  have hdl := (decD_len 14 b.length (by omega)).1
  have HD : Hid (∀ v w', OwnB w' w.heap.size v (headR ok b.length keep ++ b) → Below w.heap.size w w' → RepP w (headR ok b.length keep ++ b) 0 (.returned (.tuple #[v, .int .i64 0])) w') := Lib.hid (fun v w' o k => RepP.ok ⟨v, rfl, o, k⟩)
  have HDS : Hid (∀ A c w', Sl w' A c (headR ok b.length keep ++ b) → Below w.heap.size w w' → RepP w (headR ok b.length keep ++ b) 0 (.returned (.tuple #[.slice A (headR ok b.length keep ++ b).length c, .int .i64 0])) w') := Lib.hid (fun A c w' o k => ⟨A, c, rfl, o, k⟩)
  generalize RepP w (headR ok b.length keep ++ b) 0 = Q at *
  rcases hm with ⟨rfl, h65, rfl⟩ | ⟨rfl, h0, rfl, rfl⟩
  · obtain ⟨n, hnn⟩ : ∃ n, n = b.length := ⟨_, rfl⟩
    clear HDS
    rw [← hnn] at hn hh HC HD hdl h65 ⊢
    have HN := Lib.hid hnn
    have HB := Lib.hid hb
    cases keep with
    | false =>
      have HE : Hid (∀ z1 z2 z3 : ByteArray, z1 = bs sGood → z2 = bs crlf → z3 = bs sClose → Value.string ((((z1 ++ bs (decD n)) ++ z2) ++ z3) ++ z2) = .string (bs (headR true n false))) := Lib.hid (fun z1 z2 z3 h1 h2 h3 => by rw [headR_good, h1, h2, h3, bs_append, bs_append, bs_append, bs_append]; rfl)
      generalize headR true n false = h at *
      generalize decD n = d at *
      have hle : (n : Int) ≤ 65535 := by omega
      have q1 : 72 + d.length ≤ 9223372036854775807 := by omega
      have q2 : 72 + d.length + 2 ≤ 9223372036854775807 := by omega
      have q3 : 72 + d.length + 2 + 19 ≤ 9223372036854775807 := by omega
      have q4 : 72 + d.length + 2 + 19 + 2 ≤ 9223372036854775807 := by omega
      have q5 : 72 + d.length + 2 + 2 ≤ 9223372036854775807 := by omega
      clear hnn hb h65 hdl
      have HHH := Lib.hid hh
      clear hh
      go_enter Tryz.func6, Tryz.ntmps6
      go_wp2_with fail
      refine (HC.out _).mono ?_
      rintro e w1 ⟨rfl, k1⟩
      have K1 := Lib.hid k1
      have hw1 := k1.size
      clear k1 HC
      go_wp2_with (first
        | (refine wpList_conv_own rfl (.tmp 46) rfl (h := h) (HE.out _ _ _ rfl rfl rfl) (by have := HHH.out; omega) ?_)
        | fail)
      intro v2 w2 o2' k2
      have O2 := Lib.hid (o2'.mono hw1)
      have K2 := Lib.hid (K1.out.trans (k2.mono hw1))
      have B2 := Lib.hid (HB.out.on K2.out)
      have hw2 := K2.out.size
      clear o2' k2 HE
      go_wp2_with (first
        | (at_builtin; refine wpList_append_bys rfl (.tmp 47) (.tmp 48) rfl w.heap.size _ h rfl O2.out A c n b rfl HN.out B2.out.bys B2.out.nil (by rw [← HN.out]; have := HHH.out; omega) hw2 ?_)
        | fail)
      intro v3 w3 o3 g3 _
      have HF := Lib.hid (HD.out v3 w3 o3 (K2.out.grown g3 hw2 (fun k hk => (O2.out.lt k hk).1)))
      clear o3 g3
      go_wp2_with fail
      exact HF.out
    | true =>
      have HE : Hid (∀ z1 z2 : ByteArray, z1 = bs sGood → z2 = bs crlf → Value.string (((z1 ++ bs (decD n)) ++ z2) ++ z2) = .string (bs (headR true n true))) := Lib.hid (fun z1 z2 h1 h2 => by rw [headR_good, h1, h2]; simp [bs_append])
      generalize headR true n true = h at *
      generalize decD n = d at *
      have hle : (n : Int) ≤ 65535 := by omega
      have q1 : 72 + d.length ≤ 9223372036854775807 := by omega
      have q2 : 72 + d.length + 2 ≤ 9223372036854775807 := by omega
      have q3 : 72 + d.length + 2 + 19 ≤ 9223372036854775807 := by omega
      have q4 : 72 + d.length + 2 + 19 + 2 ≤ 9223372036854775807 := by omega
      have q5 : 72 + d.length + 2 + 2 ≤ 9223372036854775807 := by omega
      clear hnn hb h65 hdl
      have HHH := Lib.hid hh
      clear hh
      go_enter Tryz.func6, Tryz.ntmps6
      go_wp2_with fail
      refine (HC.out _).mono ?_
      rintro e w1 ⟨rfl, k1⟩
      have K1 := Lib.hid k1
      have hw1 := k1.size
      clear k1 HC
      go_wp2_with (first
        | (refine wpList_conv_own rfl (.tmp 46) rfl (h := h) (HE.out _ _ rfl rfl) (by have := HHH.out; omega) ?_)
        | fail)
      intro v2 w2 o2' k2
      have O2 := Lib.hid (o2'.mono hw1)
      have K2 := Lib.hid (K1.out.trans (k2.mono hw1))
      have B2 := Lib.hid (HB.out.on K2.out)
      have hw2 := K2.out.size
      clear o2' k2 HE
      go_wp2_with (first
        | (at_builtin; refine wpList_append_bys rfl (.tmp 47) (.tmp 48) rfl w.heap.size _ h rfl O2.out A c n b rfl HN.out B2.out.bys B2.out.nil (by rw [← HN.out]; have := HHH.out; omega) hw2 ?_)
        | fail)
      intro v3 w3 o3 g3 _
      have HF := Lib.hid (HD.out v3 w3 o3 (K2.out.grown g3 hw2 (fun k hk => (O2.out.lt k hk).1)))
      clear o3 g3
      go_wp2_with fail
      exact HF.out
  · obtain rfl : b = [] := List.length_eq_zero_iff.1 h0
    have hbd' : headR false ([] : Bs).length false ++ [] = headR false 0 false := List.append_nil _
    have he : ((headR false 0 false).map byteV).toArray = (#[.int .u8 72, .int .u8 84, .int .u8 84, .int .u8 80, .int .u8 47, .int .u8 49, .int .u8 46, .int .u8 49, .int .u8 32, .int .u8 52, .int .u8 48, .int .u8 48, .int .u8 32, .int .u8 66, .int .u8 97, .int .u8 100, .int .u8 32, .int .u8 82, .int .u8 101, .int .u8 113, .int .u8 117, .int .u8 101, .int .u8 115, .int .u8 116, .int .u8 13, .int .u8 10, .int .u8 67, .int .u8 111, .int .u8 110, .int .u8 116, .int .u8 101, .int .u8 110, .int .u8 116, .int .u8 45, .int .u8 76, .int .u8 101, .int .u8 110, .int .u8 103, .int .u8 116, .int .u8 104, .int .u8 58, .int .u8 32, .int .u8 48, .int .u8 13, .int .u8 10, .int .u8 67, .int .u8 111, .int .u8 110, .int .u8 110, .int .u8 101, .int .u8 99, .int .u8 116, .int .u8 105, .int .u8 111, .int .u8 110, .int .u8 58, .int .u8 32, .int .u8 99, .int .u8 108, .int .u8 111, .int .u8 115, .int .u8 101, .int .u8 13, .int .u8 10, .int .u8 13, .int .u8 10] : Array Value) := by kernel_rfl
    have hlen : (headR false 0 false).length = 66 := by kernel_rfl
    have OB := Sl.madeF (w := w) (t := 5) (l := headR false 0 false) (66, 67) he.symm (by omega)
    have HF := HDS.out _ _ _ (by rw [hbd']; exact OB) (Below.alloc (Below.refl _ _) (Nat.le_refl _) _)
    rw [hbd', hlen] at HF
    have kc := fun (w : World) (C : Array Value) (n c : Nat) => Lib.run_convert_bytes_const (P := Tryz.prog) w 22 5 C n c Tryz.underlying22 Tryz.underlying5
    replace HF := Lib.hid HF
    clear hb HC hdl hh he hlen OB HD HDS
    go_enter Tryz.func6, Tryz.ntmps6
    go_wp2_with fail
    exact HF.out
set_option maxHeartbeats 1000000 in
theorem askL_no (A : Option Addr) (n c : Nat) (ch : Bool) (w : World) (h : ¬ n ≤ 65535) : Calls Tryz.prog 7 #[.slice A n c, .bool ch] w fun e w' => e = .returned (.tuple #[.slice none 0 0, .int .i64 1]) ∧ w' = w := by
  have h65 : (n : Int) > 65535 := by omega
  go_enter Tryz.func7, Tryz.ntmps7
  go_wp2_with fail
  go_returns
  exact ⟨rfl, rfl⟩
set_option maxHeartbeats 1000000 in
theorem rAsk_no (A : Option Addr) (n c : Nat) (ch : Bool) (w : World) (h : ¬ n ≤ 65535) : Calls Tryz.prog 8 #[.slice A n c, .bool ch] w fun e w' => e = .returned (.tuple #[.slice none 0 0, .int .i64 1]) ∧ w' = w := by
  have h65 : (n : Int) > 65535 := by omega
  go_enter Tryz.func8, Tryz.ntmps8
  go_wp2_with fail
  go_returns
  exact ⟨rfl, rfl⟩
set_option maxHeartbeats 1000000 in
set_option maxRecDepth 100000 in
theorem rAsk_plain (A : Option Addr) (b : Bs) (c : Nat) (w : World) (hb : Sl w A c b) (hn : b.length ≤ 65535) : Calls Tryz.prog 8 #[.slice A b.length c, .bool false] w (ReplyOk w (askH b.length ++ b)) := by
  have hh := askH_len (n := b.length) (by omega)
  have HC := Lib.hid (decR_any b.length hn)
  have hdl := (decD_len 14 b.length (by omega)).1
  have HD : Hid (∀ v w', OwnB w' w.heap.size v (askH b.length ++ b) → Below w.heap.size w w' → ReplyOk w (askH b.length ++ b) (.returned (.tuple #[v, .int .i64 0])) w') := Lib.hid (fun v w' o k => ⟨v, rfl, o, k⟩)
  generalize ReplyOk w (askH b.length ++ b) = Q at *
  obtain ⟨n, hnn⟩ : ∃ n, n = b.length := ⟨_, rfl⟩
  rw [← hnn] at hn hh HC HD hdl ⊢
  have HN := Lib.hid hnn
  have HB := Lib.hid hb
  have HE : Hid (∀ z1 z2 z3 : ByteArray, z1 = bs sAsk → z2 = bs sLen → z3 = bs (crlf ++ crlf) → Value.string (((z1 ++ z2) ++ bs (decD n)) ++ z3) = .string (bs (askH n))) := Lib.hid (fun z1 z2 z3 h1 h2 h3 => by rw [h1, h2, h3]; simp [askH, lenLine, bs_append])
  have HHH := Lib.hid hh
  generalize decD n = d at *
  generalize askH n = h at *
  have q1 : 97 + d.length ≤ 9223372036854775807 := by omega
  have q2 : 97 + d.length + 4 ≤ 9223372036854775807 := by omega
  clear hnn hb hh hdl
  have hle : ¬ (n : Int) > 65535 := by omega
  go_enter Tryz.func8, Tryz.ntmps8
  go_wp2_with fail
  refine (HC.out _).mono ?_
  rintro e w1 ⟨rfl, k1⟩
  have K1 := Lib.hid k1
  have hw1 := k1.size
  clear k1 HC
  go_wp2_with (first
    | (refine wpList_conv_own rfl (.tmp 20) rfl (h := h) (HE.out _ _ _ rfl rfl rfl) (by have := HHH.out; omega) ?_)
    | fail)
  intro v2 w2 o2' k2
  have O2 := Lib.hid (o2'.mono hw1)
  have K2 := Lib.hid (K1.out.trans (k2.mono hw1))
  have B2 := Lib.hid (HB.out.on K2.out)
  have hw2 := K2.out.size
  clear o2' k2 HE
  go_wp2_with (first
    | (at_builtin; refine wpList_append_bys rfl (.tmp 21) (.tmp 22) rfl w.heap.size _ h rfl O2.out A c n b rfl HN.out B2.out.bys B2.out.nil (by rw [← HN.out]; have := HHH.out; omega) hw2 ?_)
    | fail)
  intro v3 w3 o3 g3 _
  have HF := Lib.hid (HD.out v3 w3 o3 (K2.out.grown g3 hw2 (fun k hk => (O2.out.lt k hk).1)))
  clear o3 g3
  go_wp2_with fail
  exact HF.out
set_option maxHeartbeats 1000000 in
set_option maxRecDepth 100000 in
theorem rAsk_chunk (A : Option Addr) (b : Bs) (c : Nat) (w : World) (hb : Sl w A c b) (hn : b.length ≤ 65535) : Calls Tryz.prog 8 #[.slice A b.length c, .bool true] w (ReplyOk w (chunkH b)) := by
  have EC := Lib.hid (encK_ref A b c 100 w hb (by omega))
  have ECP : Hid (∀ e w', EncK w b 100 e w' → Below w.heap.size w w' ∧ ∃ v, e = .returned (.tuple #[v, .int .i64 0]) ∧ OwnB w' w.heap.size v (encK 100 b)) := Lib.hid (fun e w' ⟨k, h⟩ => by
    rcases h with ⟨h, -⟩ | ⟨-, -, v, h1, h2⟩
    · omega
    · exact ⟨k, v, h1, h2⟩)
  have hel : (encK 100 b).length ≤ 6 * 65535 + 5 := by
    have := encC_len b.length 100 b (by omega) (by omega)
    unfold encK
    omega
  have HD : Hid (∀ v w', OwnB w' w.heap.size v ((sAsk ++ (lEnc ++ crlf) ++ crlf) ++ encK 100 b) → Below w.heap.size w w' → ReplyOk w (chunkH b) (.returned (.tuple #[v, .int .i64 0])) w') := Lib.hid (fun v w' o k => ⟨v, rfl, by rw [chunkH_eq]; exact o, k⟩)
  generalize ReplyOk w (chunkH b) = Q at *
  generalize EncK w b 100 = QE at *
  obtain ⟨y, hy⟩ : ∃ y, y = encK 100 b := ⟨_, rfl⟩
  rw [← hy] at hel HD ECP
  have HE : Hid (∀ z1 z2 : ByteArray, z1 = bs sAsk → z2 = bs (lEnc ++ crlf ++ crlf) → Value.string (z1 ++ z2) = .string (bs (sAsk ++ (lEnc ++ crlf) ++ crlf))) := Lib.hid (fun z1 z2 h1 h2 => by rw [h1, h2]; simp [bs_append])
  have hhl : (sAsk ++ (lEnc ++ crlf) ++ crlf).length = 111 := by decide
  generalize sAsk ++ (lEnc ++ crlf) ++ crlf = h at *
  obtain ⟨n, hnn⟩ : ∃ n, n = b.length := ⟨_, rfl⟩
  rw [← hnn] at hn EC ⊢
  have hle : ¬ (n : Int) > 65535 := by omega
  have HEL := Lib.hid hel
  have HHL := Lib.hid hhl
  clear hb hnn hy hel hhl
  go_enter Tryz.func8, Tryz.ntmps8
  go_wp2_with fail
  refine EC.out.mono ?_
  intro e w1 he
  obtain ⟨k1, v1, rfl, o1⟩ := ECP.out e w1 he
  obtain ⟨A1, c1, rfl, s1⟩ := o1.bysN
  have K1 := Lib.hid k1
  have S1 := Lib.hid s1
  have hw1 := k1.size
  obtain ⟨ny, hny⟩ : ∃ n, n = y.length := ⟨_, rfl⟩
  rw [← hny]
  have HNY := Lib.hid hny
  clear EC ECP he k1 o1 s1 hny
  go_wp2_with (first
    | (refine wpList_conv_own rfl (.tmp 30) rfl (h := h) (HE.out _ _ rfl rfl) (by have := HHL.out; omega) ?_)
    | fail)
  intro v2 w2 o2' k2
  have O2 := Lib.hid (o2'.mono hw1)
  have K2 := Lib.hid (K1.out.trans (k2.mono hw1))
  have S2 := Lib.hid (S1.out.on k2)
  have hw2 := K2.out.size
  clear o2' k2 HE
  go_wp2_with (first
    | (at_builtin; refine wpList_append_bys rfl (.tmp 31) (.tmp 32) rfl w.heap.size _ h rfl O2.out A1 c1 ny y rfl HNY.out S2.out.bys S2.out.nil (by have := HHL.out; have := HEL.out; omega) hw2 ?_)
    | fail)
  intro v3 w3 o3 g3 _
  have HF := Lib.hid (HD.out v3 w3 o3 (K2.out.grown g3 hw2 (fun k hk => (O2.out.lt k hk).1)))
  clear o3 g3
  go_wp2_with fail
  exact HF.out
end Go.Proofs.YthbggcigneigjaaGreatDoor
namespace Go.Proofs.YthbggcigneigjaaGreatDoor
open Go.RowKit Go.Shelf
set_option linter.unusedVariables false
set_option maxRecDepth 100000

theorem RqS.at {S : Nat → Prop} {w : World} {v : Value} {L : List Rq} (h : RqS w S v L) (hn : 0 < L.length) : ∃ g c, v = .slice (some ⟨g, 0, none⟩) L.length c ∧ ∀ j (hj : j < L.length), ∃ A d, w.cell? ⟨g, j * 3, none⟩ = some (.string (bs reqL)) ∧ w.cell? ⟨g, j * 3 + 1, none⟩ = some (.slice A L[j].1.length d) ∧ w.cell? ⟨g, j * 3 + 2, none⟩ = some (.bool L[j].2) ∧ Sl w A d L[j].1 := by
  obtain ⟨xs, ho, -, h4⟩ := h
  rcases ho.2 with ⟨hv, h0⟩ | ⟨g, cap, cur, hv, hb, hh, hc, hm2, hsz, ht⟩
  · omega
  refine ⟨g, cap, hv, fun j hj => ?_⟩
  obtain ⟨x, a, b, c, ⟨⟨A, d, rfl, hs⟩, -⟩, -⟩ := h4 j hj
  have cell : ∀ i y, i < L.length * 3 → xs[i]? = some y → w.cell? ⟨g, i, none⟩ = some y := fun i y hi hy => by
    rw [cell_of_row _ g i _ _ _ hh]
    rw [← ht, List.getElem?_take_of_lt hi] at hy
    simpa using hy
  exact ⟨A, d, cell _ _ (by omega) a, cell _ _ (by omega) b, cell _ _ (by omega) c, hs⟩
def askB : Bs := [80, 79, 83, 84, 32, 47, 100, 110, 115, 45, 113, 117, 101, 114, 121, 32, 72, 84, 84, 80, 47, 49, 46, 49, 13, 10, 72, 111, 115, 116, 58, 32, 114, 101, 115, 111, 108, 118, 101, 114, 13, 10, 67, 111, 110, 116, 101, 110, 116, 45, 84, 121, 112, 101, 58, 32, 97, 112, 112, 108, 105, 99, 97, 116, 105, 111, 110, 47, 100, 110, 115, 45, 109, 101, 115, 115, 97, 103, 101, 13, 10, 67, 111, 110, 116, 101, 110, 116, 45, 76, 101, 110, 103, 116, 104, 58, 32, 49, 13, 10, 13, 10, 7]
theorem askB_eq : askH 1 ++ [7] = askB := by
  have h : decD 1 = [49] := by unfold decD; rw [Go.Lib.decDigits]; rfl
  unfold askH lenLine
  rw [h]
  rfl
set_option maxRecDepth 100000 in
theorem askB_go : goH (.hd []) askB = (.hd [], [([7], true)], false) := by kernel_rfl
theorem askB_len : askB.length = 103 := by decide
set_option maxRecDepth 100000 in
set_option maxHeartbeats 4000000 in
theorem awakeH_any (w : World) (hM : MaxL w) : Calls Tryz.prog 10 #[] w fun e w' => e = .returned (.bool true) ∧ Below w.heap.size w w' := by
  obtain ⟨W1, hW1⟩ : ∃ W1, W1 = w.alloc (.cells #[.int .u8 7] 5) := ⟨_, rfl⟩
  have k1 : Below w.heap.size w W1 := by rw [hW1]; exact Below.alloc (Below.refl _ _) (Nat.le_refl _) _
  have s1 : Sl W1 (some ⟨w.heap.size, 0, none⟩) 1 [7] := by rw [hW1]; exact Sl.made (l := [7]) rfl (by simp)
  have AK := ask_plain (some ⟨w.heap.size, 0, none⟩) [7] 1 W1 s1 (by simp) (IT1 W1)
  rw [show ([7] : Bs).length = 1 from rfl, askB_eq] at AK
  have AK := Lib.hid AK
  have HW1 := Lib.hid hW1
  have K1 := Lib.hid k1
  have HM := Lib.hid hM
  clear hW1 k1 s1 hM
  go_enter Tryz.func10, Tryz.ntmps10
  go_wp2_with fail
  rw [← HW1.out]
  refine AK.out.mono ?_
  rintro e w2 ⟨v2, rfl, o2, k2⟩
  have o2' := o2
  obtain ⟨A2, c2, rfl, s2⟩ := o2'.bysN
  have K2 := Lib.hid (K1.out.trans (k2.mono K1.out.size))
  have O2 := Lib.hid o2
  have S2 := Lib.hid s2
  have hz1 := K1.out.size
  rw [askB_len]
  clear AK k2 o2 o2' s2
  go_wp2_with fail
  refine (newH_any w2).mono ?_
  rintro e w3 ⟨g, F, rfl, k3, hg, st, hF⟩
  have K3 := Lib.hid (K2.out.trans (k3.mono K2.out.size))
  have FD := feed_any g F (.hd []) A2 askB c2 w3 st HsOk.start (S2.out.on k3) (fun hne p hp hf => by
    have h1 := (O2.out.lt p.block (by rw [hp]; rfl)).2
    have h2 := (hF _).1 hf
    omega) (HM.out.on K3.out) (fun hf => by
    have h2 := (hF _).1 hf
    have h3 := HM.out.lt
    have := K2.out.size
    omega) (by rw [askB_go]; simp)
  rw [askB_len] at FD
  have FD := Lib.hid FD
  have HG : Hid (∀ j, F j → w.heap.size ≤ j) := Lib.hid (fun j hj => by have := (hF j).1 hj; have := K2.out.size; omega)
  clear k3 hg st hF O2 S2
  go_wp2_with fail
  refine FD.out.mono ?_
  rintro e w4 ⟨v4, F4, he, st4, -, m4, hf4, rq4⟩
  rw [askB_go] at he rq4
  have K4 := Lib.hid (Mod.out K3.out m4 K3.out.size HG.out)
  obtain ⟨G, c4, rfl, hat⟩ := rq4.at (by simp)
  obtain ⟨A5, d5, -, y1, y2, s5⟩ := hat 0 (by simp)
  have he : e = .returned (.tuple #[.slice (some ⟨G, 0, none⟩) 1 c4, .int .i64 0]) := he
  subst he
  have y1 : w4.cell? ⟨G, 1, none⟩ = some (.slice A5 1 d5) := y1
  have y2 : w4.cell? ⟨G, 2, none⟩ = some (.bool true) := y2
  obtain ⟨W5, hW5⟩ : ∃ W5, W5 = w4.alloc (.cells #[.int .u8 7] 5) := ⟨_, rfl⟩
  have k5 : Below w4.heap.size w4 W5 := by rw [hW5]; exact Below.alloc (Below.refl _ _) (Nat.le_refl _) _
  have y2' : W5.cell? ⟨G, 2, none⟩ = some (.bool true) := cell_on y2 k5
  have s7 : Sl W5 (some ⟨w4.heap.size, 0, none⟩) 1 [7] := by rw [hW5]; exact Sl.made (l := [7]) rfl (by simp)
  have EQ := Lib.hid (EqualB_any A5 (some ⟨w4.heap.size, 0, none⟩) [7] [7] 1 1 d5 1 W5 (s5.on k5).bys s7.bys rfl rfl)
  have K5 := Lib.hid (K4.out.trans (k5.mono K4.out.size))
  have HW5 := Lib.hid hW5
  clear FD st4 m4 hf4 rq4 hat s5 hW5 k5 s7 y2
  go_wp2_with fail
  rw [← HW5.out]
  refine EQ.out.mono ?_
  rintro e w6 ⟨rfl, rfl⟩
  go_wp2_with fail
  go_ret
  exact ⟨rfl, K5.out⟩

/-! Readers that no call made. -/
def NobH (w : World) (v : Value) : Prop := v = .pointer none ∨ ∃ g, v = .pointer (some ⟨g, 0, none⟩) ∧ w.cell? ⟨g, 0, none⟩ = some (.bool false)
theorem NobH.made {w : World} {v : Value} (h : NobH w v) : Calls Tryz.prog 21 #[v] w fun e w' => e = .returned (.bool false) ∧ w' = w := by
  rcases h with rfl | ⟨g, rfl, c1⟩
  · go_enter Tryz.func21, Tryz.ntmps21
    go_wp2_with fail
    go_ret
    exact ⟨rfl, rfl⟩
  · go_enter Tryz.func21, Tryz.ntmps21
    go_wp2_with fail
    go_ret
    exact ⟨rfl, rfl⟩
theorem NobH.feed {w : World} {v : Value} (h : NobH w v) (x : Value) : Calls Tryz.prog 13 #[v, x] w fun e w' => e = .returned (.tuple #[.slice none 0 0, .int .i64 2]) ∧ w' = w := by
  have M := Lib.hid h.made
  clear h
  go_enter Tryz.func13, Tryz.ntmps13
  go_wp2_with fail
  refine M.out.mono ?_
  rintro e w1 ⟨rfl, rfl⟩
  go_wp2_with fail
  go_returns
  exact ⟨rfl, rfl⟩
theorem NobH.ended {w : World} {v : Value} (h : NobH w v) : Calls Tryz.prog 15 #[v] w fun e w' => e = .returned (.bool false) ∧ w' = w := by
  have M := Lib.hid h.made
  clear h
  go_enter Tryz.func15, Tryz.ntmps15
  go_wp2_with fail
  refine M.out.mono ?_
  rintro e w1 ⟨rfl, rfl⟩
  go_wp2_with fail
  go_ret
  exact ⟨rfl, rfl⟩
end Go.Proofs.YthbggcigneigjaaGreatDoor
namespace Go.Proofs.YthbggcigneigjaaGreatDoor
open Go.RowKit
set_option linter.unusedVariables false
set_option maxRecDepth 100000

theorem reps (code : Int) (A : Option Addr) (l : Bs) (c : Nat) (keep : Bool) (w : World) (hb : Sl w A c l) (hI : ∀ n w', n ≤ 65535 → Below w.heap.size w w' → IT n w') : ∃ X E, ∀ W, Below w.heap.size w W →
    Calls Tryz.prog 5 #[.int .i64 code, .slice A l.length c, .bool keep] W (RepP W X E) ∧ Calls Tryz.prog 6 #[.int .i64 code, .slice A l.length c, .bool keep] W (RepP W X E) := by
  by_cases h : ∃ ok, MayR code l.length keep ok
  · obtain ⟨ok, h⟩ := h
    have hn : l.length ≤ 65535 := by rcases h with ⟨_, h, _⟩ | ⟨_, h, _⟩ <;> omega
    exact ⟨_, _, fun W k => ⟨(reply_yes code A l c keep ok W (hb.on k) h (hI _ W hn k)).mono fun e w' => RepP.ok, rReply_yes code A l c keep ok W (hb.on k) h⟩⟩
  · exact ⟨_, _, fun W k => ⟨(reply_no code A l.length c keep W (fun ok h' => h ⟨ok, h'⟩)).mono fun e w' => RepP.no, (rReply_no code A l.length c keep W (fun ok h' => h ⟨ok, h'⟩)).mono fun e w' => RepP.no⟩⟩
theorem asks (A : Option Addr) (l : Bs) (c : Nat) (ch : Bool) (w : World) (hb : Sl w A c l) (hT : TabC w) (hI : ∀ n w', n ≤ 65535 → Below w.heap.size w w' → IT n w') : ∃ X E, ∀ W, Below w.heap.size w W →
    Calls Tryz.prog 7 #[.slice A l.length c, .bool ch] W (RepP W X E) ∧ Calls Tryz.prog 8 #[.slice A l.length c, .bool ch] W (RepP W X E) := by
  by_cases h : l.length ≤ 65535
  · cases ch
    · exact ⟨_, _, fun W k => ⟨(ask_any A l c false W (hb.on k) h (hT.on k) (hI _ W h k)).mono fun e w' => RepP.ok, (rAsk_plain A l c W (hb.on k) h).mono fun e w' => RepP.ok⟩⟩
    · exact ⟨_, _, fun W k => ⟨(ask_any A l c true W (hb.on k) h (hT.on k) (hI _ W h k)).mono fun e w' => RepP.ok, (rAsk_chunk A l c W (hb.on k) h).mono fun e w' => RepP.ok⟩⟩
  · exact ⟨_, _, fun W k => ⟨(askL_no A l.length c ch W h).mono fun e w' => RepP.no, (rAsk_no A l.length c ch W h).mono fun e w' => RepP.no⟩⟩

set_option maxHeartbeats 4000000 in
set_option maxRecDepth 100000 in
theorem HttpWrites_any (code : Int) (A : Option Addr) (l : Bs) (c : Nat) (keep ch : Bool) (w : World) (hb : Sl w A c l) (hT : TabC w) (hM : MaxL w) (hI : ∀ n w', n ≤ 65535 → Below w.heap.size w w' → IT n w') :
    Calls Tryz.prog 3 #[.int .i64 code, .slice A l.length c, .bool keep, .bool ch] w fun e w' => e = .returned (.bool true) ∧ Below w.heap.size w w' := by
  obtain ⟨X, E, hR⟩ := reps code A l c keep w hb hI
  obtain ⟨Y, F, hK⟩ := asks A l c ch w hb hT hI
  have R1 := Lib.hid (fun W k => (hR W k).1)
  have R2 := Lib.hid (fun W k => (hR W k).2)
  have K1 := Lib.hid (fun W k => (hK W k).1)
  have K2 := Lib.hid (fun W k => (hK W k).2)
  have AW := Lib.hid (fun (W : World) (k : Below w.heap.size w W) => awakeH_any W (hM.on k))
  generalize l.length = n at *
  clear hR hK hb hT hM hI
  go_enter Tryz.func3, Tryz.ntmps3
  go_wp2_with fail
  refine (R1.out _ (Below.refl _ _)).mono ?_
  rintro e w1 ⟨A1, c1, rfl, s1, k1⟩
  have S1 := Lib.hid s1
  have B1 := Lib.hid k1
  clear s1 k1
  go_wp2_with fail
  refine (R2.out _ B1.out).mono ?_
  rintro e w2 ⟨A2, c2, rfl, s2, k2⟩
  have S12 := Lib.hid (S1.out.on k2)
  have S2 := Lib.hid s2
  have B2 := Lib.hid (Below.trans B1.out (k2.mono B1.out.size))
  clear s2 k2 S1 B1
  go_wp2_with fail
  refine (K1.out _ B2.out).mono ?_
  rintro e w3 ⟨A3, c3, rfl, s3, k3⟩
  have S13 := Lib.hid (S12.out.on k3)
  have S23 := Lib.hid (S2.out.on k3)
  have S3 := Lib.hid s3
  have B3 := Lib.hid (Below.trans B2.out (k3.mono B2.out.size))
  clear s3 k3 S12 S2 B2
  go_wp2_with fail
  refine (K2.out _ B3.out).mono ?_
  rintro e w4 ⟨A4, c4, rfl, s4, k4⟩
  have S14 := S13.out.on k4
  have S24 := S23.out.on k4
  have S34 := S3.out.on k4
  have B4 := Lib.hid (Below.trans B3.out (k4.mono B3.out.size))
  have E1 := Lib.hid (EqualB_any A1 A2 X X X.length X.length c1 c2 w4 S14.bys S24.bys rfl rfl)
  have E2 := Lib.hid (EqualB_any A3 A4 Y Y Y.length Y.length c3 c4 w4 S34.bys s4.bys rfl rfl)
  rw [show (X == X) = true by simp] at E1
  rw [show (Y == Y) = true by simp] at E2
  have hE : (E == E) = true := by simp
  have hF : (F == F) = true := by simp
  have AW4 := Lib.hid (AW.out w4 B4.out)
  clear s4 k4 S13 S23 S3 B3 S14 S24 S34 R1 R2 K1 K2 AW
  generalize X.length = nx at *
  generalize Y.length = ny at *
  go_wp2_with fail
  refine E1.out.mono ?_
  rintro e w5 ⟨rfl, rfl⟩
  clear E1
  go_wp2_with fail
  refine E2.out.mono ?_
  rintro e w5 ⟨rfl, rfl⟩
  clear E2
  go_wp2_with fail
  refine AW4.out.mono ?_
  rintro e w6 ⟨rfl, k6⟩
  have B6 := Lib.hid (Below.trans B4.out (k6.mono B4.out.size))
  clear AW4 k6
  go_wp2_with fail
  go_ret
  exact ⟨rfl, B6.out⟩
end Go.Proofs.YthbggcigneigjaaGreatDoor
namespace Go.Proofs.YthbggcigneigjaaGreatDoor
open Go.ChangeShapes Go.WideShapes Go.ChangeAt Go.RowKit Go.Deep Go.Shelf
set_option linter.unusedVariables false
set_option maxRecDepth 100000

/-- Itoa's contract, where its table lies. -/
theorem IT_of (n : Nat) (w : World) (hn : n ≤ 9223372036854775807) (hT : Lib.TabIs Tryz.prog w "internal/strconv.uint64pow10" .u64 Lib.pow10Tab) : IT n w := by
  unfold IT decD
  refine (Any.strconv_Itoa Tryz.laysM171 (n : Int) (by omega) (by omega) w hT).mono ?_
  rintro e w' ⟨rfl, k, os, rfl⟩
  refine ⟨?_, ?_⟩
  · unfold Lib.itoa
    rw [if_neg (by omega), Int.toNat_natCast]
  · exact Lib.below_grow w.heap.size w (Nat.le_refl _) k os
theorem pow_name : Tryz.prog.globalNamed "internal/strconv.uint64pow10" = some 0 := by kernel_rfl
theorem pow_type : (Tryz.prog.globals[0]?).map (·.type) = some 92 := by kernel_rfl
theorem pow_data : (Rows.laid_internal_strconv_uint64pow10 : DataW Unit) = Lib.tabData .u64 Lib.pow10Tab := by kernel_rfl
theorem tabP_of {W : World} (h : laidMetH Tryz.prog Rows.httpWritesRow.laid W) : Lib.TabIs Tryz.prog W "internal/strconv.uint64pow10" .u64 Lib.pow10Tab := by
  have h' : laidMet Tryz.prog [("math/bits.deBruijn32tab", Rows.laid_math_bits_deBruijn32tab), ("math/bits.deBruijn64tab", Rows.laid_math_bits_deBruijn64tab), ("internal/strconv.uint64pow10", Rows.laid_internal_strconv_uint64pow10), ("unicode/utf8.acceptRanges", Rows.laid_unicode_utf8_acceptRanges), ("unicode.CaseRanges", Rows.laid_unicode_CaseRanges), ("unicode/utf8.first", Rows.laid_unicode_utf8_first)] W := h
  have h2 := (laidMet.tail (laidMet.tail h'))
  rw [pow_data] at h2
  exact Lib.tabIs_of_head pow_name pow_type Tryz.underlying92 Tryz.underlying75 (by kernel_rfl) (by kernel_rfl) h2
theorem tabP_on {W W1 : World} (h : Lib.TabIs Tryz.prog W "internal/strconv.uint64pow10" .u64 Lib.pow10Tab) (k : Below W.heap.size W W1) : Lib.TabIs Tryz.prog W1 "internal/strconv.uint64pow10" .u64 Lib.pow10Tab := by
  have hc := Lib.TabIs.cell h pow_name 0 (by rw [Lib.pow10Tab_length]; omega)
  have := World.block_lt_of_cell? W _ hc
  unfold Lib.TabIs at h ⊢
  exact var?_below k pow_name this h
theorem brn_name : Tryz.prog.globalNamed "math/bits.deBruijn64tab" = some 2 := by kernel_rfl
theorem brn_type : (Tryz.prog.globals[2]?).map (·.type) = some 126 := by kernel_rfl
theorem brn_data : (Rows.laid_math_bits_deBruijn64tab : DataW Unit) = Lib.tabData .u8 [0, 1, 56, 2, 57, 49, 28, 3, 61, 58, 42, 50, 38, 29, 17, 4, 62, 47, 59, 36, 45, 43, 51, 22, 53, 39, 33, 30, 24, 18, 12, 5, 63, 55, 48, 27, 60, 41, 37, 16, 46, 35, 44, 21, 52, 32, 23, 11, 54, 26, 40, 15, 34, 20, 31, 10, 25, 14, 19, 9, 13, 8, 7, 6] := by kernel_rfl
theorem tabC_of {W : World} (h : laidMetH Tryz.prog Rows.httpWritesRow.laid W) : TabC W := by
  have h' : laidMet Tryz.prog [("math/bits.deBruijn32tab", Rows.laid_math_bits_deBruijn32tab), ("math/bits.deBruijn64tab", Rows.laid_math_bits_deBruijn64tab), ("internal/strconv.uint64pow10", Rows.laid_internal_strconv_uint64pow10), ("unicode/utf8.acceptRanges", Rows.laid_unicode_utf8_acceptRanges), ("unicode.CaseRanges", Rows.laid_unicode_CaseRanges), ("unicode/utf8.first", Rows.laid_unicode_utf8_first)] W := h
  have h2 := (laidMet.tail h')
  rw [brn_data] at h2
  have hT := Lib.tabIs_of_head brn_name brn_type Tryz.underlying126 Tryz.underlying5 (by kernel_rfl) (by kernel_rfl) h2
  exact hT.cell brn_name 15 (by decide)
end Go.Proofs.YthbggcigneigjaaGreatDoor
