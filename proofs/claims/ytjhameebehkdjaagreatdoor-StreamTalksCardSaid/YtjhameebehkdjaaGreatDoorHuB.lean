/-
  The landed decimal, isName.
  The landed takeLength, takeField, takeLine.
  The landed takeField.
  The landed takeLine.
-/
import Derived.Test.YtjhameebehkdjaaGreatDoorSw
import Derived.Test.YtjhameebehkdjaaGreatDoorHuA
import Derived.Deep.QuietTactic
import Derived.BigQuiet
namespace Go.Proofs.YtjhameebehkdjaaGreatDoor
open Go.RowKit Go.Shelf
set_option linter.unusedVariables false
set_option maxRecDepth 100000

def digs : Bs := [48, 49, 50, 51, 52, 53, 54, 55, 56, 57]
theorem digs_dig (c : UInt8) : digs.contains c = digH c := by
  have : ∀ n : Fin 256, digs.contains (UInt8.ofNat n.val) = digH (UInt8.ofNat n.val) := by decide +kernel
  have h := this ⟨c.toNat, c.toNat_lt⟩
  simpa using h
theorem dropWhile_nil {α : Type} {p : α → Bool} {l : List α} : l.dropWhile p = [] ↔ l.all p = true := by
  induction l with
  | nil => simp
  | cons x l ih =>
    by_cases h : p x = true
    · simp [h, ih]
    · simp [h]
theorem trimS_nil (s : Bs) : Lib.trimS s digs = [] ↔ s.all digH = true := by
  have e : (digs.contains · : UInt8 → Bool) = digH := funext digs_dig
  unfold Lib.trimS Lib.trimLeftS Lib.trimRightS
  rw [e, dropWhile_nil]
  constructor
  · intro h
    by_cases hn : s.reverse.dropWhile digH = []
    · rw [dropWhile_nil, List.all_reverse] at hn; exact hn
    · have h1 := List.head_dropWhile_not digH hn
      have h2 : (s.reverse.dropWhile digH).head hn ∈ (s.reverse.dropWhile digH).reverse := by simp
      rw [List.all_eq_true] at h
      rw [h _ h2] at h1
      cases h1
  · intro h
    have hn : s.reverse.dropWhile digH = [] := by rw [dropWhile_nil, List.all_reverse]; exact h
    rw [hn]; rfl
theorem val_snoc (s : Bs) (c : UInt8) : valH (s ++ [c]) = 10 * valH s + (c.toNat - 48) := by simp [valH, List.foldl_append]
theorem val_bd : ∀ (k : Nat) (s : Bs), s.length ≤ k → s.all digH = true → valH s < 10 ^ k
  | 0, s, h, _ => by
    have : s = [] := List.length_eq_zero_iff.1 (by omega)
    subst this
    simp [valH]
  | k + 1, s, h, ha => by
    by_cases hs : s = []
    · subst hs; simp [valH]; exact Nat.pow_pos (by omega)
    · obtain ⟨t, c, rfl⟩ : ∃ t c, s = t ++ [c] := ⟨s.dropLast, s.getLast hs, (List.dropLast_concat_getLast hs).symm⟩
      rw [List.all_append, Bool.and_eq_true] at ha
      have h1 := val_bd k t (by simp at h; omega) ha.1
      have hc : digH c = true := by simpa using ha.2
      unfold digH at hc
      rw [decide_eq_true_eq] at hc
      rw [val_snoc, Nat.pow_succ]
      omega
theorem take_snocB (s : Bs) (k : Nat) (h : k < s.length) : s.take (k + 1) = s.take k ++ [s[k]] := by
  rw [List.take_succ_eq_append_getElem h]
theorem all_take {p : UInt8 → Bool} {s : Bs} (h : s.all p = true) (k : Nat) : (s.take k).all p = true := by
  rw [List.all_eq_true] at h ⊢
  exact fun x hx => h x (List.mem_of_mem_take hx)
theorem digH_at {s : Bs} (h : s.all digH = true) (k : Nat) (hk : k < s.length) : 48 ≤ s[k].toNat ∧ s[k].toNat ≤ 57 := by
  rw [List.all_eq_true] at h
  have := h s[k] (List.getElem_mem hk)
  unfold digH at this
  simpa using this

set_option maxHeartbeats 1000000 in
theorem decimal_any (s : Bs) (w : World) (hs : s.length ≤ 9223372036854775807) : Calls Tryz.prog 29 #[.string (bs s)] w fun e w' => e = .returned (.tuple #[.int .i64 ((decH s).getD 0), .bool (decH s).isSome]) ∧ Below w.heap.size w w' := by
  by_cases h1 : s.length < 1
  · have hn : decH s = none := by unfold decH; rw [if_neg (by omega)]
    rw [hn]
    have h1' : (s.length : Int) < 1 := by omega
    clear hn h1
    go_enter Tryz.func29, Tryz.ntmps29
    go_wp2_with fail
    go_returns
    exact ⟨rfl, Below.refl _ _⟩
  have h1' : ¬ (s.length : Int) < 1 := by omega
  by_cases h5 : 5 < s.length
  · have hn : decH s = none := by unfold decH; rw [if_neg (by omega)]
    rw [hn]
    have h5' : (5 : Int) < (s.length : Int) := by omega
    clear hn h1 h5
    go_enter Tryz.func29, Tryz.ntmps29
    go_wp2_with fail
    go_returns
    exact ⟨rfl, Below.refl _ _⟩
  have h5' : ¬ (5 : Int) < (s.length : Int) := by omega
  have T := Lib.hid (trim_any s digs w hs (by decide) (by decide))
  have HN := trimS_nil s
  generalize Lib.trimS s digs = t at *
  by_cases ht : t = []
  · have hall := HN.1 ht
    subst ht
    have hn : decH s = some (valH s) := by unfold decH; rw [if_pos ⟨by omega, by omega, hall⟩]
    rw [hn]
    show Calls Tryz.prog 29 #[.string (bs s)] w fun e w' => e = .returned (.tuple #[.int .i64 (valH s), .bool true]) ∧ Below w.heap.size w w'
    have HD : Hid (∀ k (hk : k < s.length), 48 ≤ s[k].toNat ∧ s[k].toNat ≤ 57) := Lib.hid (fun k hk => digH_at hall k hk)
    have HV : Hid (∀ k, valH (s.take k) < 100000) := Lib.hid (fun k => val_bd 5 _ (by rw [List.length_take]; omega) (all_take hall k))
    have HL : s.length ≤ 5 := by omega
    clear HN hall hn h1 h5
    go_enter Tryz.func29, Tryz.ntmps29
    go_wp2_with fail
    refine T.out.mono ?_
    rintro e w1 ⟨rfl, k1⟩
    have K1 := Lib.hid k1
    clear k1 T
    go_wp2_with fail
    go_loop [4, 21] (fun n i => ∃ k : Nat, k ≤ s.length ∧ i = .int .i64 k ∧ n = .int .i64 (valH (s.take k))) (fun _ i => s.length - (intOf i).toNat)
    case atStart => exact ⟨0, by omega, rfl, rfl⟩
    case round =>
      obtain ⟨k, hk, rfl, rfl⟩ := hrel
      have hv := HV.out k
      by_cases hlt : k < s.length
      · have hd := HD.out k hlt
        have HS : Hid (valH (s.take (k + 1)) = 10 * valH (s.take k) + (s[k].toNat - 48)) := Lib.hid (by rw [take_snocB s k hlt, val_snoc])
        have hlt' : (k : Int) < (s.length : Int) := by omega
        generalize valH (s.take k) = v at *
        have hb : ((bs s)[k]'(by rw [bs_size]; exact hlt)).toNat = s[k].toNat := rfl
        generalize s[k].toNat = b at *
        have w1 : IntKind.u8.wrap ((b : Int) - 48) = (b : Int) - 48 := IntWalk.u8_in _ (by omega)
        have a1 : (48 : Int) ≤ (b : Int) := by omega
        have a2 : (b : Int) ≤ 57 := by omega
        clear HV HD K1
        go_wp2_with fail
        go_round
        case rel => exact ⟨k + 1, by omega, by go_num, by rw [HS.out]; go_num⟩
        case measure => simp [intOf]; omega
      · obtain rfl : k = s.length := by omega
        clear HV HD
        go_wp2_with fail
        go_returns
        exact ⟨rfl, K1.out⟩
  · have hn : decH s = none := by
      unfold decH
      rw [if_neg]
      rintro ⟨_, _, h⟩
      exact ht (HN.2 h)
    rw [hn]
    have hne : t.isEmpty = false := by simpa using ht
    clear HN hn h1 h5
    go_enter Tryz.func29, Tryz.ntmps29
    go_wp2_with fail
    refine T.out.mono ?_
    rintro e w1 ⟨rfl, k1⟩
    have K1 := Lib.hid k1
    clear k1 T
    go_wp2_with fail
    go_returns
    exact ⟨rfl, K1.out⟩
/-! A field's name. -/
def isNameH (s : Bs) : Bool := s.all nameC && !s.isEmpty
theorem nameC_cases (c : UInt8) : (nameC c = true ∧ ((97 ≤ c.toNat ∧ c.toNat ≤ 122) ∨ (65 ≤ c.toNat ∧ c.toNat ≤ 90) ∨ (48 ≤ c.toNat ∧ c.toNat ≤ 57) ∨ c.toNat = 45)) ∨ (nameC c = false ∧ (c.toNat < 45 ∨ (46 ≤ c.toNat ∧ c.toNat ≤ 47) ∨ (58 ≤ c.toNat ∧ c.toNat ≤ 64) ∨ (91 ≤ c.toNat ∧ c.toNat ≤ 96) ∨ 123 ≤ c.toNat)) := by
  have e : (c == 45) = decide (c.toNat = 45) := by
    rw [Bool.eq_iff_iff, beq_iff_eq, decide_eq_true_eq]
    exact ⟨fun h => by rw [h]; rfl, fun h => UInt8.toNat_inj.1 h⟩
  have : nameC c = decide ((97 ≤ c.toNat ∧ c.toNat ≤ 122) ∨ (65 ≤ c.toNat ∧ c.toNat ≤ 90) ∨ (48 ≤ c.toNat ∧ c.toNat ≤ 57) ∨ c.toNat = 45) := by
    unfold nameC
    rw [e, Bool.eq_iff_iff]
    simp only [Bool.or_eq_true, decide_eq_true_eq]
    omega
  rw [this, decide_eq_true_eq, decide_eq_false_iff_not]
  omega
set_option maxHeartbeats 2000000 in
theorem isName_any (s : Bs) (w : World) (hs : s.length ≤ 9223372036854775807) : Calls Tryz.prog 111 #[.string (bs s)] w fun e w' => e = .returned (.bool (isNameH s)) ∧ w' = w := by
  have HC : Hid (∀ k (hk : k < s.length), (nameC s[k] = true ∧ ((97 ≤ s[k].toNat ∧ s[k].toNat ≤ 122) ∨ (65 ≤ s[k].toNat ∧ s[k].toNat ≤ 90) ∨ (48 ≤ s[k].toNat ∧ s[k].toNat ≤ 57) ∨ s[k].toNat = 45)) ∨ (nameC s[k] = false ∧ (s[k].toNat < 45 ∨ (46 ≤ s[k].toNat ∧ s[k].toNat ≤ 47) ∨ (58 ≤ s[k].toNat ∧ s[k].toNat ≤ 64) ∨ (91 ≤ s[k].toNat ∧ s[k].toNat ≤ 96) ∨ 123 ≤ s[k].toNat))) := Lib.hid (fun k hk => nameC_cases s[k])
  have HT : Hid (∀ k (hk : k < s.length), (s.take k).all nameC = true → nameC s[k] = true → (s.take (k + 1)).all nameC = true) := Lib.hid (fun k hk h1 h2 => by rw [take_snocB s k hk, List.all_append, h1]; simp [h2])
  have HB : Hid (∀ k (hk : k < s.length), nameC s[k] = false → isNameH s = false) := Lib.hid (fun k hk h => by
    unfold isNameH
    have : s.all nameC = false := by
      rw [← Bool.not_eq_true, List.all_eq_true]
      intro ha
      have := ha s[k] (List.getElem_mem hk)
      rw [h] at this
      cases this
    rw [this]; rfl)
  have HG : Hid ((s.take s.length).all nameC = true → isNameH s = !s.isEmpty) := Lib.hid (fun h => by
    rw [List.take_length] at h
    unfold isNameH
    rw [h]; rfl)
  generalize isNameH s = R at *
  go_enter Tryz.func111, Tryz.ntmps111
  go_wp2_with fail
  go_loop [7] (fun i => ∃ k : Nat, k ≤ s.length ∧ i = .int .i64 k ∧ Hid ((s.take k).all nameC = true)) (fun i => s.length - (intOf i).toNat)
  case atStart => exact ⟨0, by omega, rfl, Lib.hid rfl⟩
  case round =>
    obtain ⟨k, hk, rfl, ha⟩ := hrel
    by_cases hlt : k < s.length
    · have hc := HC.out k hlt
      have H1 := Lib.hid (HT.out k hlt ha.out)
      have H2 := Lib.hid (HB.out k hlt)
      have hlt' : (k : Int) < (s.length : Int) := by omega
      generalize nameC s[k] = nc at *
      have hb : ((bs s)[k]'(by rw [bs_size]; exact hlt)).toNat = s[k].toNat := rfl
      generalize s[k].toNat = b at *
      clear HC HT HB HG ha
      rcases hc with ⟨rfl, hc⟩ | ⟨rfl, hc⟩
      · have hN := Lib.hid (H1.out rfl)
        clear H1 H2
        rcases hc with h | h | h | h
        all_goals
          try
            have e1 : ((b : Int) == 45) = true := beq_iff_eq.2 (by omega)
          go_wp2_with fail
          go_round
          case rel => exact ⟨k + 1, by omega, by go_num, hN⟩
          case measure => simp [intOf]; omega
      · have hN := H2.out rfl
        subst hN
        clear H1 H2
        have e1 : ((b : Int) == 45) = false := beq_eq_false_iff_ne.2 (by omega)
        rcases hc with h | h | h | h | h
        all_goals
          go_wp2_with fail
          all_goals first
            | (go_ret; exact ⟨rfl, rfl⟩)
            | (exfalso; clear u2 u3 u4; simp only [Bool.not_eq_false', decide_eq_true_eq] at *; omega)
    · obtain rfl : k = s.length := by omega
      have hR := HG.out ha.out
      subst hR
      clear HC HT HB HG ha
      go_wp2_with fail
      go_ret
      exact ⟨rfl, rfl⟩
end Go.Proofs.YtjhameebehkdjaaGreatDoor
namespace Go.Proofs.YtjhameebehkdjaaGreatDoor
open Go.RowKit Go.Shelf
set_option linter.unusedVariables false
set_option maxRecDepth 100000

theorem kType_lit : kType = [99, 111, 110, 116, 101, 110, 116, 45, 116, 121, 112, 101] := by decide
theorem kLen_lit : kLen = [99, 111, 110, 116, 101, 110, 116, 45, 108, 101, 110, 103, 116, 104] := by decide
theorem kEnc_lit : kEnc = [116, 114, 97, 110, 115, 102, 101, 114, 45, 101, 110, 99, 111, 100, 105, 110, 103] := by decide
theorem kConn_lit : kConn = [99, 111, 110, 110, 101, 99, 116, 105, 111, 110] := by decide
theorem msgT_lit : msgT = [97, 112, 112, 108, 105, 99, 97, 116, 105, 111, 110, 47, 100, 110, 115, 45, 109, 101, 115, 115, 97, 103, 101] := by decide
theorem vChunk_lit : vChunk = [99, 104, 117, 110, 107, 101, 100] := by decide
theorem vClose_lit : vClose = [99, 108, 111, 115, 101] := by decide
theorem vKeep_lit : vKeep = [107, 101, 101, 112, 45, 97, 108, 105, 118, 101] := by decide
theorem reqL_lit : reqL = [80, 79, 83, 84, 32, 47, 100, 110, 115, 45, 113, 117, 101, 114, 121, 32, 72, 84, 84, 80, 47, 49, 46, 49] := by decide

/-- The row of what a head says. -/
def hcells (h : Hd) : Array Value := #[.int .i64 h.types, .int .i64 h.lengths, .int .i64 h.conns, .int .i64 h.size, .bool h.chunked, .bool h.closes]
def HRow (w : World) (g : Nat) (h : Hd) : Prop := w.heap[g]? = some (.cells (hcells h) 149 (0, 0))
theorem grown_setG (g i : Nat) (u : Value) (w : World) : w.grownBy (w.setCell ⟨g, i, none⟩ u) (some g) := by
  have := grownBy_setCells g [u] i w
  simpa [World.setCells] using this
theorem HRow.on {w w1 : World} {g : Nat} {h : Hd} (r : HRow w g h) (k : Below w.heap.size w w1) : HRow w1 g h := (k.block g (Array.getElem?_eq_some_iff.1 r).1).trans r
/-- What a step on a head answers. -/
def StepF (w : World) (g : Nat) (r : Option Hd) (e : Ending) (w' : World) : Prop := e = .returned (.bool r.isSome) ∧ w.grownBy w' (some g) ∧ ∀ h', r = some h' → HRow w' g h'

def capN (o : Option Nat) : Option Nat := match o with | some n => if n ≤ 65535 then some n else none | none => none
theorem numH_cap (s : Bs) : numH s = capN (decH s) := rfl
set_option maxHeartbeats 1000000 in
theorem takeLength_any (g : Nat) (h : Hd) (s : Bs) (w : World) (hr : HRow w g h) (hs : s.length ≤ 9223372036854775807) : Calls Tryz.prog 119 #[.pointer (some ⟨g, 0, none⟩), .string (bs s)] w (StepF w g ((numH s).map fun n => { h with size := n })) := by
  have D := Lib.hid (decimal_any s w hs)
  obtain ⟨r, hrr⟩ : ∃ r, r = decH s := ⟨_, rfl⟩
  have HN : Hid (numH s = capN r) := Lib.hid (by rw [hrr]; rfl)
  rw [← hrr] at D
  have HF : Hid (∀ w1, Below w.heap.size w w1 → w1.cell? ⟨g, 3, none⟩ = some (.int .i64 h.size) ∧ w1.frozen? ⟨g, 3, none⟩ = false ∧ ∀ n : Nat, w.grownBy (w1.setCell ⟨g, 3, none⟩ (.int .i64 n)) (some g) ∧ HRow (w1.setCell ⟨g, 3, none⟩ (.int .i64 n)) g { h with size := n }) := Lib.hid (fun w1 k => by
    have r1 := hr.on k
    exact ⟨(cell_of_row _ g 3 _ _ _ r1).trans rfl, frozen_of_row _ _ 3 _ _ r1, fun n => ⟨grown_trans (grown_of_below k (some g)) (grown_setG g 3 _ _) (fun k hk => .inl hk), row_set (w := w1) (g := g) (i := 3) (.int .i64 n) r1⟩⟩)
  have HD : Hid (∀ e w', StepF w g ((numH s).map fun n => { h with size := n }) e w' ↔ (e = .returned (.bool ((numH s).map fun n => { h with size := n }).isSome) ∧ w.grownBy w' (some g) ∧ ∀ h', ((numH s).map fun n => { h with size := n }) = some h' → HRow w' g h')) := Lib.hid (fun _ _ => Iff.rfl)
  generalize StepF w g ((numH s).map fun n => { h with size := n }) = Q at *
  clear hrr hr
  cases r with
  | none =>
    have hn : numH s = none := HN.out
    go_enter Tryz.func119, Tryz.ntmps119
    go_wp2_with fail
    refine D.out.mono ?_
    rintro e w1 ⟨rfl, k1⟩
    obtain ⟨c3, f3, hx⟩ := HF.out w1 k1
    obtain ⟨hx1, hx2⟩ := hx 0
    have HQ := Lib.hid ((HD.out (.returned (.bool false)) _).2 ⟨by rw [hn]; rfl, hx1, fun h' e => by rw [hn] at e; cases e⟩)
    clear hx hx1 hx2 k1 HF HD HN D hn
    go_wp2_with fail
    exact HQ.out
  | some n =>
    by_cases h6 : n ≤ 65535
    · have hn : numH s = some n := by rw [HN.out]; simp only [capN, if_pos h6]
      have h6' : (n : Int) ≤ 65535 := by omega
      go_enter Tryz.func119, Tryz.ntmps119
      go_wp2_with fail
      refine D.out.mono ?_
      rintro e w1 ⟨rfl, k1⟩
      obtain ⟨c3, f3, hx⟩ := HF.out w1 k1
      obtain ⟨hx1, hx2⟩ := hx n
      have HQ := Lib.hid ((HD.out (.returned (.bool true)) _).2 ⟨by rw [hn]; rfl, hx1, fun h' e => by rw [hn] at e; injection e with e; rw [← e]; exact hx2⟩)
      clear hx hx1 hx2 k1 HF HD HN D hn
      go_wp2_with fail
      exact HQ.out
    · have hn : numH s = none := by rw [HN.out]; simp only [capN, if_neg h6]
      have h6' : decide ((n : Int) ≤ 65535) = false := by rw [decide_eq_false_iff_not]; omega
      go_enter Tryz.func119, Tryz.ntmps119
      go_wp2_with fail
      refine D.out.mono ?_
      rintro e w1 ⟨rfl, k1⟩
      obtain ⟨c3, f3, hx⟩ := HF.out w1 k1
      obtain ⟨hx1, hx2⟩ := hx n
      have HQ := Lib.hid ((HD.out (.returned (.bool false)) _).2 ⟨by rw [hn]; rfl, hx1, fun h' e => by rw [hn] at e; cases e⟩)
      clear hx hx1 hx2 k1 HF HD HN D hn
      go_wp2_with fail
      exact HQ.out
end Go.Proofs.YtjhameebehkdjaaGreatDoor
namespace Go.Proofs.YtjhameebehkdjaaGreatDoor
open Go.RowKit Go.Shelf
set_option linter.unusedVariables false
set_option maxRecDepth 100000

theorem takeHd_type (h : Hd) (v : Bs) : takeHd h kType v = if v = msgT then some { h with types := h.types + 1 } else none := by unfold takeHd; rw [if_pos rfl]
theorem takeHd_conn (h : Hd) (v : Bs) : takeHd h kConn v = if v = vClose then some { h with conns := h.conns + 1, closes := true } else if v = vKeep then some { h with conns := h.conns + 1, closes := false } else none := by
  unfold takeHd
  rw [if_neg (Ne.symm keys_ne.1), if_pos rfl]
theorem takeHd_enc (h : Hd) (v : Bs) : takeHd h kEnc v = if v = vChunk then some { h with chunked := true, lengths := h.lengths + 1 } else none := by
  unfold takeHd
  rw [if_neg (Ne.symm keys_ne.2.1), if_neg (Ne.symm keys_ne.2.2.2.1), if_pos rfl]
theorem takeHd_len (h : Hd) (v : Bs) : takeHd h kLen v = if h.chunked then some { h with lengths := h.lengths + 1 } else (numH v).map fun n => { h with lengths := h.lengths + 1, size := n } := by
  unfold takeHd
  rw [if_neg (Ne.symm keys_ne.2.2.1), if_neg (Ne.symm keys_ne.2.2.2.2.1), if_neg (Ne.symm keys_ne.2.2.2.2.2.1), if_pos rfl]
theorem takeHd_other (h : Hd) {k : Bs} (v : Bs) (h1 : k ≠ kType) (h2 : k ≠ kConn) (h3 : k ≠ kEnc) (h4 : k ≠ kLen) : takeHd h k v = some h := by
  unfold takeHd
  rw [if_neg h1, if_neg h2, if_neg h3, if_neg h4]
/-- A cell of it set. -/
theorem HRow.set {w : World} {g : Nat} {h h' : Hd} (i : Nat) (u : Value) (r : HRow w g h) (e : (hcells h).setIfInBounds i u = hcells h') : HRow (w.setCell ⟨g, i, none⟩ u) g h' := by
  have := row_set (w := w) (g := g) (i := i) u r
  rw [e] at this
  exact this
set_option maxHeartbeats 2000000 in
theorem takeField_type (g : Nat) (h : Hd) (v : Bs) (w : World) (hr : HRow w g h) (hb : h.types < 1000000000 ∧ h.lengths < 1000000000 ∧ h.conns < 1000000000) (hv : v.length ≤ 9223372036854775807) : Calls Tryz.prog 112 #[.pointer (some ⟨g, 0, none⟩), .string (bs kType), .string (bs v)] w (StepF w g (takeHd h kType v)) := by
  have HD : Hid (∀ e w', StepF w g (takeHd h kType v) e w' ↔ (e = .returned (.bool (takeHd h kType v).isSome) ∧ w.grownBy w' (some g) ∧ ∀ h', takeHd h kType v = some h' → HRow w' g h')) := Lib.hid (fun _ _ => Iff.rfl)
  generalize StepF w g (takeHd h kType v) = Q at *
  rw [takeHd_type] at HD
  rw [kType_lit]
  have c0 : w.cell? ⟨g, 0, none⟩ = some (.int .i64 h.types) := (cell_of_row _ g 0 _ _ _ hr).trans rfl
  have f0 := frozen_of_row _ _ 0 _ _ hr
  have hb1 := hb.1
  have r1 : HRow (w.setCell ⟨g, 0, none⟩ (.int .i64 ((h.types : Int) + 1))) g { h with types := h.types + 1 } := hr.set 0 _ (by simp [hcells])
  have G1 := grown_setG g 0 (.int .i64 ((h.types : Int) + 1)) w
  have T0 : (h.types : Int) < 1000000000 := by omega
  have T1 : (0 : Int) ≤ (h.types : Int) := by omega
  by_cases hm : v = msgT
  · rw [if_pos hm] at HD
    have HQ := Lib.hid ((HD.out (.returned (.bool true)) _).2 ⟨rfl, G1, fun h' e => by injection e with e; rw [← e]; exact r1⟩)
    rw [hm, msgT_lit]
    clear hr r1 G1 HD hm hb hb1
    go_enter Tryz.func112, Tryz.ntmps112
    go_wp2_with fail
    exact HQ.out
  · rw [if_neg hm] at HD
    have HQ := Lib.hid ((HD.out (.returned (.bool false)) _).2 ⟨rfl, G1, (fun h' e => by cases e)⟩)
    rw [msgT_lit] at hm
    have e1 : (v == [97, 112, 112, 108, 105, 99, 97, 116, 105, 111, 110, 47, 100, 110, 115, 45, 109, 101, 115, 115, 97, 103, 101]) = false := beq_eq_false_iff_ne.2 hm
    clear hr r1 G1 HD hm hb hb1
    go_enter Tryz.func112, Tryz.ntmps112
    go_wp2_with fail
    exact HQ.out
set_option maxHeartbeats 2000000 in
theorem takeField_conn (g : Nat) (h : Hd) (v : Bs) (w : World) (hr : HRow w g h) (hb : h.types < 1000000000 ∧ h.lengths < 1000000000 ∧ h.conns < 1000000000) (hv : v.length ≤ 9223372036854775807) : Calls Tryz.prog 112 #[.pointer (some ⟨g, 0, none⟩), .string (bs kConn), .string (bs v)] w (StepF w g (takeHd h kConn v)) := by
  have HD : Hid (∀ e w', StepF w g (takeHd h kConn v) e w' ↔ (e = .returned (.bool (takeHd h kConn v).isSome) ∧ w.grownBy w' (some g) ∧ ∀ h', takeHd h kConn v = some h' → HRow w' g h')) := Lib.hid (fun _ _ => Iff.rfl)
  generalize StepF w g (takeHd h kConn v) = Q at *
  rw [takeHd_conn] at HD
  rw [kConn_lit]
  have c2 : w.cell? ⟨g, 2, none⟩ = some (.int .i64 h.conns) := (cell_of_row _ g 2 _ _ _ hr).trans rfl
  have f2 := frozen_of_row _ _ 2 _ _ hr
  have hb2 := hb.2.2
  have T0 : (h.conns : Int) < 1000000000 := by omega
  have T1 : (0 : Int) ≤ (h.conns : Int) := by omega
  have r1 : HRow (w.setCell ⟨g, 2, none⟩ (.int .i64 ((h.conns : Int) + 1))) g { h with conns := h.conns + 1 } := hr.set 2 _ (by simp [hcells])
  have c5 : (w.setCell ⟨g, 2, none⟩ (.int .i64 ((h.conns : Int) + 1))).cell? ⟨g, 5, none⟩ = some (.bool h.closes) := (cell_of_row _ g 5 _ _ _ r1).trans rfl
  have f5 := frozen_of_row _ _ 5 _ _ r1
  have r2 : ∀ b, HRow ((w.setCell ⟨g, 2, none⟩ (.int .i64 ((h.conns : Int) + 1))).setCell ⟨g, 5, none⟩ (.bool b)) g { h with conns := h.conns + 1, closes := b } := fun b => r1.set 5 _ (by simp [hcells])
  have G2 : ∀ b, w.grownBy ((w.setCell ⟨g, 2, none⟩ (.int .i64 ((h.conns : Int) + 1))).setCell ⟨g, 5, none⟩ (.bool b)) (some g) := fun b => grown_trans (grown_setG g 2 _ w) (grown_setG g 5 _ _) (fun k hk => .inl hk)
  have c5b : ∀ b, ((w.setCell ⟨g, 2, none⟩ (.int .i64 ((h.conns : Int) + 1))).setCell ⟨g, 5, none⟩ (.bool b)).cell? ⟨g, 5, none⟩ = some (.bool b) := fun b => (cell_of_row _ g 5 _ _ _ (r2 b)).trans rfl
  by_cases hm : v = vClose
  · rw [if_pos hm] at HD
    have HQ := Lib.hid ((HD.out (.returned (.bool true)) _).2 ⟨rfl, G2 true, fun h' e => by injection e with e; rw [← e]; exact r2 true⟩)
    have cc := c5b true
    rw [hm, vClose_lit]
    clear hr r1 r2 G2 HD hm hb hb2 c5b
    go_enter Tryz.func112, Tryz.ntmps112
    go_wp2_with fail
    exact HQ.out
  · rw [if_neg hm] at HD
    have e1 : (v == [99, 108, 111, 115, 101]) = false := beq_eq_false_iff_ne.2 (by rw [← vClose_lit]; exact hm)
    by_cases hk : v = vKeep
    · rw [if_pos hk] at HD
      have HQ := Lib.hid ((HD.out (.returned (.bool true)) _).2 ⟨rfl, G2 false, fun h' e => by injection e with e; rw [← e]; exact r2 false⟩)
      have cc := c5b false
      rw [hk, vKeep_lit] at e1 ⊢
      clear hr r1 r2 G2 HD hm hk hb hb2 c5b
      go_enter Tryz.func112, Tryz.ntmps112
      go_wp2_with fail
      exact HQ.out
    · rw [if_neg hk] at HD
      have HQ := Lib.hid ((HD.out (.returned (.bool false)) _).2 ⟨rfl, G2 false, (fun h' e => by cases e)⟩)
      have cc := c5b false
      have e2 : (v == [107, 101, 101, 112, 45, 97, 108, 105, 118, 101]) = false := beq_eq_false_iff_ne.2 (by rw [← vKeep_lit]; exact hk)
      clear hr r1 r2 G2 HD hm hk hb hb2 c5b
      go_enter Tryz.func112, Tryz.ntmps112
      go_wp2_with fail
      exact HQ.out
set_option maxHeartbeats 2000000 in
theorem takeField_enc (g : Nat) (h : Hd) (v : Bs) (w : World) (hr : HRow w g h) (hb : h.types < 1000000000 ∧ h.lengths < 1000000000 ∧ h.conns < 1000000000) (hv : v.length ≤ 9223372036854775807) : Calls Tryz.prog 112 #[.pointer (some ⟨g, 0, none⟩), .string (bs kEnc), .string (bs v)] w (StepF w g (takeHd h kEnc v)) := by
  have HD : Hid (∀ e w', StepF w g (takeHd h kEnc v) e w' ↔ (e = .returned (.bool (takeHd h kEnc v).isSome) ∧ w.grownBy w' (some g) ∧ ∀ h', takeHd h kEnc v = some h' → HRow w' g h')) := Lib.hid (fun _ _ => Iff.rfl)
  generalize StepF w g (takeHd h kEnc v) = Q at *
  rw [takeHd_enc] at HD
  rw [kEnc_lit]
  have c4 : w.cell? ⟨g, 4, none⟩ = some (.bool h.chunked) := (cell_of_row _ g 4 _ _ _ hr).trans rfl
  have f4 := frozen_of_row _ _ 4 _ _ hr
  have hb2 := hb.2.1
  have T0 : (h.lengths : Int) < 1000000000 := by omega
  have T1 : (0 : Int) ≤ (h.lengths : Int) := by omega
  have r1 : HRow (w.setCell ⟨g, 4, none⟩ (.bool true)) g { h with chunked := true } := hr.set 4 _ (by simp [hcells])
  have d1 : (w.setCell ⟨g, 4, none⟩ (.bool true)).cell? ⟨g, 1, none⟩ = some (.int .i64 h.lengths) := (cell_of_row _ g 1 _ _ _ r1).trans rfl
  have e1f := frozen_of_row _ _ 1 _ _ r1
  have r2 : HRow ((w.setCell ⟨g, 4, none⟩ (.bool true)).setCell ⟨g, 1, none⟩ (.int .i64 ((h.lengths : Int) + 1))) g { h with chunked := true, lengths := h.lengths + 1 } := r1.set 1 _ (by simp [hcells])
  have d4 : ((w.setCell ⟨g, 4, none⟩ (.bool true)).setCell ⟨g, 1, none⟩ (.int .i64 ((h.lengths : Int) + 1))).cell? ⟨g, 4, none⟩ = some (.bool true) := (cell_of_row _ g 4 _ _ _ r2).trans rfl
  have G2 : w.grownBy ((w.setCell ⟨g, 4, none⟩ (.bool true)).setCell ⟨g, 1, none⟩ (.int .i64 ((h.lengths : Int) + 1))) (some g) := grown_trans (grown_setG g 4 _ w) (grown_setG g 1 _ _) (fun k hk => .inl hk)
  by_cases hm : v = vChunk
  · rw [if_pos hm] at HD
    have HQ := Lib.hid ((HD.out (.returned (.bool true)) _).2 ⟨rfl, G2, fun h' e => by injection e with e; rw [← e]; exact r2⟩)
    rw [hm, vChunk_lit]
    clear hr r1 r2 G2 HD hm hb hb2
    go_enter Tryz.func112, Tryz.ntmps112
    go_wp2_with fail
    exact HQ.out
  · rw [if_neg hm] at HD
    have HQ := Lib.hid ((HD.out (.returned (.bool false)) w).2 ⟨rfl, grown_refl w _, (fun h' e => by cases e)⟩)
    have e1 : (v == [99, 104, 117, 110, 107, 101, 100]) = false := beq_eq_false_iff_ne.2 (by rw [← vChunk_lit]; exact hm)
    clear hr r1 r2 G2 HD hm hb hb2
    go_enter Tryz.func112, Tryz.ntmps112
    go_wp2_with fail
    exact HQ.out
set_option maxHeartbeats 2000000 in
theorem takeField_len (g : Nat) (h : Hd) (v : Bs) (w : World) (hr : HRow w g h) (hb : h.types < 1000000000 ∧ h.lengths < 1000000000 ∧ h.conns < 1000000000) (hv : v.length ≤ 9223372036854775807) : Calls Tryz.prog 112 #[.pointer (some ⟨g, 0, none⟩), .string (bs kLen), .string (bs v)] w (StepF w g (takeHd h kLen v)) := by
  have HD : Hid (∀ e w', StepF w g (takeHd h kLen v) e w' ↔ (e = .returned (.bool (takeHd h kLen v).isSome) ∧ w.grownBy w' (some g) ∧ ∀ h', takeHd h kLen v = some h' → HRow w' g h')) := Lib.hid (fun _ _ => Iff.rfl)
  generalize StepF w g (takeHd h kLen v) = Q at *
  rw [takeHd_len] at HD
  rw [kLen_lit]
  have c1 : w.cell? ⟨g, 1, none⟩ = some (.int .i64 h.lengths) := (cell_of_row _ g 1 _ _ _ hr).trans rfl
  have f1 := frozen_of_row _ _ 1 _ _ hr
  have hb2 := hb.2.1
  have T0 : (h.lengths : Int) < 1000000000 := by omega
  have T1 : (0 : Int) ≤ (h.lengths : Int) := by omega
  have r1 : HRow (w.setCell ⟨g, 1, none⟩ (.int .i64 ((h.lengths : Int) + 1))) g { h with lengths := h.lengths + 1 } := hr.set 1 _ (by simp [hcells])
  have d4 : (w.setCell ⟨g, 1, none⟩ (.int .i64 ((h.lengths : Int) + 1))).cell? ⟨g, 4, none⟩ = some (.bool h.chunked) := (cell_of_row _ g 4 _ _ _ r1).trans rfl
  have G1 := grown_setG g 1 (.int .i64 ((h.lengths : Int) + 1)) w
  cases hc : h.chunked with
  | true =>
    rw [if_pos hc] at HD
    rw [hc] at d4
    have HQ := Lib.hid ((HD.out (.returned (.bool true)) _).2 ⟨rfl, G1, fun h' e => by injection e with e; rw [← e]; exact r1⟩)
    clear hr r1 G1 HD hc hb hb2
    go_enter Tryz.func112, Tryz.ntmps112
    go_wp2_with fail
    exact HQ.out
  | false =>
    rw [if_neg (by rw [hc]; decide)] at HD
    rw [hc] at d4
    have TL := Lib.hid (takeLength_any g { h with lengths := h.lengths + 1 } v _ r1 hv)
    have HS : Hid (∀ e w', StepF (w.setCell ⟨g, 1, none⟩ (.int .i64 ((h.lengths : Int) + 1))) g ((numH v).map fun n => { h with lengths := h.lengths + 1, size := n }) e w' → ∃ b, e = .returned (.bool b) ∧ Q (.returned (.bool b)) w') := Lib.hid (fun e w' ⟨a, b, c⟩ => ⟨_, a, (HD.out _ _).2 ⟨rfl, grown_trans G1 b (fun k hk => .inl hk), c⟩⟩)
    generalize StepF (w.setCell ⟨g, 1, none⟩ (.int .i64 ((h.lengths : Int) + 1))) g ((numH v).map fun n => { h with lengths := h.lengths + 1, size := n }) = QS at *
    clear hr r1 G1 HD hc hb hb2
    go_enter Tryz.func112, Tryz.ntmps112
    go_wp2_with fail
    refine TL.out.mono ?_
    intro e w1 hq
    obtain ⟨b, rfl, hb⟩ := HS.out e w1 hq
    have HQ := Lib.hid hb
    clear hb hq HS TL
    go_wp2_with fail
    exact HQ.out
set_option maxHeartbeats 2000000 in
theorem takeField_other (g : Nat) (h : Hd) (k v : Bs) (w : World) (hr : HRow w g h) (h1 : k ≠ kType) (h2 : k ≠ kConn) (h3 : k ≠ kEnc) (h4 : k ≠ kLen) : Calls Tryz.prog 112 #[.pointer (some ⟨g, 0, none⟩), .string (bs k), .string (bs v)] w (StepF w g (takeHd h k v)) := by
  rw [takeHd_other h v h1 h2 h3 h4]
  have HQ : Hid (StepF w g (some h) (.returned (.bool true)) w) := Lib.hid ⟨rfl, grown_refl w _, fun h' e => by injection e with e; rw [← e]; exact hr⟩
  generalize StepF w g (some h) = Q at *
  rw [kType_lit] at h1
  rw [kConn_lit] at h2
  rw [kEnc_lit] at h3
  rw [kLen_lit] at h4
  have e1 := beq_eq_false_iff_ne.2 h1
  have e2 := beq_eq_false_iff_ne.2 h2
  have e3 := beq_eq_false_iff_ne.2 h3
  have e4 := beq_eq_false_iff_ne.2 h4
  clear h1 h2 h3 h4 hr
  go_enter Tryz.func112, Tryz.ntmps112
  go_wp2_with fail
  exact HQ.out
theorem takeField_any (g : Nat) (h : Hd) (k v : Bs) (w : World) (hr : HRow w g h) (hb : h.types < 1000000000 ∧ h.lengths < 1000000000 ∧ h.conns < 1000000000) (hv : v.length ≤ 9223372036854775807) : Calls Tryz.prog 112 #[.pointer (some ⟨g, 0, none⟩), .string (bs k), .string (bs v)] w (StepF w g (takeHd h k v)) := by
  by_cases h1 : k = kType
  · subst h1; exact takeField_type g h v w hr hb hv
  by_cases h2 : k = kConn
  · subst h2; exact takeField_conn g h v w hr hb hv
  by_cases h3 : k = kEnc
  · subst h3; exact takeField_enc g h v w hr hb hv
  by_cases h4 : k = kLen
  · subst h4; exact takeField_len g h v w hr hb hv
  exact takeField_other g h k v w hr h1 h2 h3 h4
end Go.Proofs.YtjhameebehkdjaaGreatDoor
namespace Go.Proofs.YtjhameebehkdjaaGreatDoor
open Go.RowKit Go.Shelf
set_option linter.unusedVariables false
set_option maxRecDepth 100000

theorem index_char (c : UInt8) : ∀ s : Bs, Lib.index s [c] = if (s.takeWhile (· != c)).length < s.length then ((s.takeWhile (· != c)).length : Int) else -1
  | [] => by simp [Lib.index]
  | x :: s => by
    rw [Lib.index, index_char c s]
    by_cases h : x = c
    · subst h; simp [List.isPrefixOf]
    · have h1 : ([c] : Bs).isPrefixOf (x :: s) = false := by simp [List.isPrefixOf, Ne.symm h]
      have h2 : (x != c) = true := by simpa using h
      rw [h1, List.takeWhile_cons, if_pos h2]
      simp only [Bool.false_eq_true, if_false, List.length_cons]
      by_cases h3 : (s.takeWhile (· != c)).length < s.length
      · rw [if_pos h3, if_neg (by simp), if_pos (by omega)]
        omega
      · rw [if_neg h3, if_pos (by decide), if_neg (by omega)]
theorem take_while (p : UInt8 → Bool) : ∀ s : Bs, s.take (s.takeWhile p).length = s.takeWhile p
  | [] => rfl
  | x :: s => by
    rw [List.takeWhile_cons]
    split
    · simp [take_while p s]
    · rfl
theorem cut_char (c : UInt8) (s : Bs) : Lib.cut s [c] = if (s.takeWhile (· != c)).length < s.length then (s.takeWhile (· != c), s.drop ((s.takeWhile (· != c)).length + 1), true) else (s, [], false) := by
  unfold Lib.cut
  rw [index_char]
  split
  · rename_i h
    rw [if_pos (by omega)]
    simp [take_while]
  · rfl
theorem lower_small (l : Bs) : Lib.toLowerA l = low l := by
  unfold Lib.toLowerA low
  refine List.map_congr_left fun b _ => ?_
  have : ∀ n : Fin 256, Lib.lowerB (UInt8.ofNat n.val) = small (UInt8.ofNat n.val) := by decide +kernel
  have h := this ⟨b.toNat, b.toNat_lt⟩
  simpa using h
theorem trimS_blank (l : Bs) : Lib.trimS l [32, 9] = trimH l := by
  have : (([32, 9] : Bs).contains · : UInt8 → Bool) = blankH := by
    funext c
    simp [blankH, List.contains, List.elem]
    cases c == 32 <;> cases c == 9 <;> rfl
  unfold Lib.trimS Lib.trimLeftS Lib.trimRightS trimH
  rw [this]
theorem trimH_mem {l : Bs} {c : UInt8} (h : c ∈ trimH l) : c ∈ l := by
  unfold trimH at h
  have h1 := (List.dropWhile_sublist blankH).subset h
  rw [List.mem_reverse] at h1
  have h2 := (List.dropWhile_sublist blankH).subset h1
  rwa [List.mem_reverse] at h2
theorem lineC_ascii {c : UInt8} (h : lineC c = true) : c.toNat < 128 := by
  unfold lineC at h
  rw [Bool.or_eq_true, decide_eq_true_eq, beq_iff_eq] at h
  rcases h with h | h
  · omega
  · rw [h]; decide
theorem fieldH_eq (l a : Bs) (h : a = l.takeWhile (· != 58)) : fieldH l = if a ≠ [] ∧ a.all nameC ∧ a.length < l.length then some (low a, low (trimH (l.drop (a.length + 1)))) else none := by rw [h]; rfl
/-- What takeLine makes of a line. -/
def lineF (h : Hd) (l : Bs) : Option Hd := (fieldH l).bind fun f => takeHd h f.1 f.2
theorem StepF.then {w w1 w2 : World} {g : Nat} {r : Option Hd} {e : Ending} (k : Below w.heap.size w w1) (h : StepF w1 g r e w2) : e = .returned (.bool r.isSome) ∧ StepF w g r (.returned (.bool r.isSome)) w2 :=
  ⟨h.1, rfl, grown_trans (grown_of_below k _) h.2.1 (fun j hj => .inl hj), h.2.2⟩
set_option maxHeartbeats 2000000 in
theorem takeLine_any (g : Nat) (h : Hd) (l : Bs) (w : World) (hr : HRow w g h) (hb : h.types < 1000000000 ∧ h.lengths < 1000000000 ∧ h.conns < 1000000000) (hl : l.length ≤ 4000) (ho : okLine l) (hM : MaxL w) :
    Calls Tryz.prog 107 #[.pointer (some ⟨g, 0, none⟩), .string (bs l)] w (StepF w g (lineF h l)) := by
  have C := Lib.hid (cut_any l [58] w hM (by omega))
  rw [cut_char] at C
  have hF : lineF h l = (fieldH l).bind fun f => takeHd h f.1 f.2 := rfl
  obtain ⟨a, ha⟩ : ∃ a, a = l.takeWhile (· != 58) := ⟨_, rfl⟩
  rw [fieldH_eq l a ha] at hF
  have HD : lineF h l = none → Hid (∀ w', Below w.heap.size w w' → StepF w g (lineF h l) (.returned (.bool false)) w') := fun hn => Lib.hid (fun w' k => by
    rw [hn]
    exact ⟨rfl, grown_of_below k _, (fun h' e => by cases e)⟩)
  rw [← ha] at C
  have haa : ∀ c ∈ a, c.toNat < 128 := fun c hc => lineC_ascii (ho c (by rw [ha] at hc; exact (List.takeWhile_sublist _).subset hc))
  clear ha
  by_cases hc : a.length < l.length
  · rw [if_pos hc] at C
    obtain ⟨b, hbb⟩ : ∃ b, b = l.drop (a.length + 1) := ⟨_, rfl⟩
    have N := Lib.hid (fun W => isName_any a W (by omega))
    by_cases hn : isNameH a = true
    · have hf : lineF h l = takeHd h (low a) (low (trimH b)) := by
        unfold isNameH at hn
        rw [Bool.and_eq_true] at hn
        rw [hF, if_pos ⟨by simpa using hn.2, hn.1, hc⟩, hbb]
        rfl
      rw [← hbb] at C
      have hla : a.length ≤ 4000 := by omega
      have hlb : b.length ≤ 4000 := by rw [hbb, List.length_drop]; omega
      have hlt : (trimH b).length ≤ 4000 := by
        have h1 := (List.dropWhile_sublist blankH (l := (b.reverse.dropWhile blankH).reverse)).length_le
        have h2 := (List.dropWhile_sublist blankH (l := b.reverse)).length_le
        rw [List.length_reverse] at h1 h2
        unfold trimH
        omega
      have ab : ∀ c ∈ trimH b, c.toNat < 128 := fun c hc => lineC_ascii (ho c (List.mem_of_mem_drop (by rw [← hbb]; exact trimH_mem hc)))
      have L1 := Lib.hid (fun W => toLower_any a W (by omega) haa)
      have T1 := Lib.hid (fun W => trim_any b [32, 9] W (by omega) (by decide) (by decide))
      have L2 := Lib.hid (fun W => toLower_any (trimH b) W (by omega) ab)
      rw [hf]
      clear hF hf HD
      have TF := Lib.hid (fun W (k : Below w.heap.size w W) => takeField_any g h (low a) (low (trimH b)) W (hr.on k) hb (by rw [low_len]; omega))
      have LA := Lib.hid (lower_small a)
      have LB := Lib.hid (lower_small (trimH b))
      have TB := Lib.hid (trimS_blank b)
      rw [LA.out] at L1
      rw [LB.out] at L2
      rw [TB.out] at T1
      clear LA LB TB
      generalize takeHd h (low a) (low (trimH b)) = R at *
      generalize low (trimH b) = lv at *
      generalize trimH b = tv at *
      generalize low a = la at *
      rw [hn] at N
      have HS : Hid (∀ W e w', Below w.heap.size w W → StepF W g R e w' → e = .returned (.bool R.isSome) ∧ StepF w g R (.returned (.bool R.isSome)) w') := Lib.hid (fun W e w' k q => StepF.then k q)
      have HT : Hid (∀ W, Below w.heap.size w W → Calls Tryz.prog 112 #[.pointer (some ⟨g, 0, none⟩), .string (bs la), .string (bs lv)] W fun e w' => e = .returned (.bool R.isSome) ∧ StepF w g R (.returned (.bool R.isSome)) w') := Lib.hid (fun W k => (TF.out W k).mono fun e w' q => HS.out W e w' k q)
      generalize StepF w g R = Q at *
      generalize R.isSome = rb at *
      clear TF HS hn hla hlb hlt haa ab hbb hc ho hl hb hr hM
      go_enter Tryz.func107, Tryz.ntmps107
      go_wp2_with fail
      refine C.out.mono ?_
      rintro e w1 ⟨rfl, k1⟩
      have K1 := Lib.hid k1
      clear k1 C
      go_wp2_with fail
      refine (N.out _).mono ?_
      rintro e w2 ⟨rfl, rfl⟩
      go_wp2_with fail
      refine (L1.out _).mono ?_
      rintro e w3 ⟨rfl, k3⟩
      have K3 := Lib.hid (K1.out.trans (k3.mono K1.out.size))
      clear k3
      go_wp2_with fail
      refine (T1.out _).mono ?_
      rintro e w4 ⟨rfl, k4⟩
      have K4 := Lib.hid (K3.out.trans (k4.mono K3.out.size))
      clear k4
      go_wp2_with fail
      refine (L2.out _).mono ?_
      rintro e w5 ⟨rfl, k5⟩
      have K5 := Lib.hid (K4.out.trans (k5.mono K4.out.size))
      clear k5
      go_wp2_with fail
      refine (HT.out _ K5.out).mono ?_
      rintro e w6 ⟨rfl, hq⟩
      have HQ := Lib.hid hq
      clear hq
      go_wp2_with fail
      exact HQ.out
    · have hn' : isNameH a = false := by simpa using hn
      have hf : lineF h l = none := by
        rw [hF, if_neg]
        · rfl
        · rintro ⟨x1, x2, _⟩
          apply hn
          unfold isNameH
          rw [x2]
          simpa using x1
      have HQ := HD hf
      rw [hn'] at N
      generalize StepF w g (lineF h l) = Q at *
      clear hf hF hn hn' HD hbb b hr
      go_enter Tryz.func107, Tryz.ntmps107
      go_wp2_with fail
      refine C.out.mono ?_
      rintro e w1 ⟨rfl, k1⟩
      have H2 := Lib.hid (HQ.out _ k1)
      clear k1 C HQ
      go_wp2_with fail
      refine (N.out _).mono ?_
      rintro e w2 ⟨rfl, rfl⟩
      go_wp2_with fail
      exact H2.out
  · rw [if_neg hc] at C
    have hf : lineF h l = none := by
      rw [hF, if_neg (fun x => hc x.2.2)]
      rfl
    have HQ := HD hf
    generalize StepF w g (lineF h l) = Q at *
    clear hf hF HD hc hr
    go_enter Tryz.func107, Tryz.ntmps107
    go_wp2_with fail
    refine C.out.mono ?_
    rintro e w1 ⟨rfl, k1⟩
    have H2 := Lib.hid (HQ.out _ k1)
    clear k1 C HQ
    go_wp2_with fail
    exact H2.out
end Go.Proofs.YtjhameebehkdjaaGreatDoor
