/-
  name.appendByte, firstByte.
-/
import Derived.Test.YtigpkcpdccgnfaaNmU
import Derived.Test.YtigpkcpdccgnfaaNmD
import Derived.Deep.AppendLies
import Derived.OwnWalk
namespace Go.Proofs.Ytigpkcpdccgnfaa
open Go.RowKit
set_option linter.unusedVariables false

/-- The cells of bytes. -/
abbrev bcs (l : Bs) : List Value := l.map fun b => Value.int .u8 b.toNat
theorem bcs_append (a b : Bs) : bcs (a ++ b) = bcs a ++ bcs b := by simp [bcs]

/-- What appendByte leaves: the row of the call's own, longer; only it, and what is new, has turned. -/
def AppPost (w : World) (B : Nat) (v : Value) (l : Bs) (e : Ending) (w' : World) : Prop := ∃ v', e = .returned v' ∧ w'.ownsRow B 5 1 v' l.length (bcs l) ∧ w.grownBy w' v.ownBlock

theorem grown_alloc {w : World} {r : Option Nat} {w' : World} (o : Obj) (h : (w.alloc o).grownBy w' r) : w.grownBy w' r :=
  ⟨h.os, h.tape, h.output, Nat.le_trans (by simp) h.size, fun i hi hne => (h.block i (by simp; omega) hne).trans (Below.heap_alloc w o i hi)⟩

set_option maxHeartbeats 2000000 in
theorem appendByte_any (v : Value) (B : Nat) (l : Bs) (b : UInt8) (w : World) (hown : w.ownsRow B 5 1 v l.length (bcs l)) (hB : B ≤ w.heap.size) (hl : l.length ≤ 1000000) :
    Calls Try.prog 38 #[v, .int .u8 b.toNat] w (AppPost w B v (l ++ esc b)) := by
  obtain ⟨i0, hi, hz0, hz1, hz2⟩ := info_parts info_u8
  have hb := b.toNat_lt
  have P := Lib.hid (fun W => plain_any b.toNat (by omega) W)
  cases hp : plainN b.toNat with
  | true =>
    have he : esc b = [b] := by unfold esc; rw [if_pos hp]
    have HE := Lib.hid (show bcs (l ++ esc b) = bcs l ++ [.int .u8 b.toNat] by rw [he, bcs_append]; rfl)
    have HN := Lib.hid (show (l ++ esc b).length = l.length + 1 by rw [he]; simp)
    rw [hp] at P
    clear hp he
    generalize b.toNat = m at *
    go_enter Try.func38, Try.ntmps38
    go_wp2_with fail
    refine (P.out _).mono ?_
    rintro e w1 ⟨rfl, rfl⟩
    go_wp2_with (at_builtin; refine wpList_append_own _ rfl _ _ 34 rfl B 5 i0 (.int .u8 0) 1 1 Try.underlying34 hi hz0 hz1 hz2 rfl (by decide) _ _ _ rfl (hown.alloc _) ⟨w.heap.size, 0, none⟩ 1 1 [.int .u8 m] rfl rfl ?c1 ?c2 ?c3 ?c4 ?c5 ?_)
    case c1 => exact World.news_of_block (cs := #[.int .u8 m]) (t := 5) (fr := (0, 0)) (row_new _ rfl)
    case c2 => simp [Value.oneCell']
    case c3 => unfold maxLen; omega
    case c4 => omega
    case c5 => simp; omega
    intro v' w1 hown1 hgrow _
    go_wp2_with fail
    go_ret
    exact ⟨v', rfl, by rw [HE.out, HN.out]; exact hown1, grown_alloc _ hgrow⟩
  | false =>
    have he : esc b = [92, UInt8.ofNat (48 + b.toNat / 100), UInt8.ofNat (48 + b.toNat / 10 % 10), UInt8.ofNat (48 + b.toNat % 10)] := by unfold esc; rw [if_neg (by simp [hp])]
    have q1 : (UInt8.ofNat (48 + b.toNat / 100)).toNat = 48 + b.toNat / 100 := by simp; omega
    have q2 : (UInt8.ofNat (48 + b.toNat / 10 % 10)).toNat = 48 + b.toNat / 10 % 10 := by simp; omega
    have q3 : (UInt8.ofNat (48 + b.toNat % 10)).toNat = 48 + b.toNat % 10 := by simp; omega
    have HE := Lib.hid (show bcs (l ++ esc b) = bcs l ++ [.int .u8 92, .int .u8 (48 + (b.toNat : Int) / 100), .int .u8 (48 + (b.toNat : Int) / 10 % 10), .int .u8 (48 + (b.toNat : Int) % 10)] by
      rw [he, bcs_append]
      simp only [bcs, List.map_cons, List.map_nil, q1, q2, q3]
      simp)
    have HN := Lib.hid (show (l ++ esc b).length = l.length + 4 by rw [he]; simp)
    rw [hp] at P
    clear hp he q1 q2 q3
    generalize b.toNat = m at *
    go_enter Try.func38, Try.ntmps38
    go_wp2_with fail
    refine (P.out _).mono ?_
    rintro e w1 ⟨rfl, rfl⟩
    go_wp2_with (at_builtin; refine wpList_append_own _ rfl _ _ 34 rfl B 5 i0 (.int .u8 0) 1 1 Try.underlying34 hi hz0 hz1 hz2 rfl (by decide) _ _ _ rfl (hown.alloc _) ⟨w.heap.size, 0, none⟩ 4 4 [.int .u8 92, .int .u8 (48 + (m : Int) / 100), .int .u8 (48 + (m : Int) / 10 % 10), .int .u8 (48 + (m : Int) % 10)] rfl rfl ?c1 ?c2 ?c3 ?c4 ?c5 ?_)
    case c1 => exact World.news_of_block (cs := #[.int .u8 92, .int .u8 (48 + (m : Int) / 100), .int .u8 (48 + (m : Int) / 10 % 10), .int .u8 (48 + (m : Int) % 10)]) (t := 5) (fr := (0, 0)) (row_new _ rfl)
    case c2 => simp [Value.oneCell']
    case c3 => unfold maxLen; omega
    case c4 => omega
    case c5 => simp; omega
    intro v' w1 hown1 hgrow _
    go_wp2_with fail
    go_ret
    exact ⟨v', rfl, by rw [HE.out, HN.out]; exact hown1, grown_alloc _ hgrow⟩

theorem index_at (s : Bs) (n : Nat) (h : n < s.length) (i : Int) (hi : i = n) (wx : World) : (Instr.index 9 (.string (bs s)) (.int .i64 i)).run Try.prog wx = .ok (.int .u8 (s[n]).toNat) wx := by
  subst hi
  rw [run_index_string _ _ _ _ _ Try.underlying9, dif_pos (by rw [bs_size]; omega)]
  rfl
theorem slice_at (s : Bs) (a b : Nat) (hab : a ≤ b) (hb : b ≤ s.length) (i j : Int) (hi : i = a) (hj : j = b) (wx : World) : (Instr.slice 9 (.string (bs s)) (some (.int .i64 i)) (some (.int .i64 j)) none).run Try.prog wx = .ok (.string (bs ((s.drop a).take (b - a)))) wx := by
  subst hi hj
  rw [run_slice_string wx 9 _ _ _ _ _ Try.underlying9 (by omega) (by omega) (by rw [bs_size]; omega), bs_extract, Int.toNat_natCast, Int.toNat_natCast]
theorem slice_from (s : Bs) (a : Nat) (ha : a ≤ s.length) (wx : World) : (Instr.slice 9 (.string (bs s)) (some (.int .i64 a)) none none).run Try.prog wx = .ok (.string (bs (s.drop a))) wx := by
  rw [run_slice_string_l wx 9 _ Try.underlying9 _ _ (by omega) (by rw [bs_size]; omega), bs_extract, Int.toNat_natCast, List.take_of_length_le]
  rw [bs_size, List.length_drop]; omega

def firstOf (s : Bs) : Int × Int := match byte1 s with | some (b, k) => ((b.toNat : Int), (k : Int)) | none => (0, 0)
def FbPost (w : World) (s : Bs) (e : Ending) (w' : World) : Prop := e = .returned (.tuple #[.int .u8 (firstOf s).1, .int .i64 (firstOf s).2]) ∧ Below w.heap.size w w'

set_option maxHeartbeats 2000000 in
theorem firstByte_short (c : UInt8) (r : Bs) (w : World) (hl : r.length ≤ 2000000) (h : plainN c.toNat = true ∨ c.toNat ≠ 92 ∨ r.length < 3) : Calls Try.prog 44 #[.string (bs (c :: r))] w (FbPost w (c :: r)) := by
  have hb := c.toNat_lt
  have hix := index_at (c :: r) 0 (by simp) 0 rfl
  have hsz := bs_size (c :: r)
  have P := Lib.hid (fun W => plain_any c.toNat (by omega) W)
  have h0 : (c :: r)[0] = c := rfl
  rw [h0] at hix
  have hlen : (c :: r).length = r.length + 1 := rfl
  by_cases hp : plainN c.toNat = true
  · have HF := Lib.hid (show firstOf (c :: r) = ((c.toNat : Int), 1) by unfold firstOf; rw [byte1_plain hp]; rfl)
    rw [hp] at P
    clear hp h h0 hlen
    generalize c.toNat = m at *
    generalize c :: r = s at *
    go_enter Try.func44, Try.ntmps44
    go_wp2_with fail
    refine (P.out _).mono ?_
    rintro e w1 ⟨rfl, rfl⟩
    go_wp2_with fail
    go_ret2
    exact ⟨by rw [HF.out]; rfl, Below.refl _ _⟩
  · have hp : plainN c.toNat = false := by simpa using hp
    have hbn : byte1 (c :: r) = none := by
      by_cases h92 : c.toNat = 92
      · exact byte1_few h92 (by
          rcases h with h | h | h
          · rw [hp] at h; cases h
          · exact absurd h92 h
          · exact h)
      · exact byte1_other hp h92
    have HF := Lib.hid (show firstOf (c :: r) = (0, 0) by unfold firstOf; rw [hbn])
    by_cases h92 : c.toNat = 92
    · have hr : (r.length : Int) + 1 < 4 := by
        rcases h with h | h | h
        · rw [hp] at h; cases h
        · exact absurd h92 h
        · omega
      rw [hp] at P
      rw [h92] at P hix
      rw [hlen] at hsz
      clear hp h hbn h0 h92 hlen
      generalize c :: r = s at *
      go_enter Try.func44, Try.ntmps44
      go_wp2_with fail
      refine (P.out _).mono ?_
      rintro e w1 ⟨rfl, rfl⟩
      go_wp2_with fail
      go_ret2
      exact ⟨by rw [HF.out]; rfl, Below.refl _ _⟩
    · have hne : ((c.toNat : Int) != 92) = true := by rw [bne_iff_ne]; omega
      rw [hp] at P
      clear hp h hbn h0 h92 hlen
      generalize c.toNat = m at *
      generalize c :: r = s at *
      go_enter Try.func44, Try.ntmps44
      go_wp2_with fail
      refine (P.out _).mono ?_
      rintro e w1 ⟨rfl, rfl⟩
      go_wp2_with fail
      go_ret2
      exact ⟨by rw [HF.out]; rfl, Below.refl _ _⟩

/-- What the loop over the three digits keeps. -/
def Dg (a1 a2 a3 k : Nat) (x : Int) : Prop :=
  (k = 0 ∧ x = 0) ∨ (k = 1 ∧ 48 ≤ a1 ∧ a1 ≤ 57 ∧ x = (a1 : Int) - 48) ∨ (k = 2 ∧ 48 ≤ a1 ∧ a1 ≤ 57 ∧ 48 ≤ a2 ∧ a2 ≤ 57 ∧ x = ((a1 : Int) - 48) * 10 + ((a2 : Int) - 48)) ∨
  (k = 3 ∧ 48 ≤ a1 ∧ a1 ≤ 57 ∧ 48 ≤ a2 ∧ a2 ≤ 57 ∧ 48 ≤ a3 ∧ a3 ≤ 57 ∧ x = (((a1 : Int) - 48) * 10 + ((a2 : Int) - 48)) * 10 + ((a3 : Int) - 48))

set_option maxHeartbeats 4000000 in
theorem firstByte_long (c d1 d2 d3 : UInt8) (r : Bs) (w : World) (hl : r.length ≤ 2000000) (h92 : c.toNat = 92) : Calls Try.prog 44 #[.string (bs (c :: d1 :: d2 :: d3 :: r))] w (FbPost w (c :: d1 :: d2 :: d3 :: r)) := by
  have hix := index_at (c :: d1 :: d2 :: d3 :: r) 0 (by simp) 0 rfl
  have h0 : (c :: d1 :: d2 :: d3 :: r)[0] = c := rfl
  rw [h0, h92] at hix
  have hsz := bs_size (c :: d1 :: d2 :: d3 :: r)
  have hlen : ¬ (((c :: d1 :: d2 :: d3 :: r).length : Int) < 4) := by simp; omega
  have P := Lib.hid (fun W => plain_any 92 (by omega) W)
  rw [show plainN 92 = false by decide] at P
  have hsl := slice_at (c :: d1 :: d2 :: d3 :: r) 1 4 (by omega) (by simp) 1 4 rfl rfl
  have e3 : ((c :: d1 :: d2 :: d3 :: r).drop 1).take (4 - 1) = [d1, d2, d3] := rfl
  rw [e3] at hsl
  obtain ⟨cap, w2, hcv, hY, hB⟩ := conv_bytes [d1, d2, d3] w
  have hb := byte1_back (d1 := d1) (d2 := d2) (d3 := d3) (r := r) h92
  have HB := Lib.hid hb
  clear hb h0 h92 e3
  generalize c :: d1 :: d2 :: d3 :: r = s at *
  have t1 := d1.toNat_lt
  have t2 := d2.toNat_lt
  have t3 := d3.toNat_lt
  have y1 : w2.cell? ⟨w.heap.size, 0, none⟩ = some (.int .u8 d1.toNat) := hY.cell 0 (by simp)
  have y2 : w2.cell? ⟨w.heap.size, 1, none⟩ = some (.int .u8 d2.toNat) := hY.cell 1 (by simp)
  have y3 : w2.cell? ⟨w.heap.size, 2, none⟩ = some (.int .u8 d3.toNat) := hY.cell 2 (by simp)
  clear hY
  have HF : Hid (firstOf s = if 48 ≤ d1.toNat ∧ d1.toNat ≤ 57 ∧ 48 ≤ d2.toNat ∧ d2.toNat ≤ 57 ∧ 48 ≤ d3.toNat ∧ d3.toNat ≤ 57 ∧ (d1.toNat - 48) * 100 + (d2.toNat - 48) * 10 + (d3.toNat - 48) ≤ 255 then ((((d1.toNat - 48) * 100 + (d2.toNat - 48) * 10 + (d3.toNat - 48) : Nat) : Int), 4) else (0, 0)) := Lib.hid (by
    unfold firstOf
    rw [HB.out]
    unfold digN
    split
    · rename_i b k h
      split at h
      · rename_i hc
        injection h with h; injection h with h1 h2
        subst h1 h2
        simp only [Bool.and_eq_true, decide_eq_true_eq] at hc
        rw [if_pos (by omega)]
        simp; omega
      · cases h
    · rename_i h
      split at h
      · cases h
      · rename_i hc
        simp only [Bool.and_eq_true, decide_eq_true_eq] at hc
        rw [if_neg (by omega)])
  clear HB
  generalize d1.toNat = a1 at *
  generalize d2.toNat = a2 at *
  generalize d3.toNat = a3 at *
  go_enter Try.func44, Try.ntmps44
  go_wp2_with fail
  refine (P.out _).mono ?_
  rintro e w1 ⟨rfl, rfl⟩
  go_wp2_with fail
  go_loop [4, 24] (fun v i => ∃ (k : Nat) (x : Int), i = .int .i64 k ∧ v = .int .i64 x ∧ Hid (Dg a1 a2 a3 k x)) (fun _ i => 3 - (intOf i).toNat)
  case atStart => exact ⟨0, 0, rfl, rfl, Lib.hid (.inl ⟨rfl, rfl⟩)⟩
  case round =>
    obtain ⟨k, x, rfl, rfl, hD⟩ := hrel
    have hD := hD.out
    rcases hD with ⟨rfl, rfl⟩ | ⟨rfl, g1, g2, hx⟩ | ⟨rfl, g1, g2, g3, g4, hx⟩ | ⟨rfl, g1, g2, g3, g4, g5, g6, hx⟩
    · by_cases hd : 48 ≤ a1 ∧ a1 ≤ 57
      · obtain ⟨g1, g2⟩ := hd
        have n1 : ¬ (a1 : Int) < 48 := by omega
        have n2 : ¬ (57 : Int) < (a1 : Int) := by omega
        go_wp2_with fail
        go_round
        case rel => exact ⟨1, _, rfl, rfl, Lib.hid (.inr (.inl ⟨rfl, g1, g2, by omega⟩))⟩
        case measure => simp [intOf]
      · have HZ := Lib.hid (HF.out.trans (if_neg (by omega)))
        clear HF
        by_cases n1 : (a1 : Int) < 48
        · go_wp2_with fail
          go_ret2
          exact ⟨by rw [HZ.out]; rfl, hB⟩
        · have n2 : (57 : Int) < (a1 : Int) := by omega
          go_wp2_with fail
          go_ret2
          exact ⟨by rw [HZ.out]; rfl, hB⟩
    · have b1 : 0 ≤ x := by omega
      have b2 : x ≤ 9 := by omega
      have HX := Lib.hid hx
      clear hx
      by_cases hd : 48 ≤ a2 ∧ a2 ≤ 57
      · obtain ⟨g3, g4⟩ := hd
        have n1 : ¬ (a2 : Int) < 48 := by omega
        have n2 : ¬ (57 : Int) < (a2 : Int) := by omega
        go_wp2_with fail
        go_round
        case rel => exact ⟨2, _, rfl, rfl, Lib.hid (.inr (.inr (.inl ⟨rfl, g1, g2, g3, g4, by have := HX.out; omega⟩)))⟩
        case measure => simp [intOf]
      · have HZ := Lib.hid (HF.out.trans (if_neg (by omega)))
        clear HF
        by_cases n1 : (a2 : Int) < 48
        · go_wp2_with fail
          go_ret2
          exact ⟨by rw [HZ.out]; rfl, hB⟩
        · have n2 : (57 : Int) < (a2 : Int) := by omega
          go_wp2_with fail
          go_ret2
          exact ⟨by rw [HZ.out]; rfl, hB⟩
    · have b1 : 0 ≤ x := by omega
      have b2 : x ≤ 99 := by omega
      have HX := Lib.hid hx
      clear hx
      by_cases hd : 48 ≤ a3 ∧ a3 ≤ 57
      · obtain ⟨g5, g6⟩ := hd
        have n1 : ¬ (a3 : Int) < 48 := by omega
        have n2 : ¬ (57 : Int) < (a3 : Int) := by omega
        go_wp2_with fail
        go_round
        case rel => exact ⟨3, _, rfl, rfl, Lib.hid (.inr (.inr (.inr ⟨rfl, g1, g2, g3, g4, g5, g6, by have := HX.out; omega⟩)))⟩
        case measure => simp [intOf]
      · have HZ := Lib.hid (HF.out.trans (if_neg (by omega)))
        clear HF
        by_cases n1 : (a3 : Int) < 48
        · go_wp2_with fail
          go_ret2
          exact ⟨by rw [HZ.out]; rfl, hB⟩
        · have n2 : (57 : Int) < (a3 : Int) := by omega
          go_wp2_with fail
          go_ret2
          exact ⟨by rw [HZ.out]; rfl, hB⟩
    · have b1 : 0 ≤ x := by omega
      by_cases hv : x ≤ 255
      · have HZ := Lib.hid (HF.out.trans (if_pos (by omega)))
        have HX := Lib.hid (show (((a1 - 48) * 100 + (a2 - 48) * 10 + (a3 - 48) : Nat) : Int) = x by omega)
        clear HF hx
        rw [HX.out] at HZ
        have n1 : ¬ (255 : Int) < x := by omega
        go_wp2_with fail
        go_ret2
        exact ⟨by rw [HZ.out]; rfl, hB⟩
      · have HZ := Lib.hid (HF.out.trans (if_neg (by omega)))
        clear HF hx
        have n1 : (255 : Int) < x := by omega
        go_wp2_with fail
        go_ret2
        exact ⟨by rw [HZ.out]; rfl, hB⟩

theorem firstByte_any (s : Bs) (w : World) (hl : s.length ≤ 1048576) (hs : s ≠ []) : Calls Try.prog 44 #[.string (bs s)] w (FbPost w s) := by
  match s, hs with
  | c :: r, _ =>
    by_cases h : plainN c.toNat = true ∨ c.toNat ≠ 92 ∨ r.length < 3
    · exact firstByte_short c r w (by simp at hl; omega) h
    · match r, h with
      | [], h => exact absurd (.inr (.inr (by simp))) h
      | [_], h => exact absurd (.inr (.inr (by simp))) h
      | [_, _], h => exact absurd (.inr (.inr (by simp))) h
      | d1 :: d2 :: d3 :: r, h => exact firstByte_long c d1 d2 d3 r w (by simp at hl; omega) (Classical.byContradiction fun e => h (.inr (.inl e)))
end Go.Proofs.Ytigpkcpdccgnfaa
