/-
  The document's reader: take, number.
  The document's reader: what the operations of a round of Decode yield.
-/
import Derived.Test.YtocbcobaodefgaaEnDb
import Derived.Test.YtocbcobaodefgaaEnDc
namespace Go.Proofs.Ytocbcobaodefgaa
open Go.RowKit
set_option linter.unusedVariables false
set_option maxRecDepth 100000

/-- The document's reader: from the first part that is wrong on it reads nothing, and what is left stays. -/
def rO (r : Rst) (n : Nat) : Bs := if r.sh = true ∨ r.l.length < n then [] else r.l.take n
def rR (r : Rst) (n : Nat) : Rst := if r.sh = true ∨ r.l.length < n then ⟨r.l, true⟩ else ⟨r.l.drop n, r.sh⟩
def over (r : Rst) : Prop := 1125899906842624 ≤ valN ((rO r 8).take 7)
instance (r : Rst) : Decidable (over r) := inferInstanceAs (Decidable (_ ≤ _))
theorem rO_bad {r : Rst} {n : Nat} (h : r.sh = true ∨ r.l.length < n) : rO r n = [] ∧ rR r n = ⟨r.l, true⟩ := ⟨if_pos h, if_pos h⟩
theorem rO_good {r : Rst} {n : Nat} (h : ¬ (r.sh = true ∨ r.l.length < n)) : rO r n = r.l.take n ∧ rR r n = ⟨r.l.drop n, r.sh⟩ := ⟨if_neg h, if_neg h⟩
theorem rO_le (r : Rst) (n : Nat) : (rO r n).length ≤ n := by
  by_cases h : r.sh = true ∨ r.l.length < n
  · rw [(rO_bad h).1]; simp
  · rw [(rO_good h).1, List.length_take]; omega
theorem take7 (t : Bs) (h : t.length = 8) : ∃ y : UInt8, valN t = valN (t.take 7) * 256 + y.toNat := by
  have h7 : 7 < t.length := by omega
  refine ⟨t[7], ?_⟩
  have : valN (t.take 8) = valN (t.take 7) * 256 + (t[7]).toNat := by rw [show (8 : Nat) = 7 + 1 from rfl, List.take_succ_eq_append_getElem h7, valN_snoc]
  rw [List.take_of_length_le (by omega)] at this
  exact this
def MR : Mach where
  O := rO
  R := rR
  E r := if over r then 0 else valN (rO r 8)
  S r := if over r then ⟨(rR r 8).l, true⟩ else rR r 8
  good r n h := by
    by_cases hb : r.sh = true ∨ r.l.length < n
    · rw [(rO_bad hb).2] at h; cases h
    · obtain ⟨h1, h2⟩ := rO_good hb
      rw [h2] at h
      rw [h1, h2]
      exact ⟨h, by simp, by simp; omega⟩
  can a l := by
    have : ¬ ((⟨a ++ l, false⟩ : Rst).sh = true ∨ (⟨a ++ l, false⟩ : Rst).l.length < a.length) := by simp
    obtain ⟨h1, h2⟩ := rO_good this
    rw [h1, h2]
    simp
  goodE r h h0 h1 := by
    by_cases ho : over r
    · rw [if_pos ho] at h; cases h
    rw [if_neg ho] at h h0 h1 ⊢
    rw [if_neg ho]
    by_cases hb : r.sh = true ∨ r.l.length < 8
    · rw [(rO_bad hb).2] at h; cases h
    obtain ⟨e1, e2⟩ := rO_good hb
    rw [e2] at h
    rw [e1] at h1 ⊢
    rw [e2]
    have hbv := big_val (r.l.take 8)
    have h8 : (r.l.take 8).length = 8 := by simp; omega
    rw [h8] at hbv
    exact ⟨_, rfl, by omega, h, by rw [hbv]; simp⟩
  canE n l hn := by
    have h8 := big_len 8 n
    have hb : ¬ ((⟨big 8 n ++ l, false⟩ : Rst).sh = true ∨ (⟨big 8 n ++ l, false⟩ : Rst).l.length < 8) := by simp [big_len]
    obtain ⟨e1, e2⟩ := rO_good hb
    have e3 : rO ⟨big 8 n ++ l, false⟩ 8 = big 8 n := by rw [e1]; exact List.take_left' h8
    have e4 : rR ⟨big 8 n ++ l, false⟩ 8 = ⟨l, false⟩ := by rw [e2]; simp only [List.drop_left' h8]
    have hv : valN (big 8 n) = n := by rw [val_big, Nat.mod_eq_of_lt (by simp; omega)]
    have ho : ¬ over ⟨big 8 n ++ l, false⟩ := by
      unfold over
      rw [e3]
      obtain ⟨y, hy⟩ := take7 (big 8 n) h8
      rw [hv] at hy
      omega
    rw [if_neg ho, if_neg ho, e3, e4, hv]
    exact ⟨rfl, rfl⟩

set_option maxHeartbeats 1000000 in
theorem take_d (W0 : World) (g : Nat) (w : World) (r : Rst) (n : Nat) (h : RDx W0 g 69 w r) (hn : n ≤ 9223372036854775807) :
    Calls Try.prog 41 #[.pointer (some ⟨g, 0, none⟩), .int .i64 n] w (TakeP W0 g 69 w (rO r n) (rR r n)) := by
  obtain ⟨A, c, hrow, ⟨hB, hle, hmx, hnil⟩, hbel, hgb⟩ := h
  obtain ⟨l, sh⟩ := r
  have c0 : w.cell? ⟨g, 0, none⟩ = some (.slice A l.length c) := (cell_of_row _ g 0 _ _ _ hrow).trans rfl
  have c1 : w.cell? ⟨g, 1, none⟩ = some (.bool sh) := (cell_of_row _ g 1 _ _ _ hrow).trans rfl
  have f0 : w.frozen? ⟨g, 0, none⟩ = false := frozen_of_row _ _ 0 _ _ hrow
  have f1 : w.frozen? ⟨g, 1, none⟩ = false := frozen_of_row _ _ 1 _ _ hrow
  by_cases hl : (⟨l, sh⟩ : Rst).sh = true ∨ (⟨l, sh⟩ : Rst).l.length < n
  · obtain ⟨e1, e2⟩ := rO_bad hl
    rw [e1, e2]
    have r1 := row_set (w := w) (g := g) (i := 1) (.bool true) hrow
    have gs : w.grownBy (w.setCell ⟨g, 1, none⟩ (.bool true)) (some g) := by
      have := grownBy_setCells g [.bool true] 1 w
      simpa [World.setCells] using this
    have HP : Hid (RDx W0 g 69 (w.setCell ⟨g, 1, none⟩ (.bool true)) ⟨l, true⟩) := Lib.hid ⟨A, c, r1, ⟨hB, hle, hmx, hnil⟩, Below.setCell hbel hgb _, hgb⟩
    clear e1 e2 hrow hB r1
    cases sh with
    | true =>
      clear hl
      go_enter Try.func41, Try.ntmps41
      go_wp2_with fail
      go_ret
      exact ⟨none, 0, rfl, Sl.none W0, HP.out, gs⟩
    | false =>
      have hl' : (l.length : Int) < (n : Int) := by
        rcases hl with h | h
        · cases h
        · simp only at h; omega
      clear hl
      go_enter Try.func41, Try.ntmps41
      go_wp2_with fail
      go_ret
      exact ⟨none, 0, rfl, Sl.none W0, HP.out, gs⟩
  · obtain ⟨e1, e2⟩ := rO_good hl
    rw [e1, e2]
    have hs : sh = false := by
      cases sh with
      | true => exact absurd (.inl rfl) hl
      | false => rfl
    subst hs
    have hl0 : ¬ l.length < n := fun h => hl (.inr h)
    have hl' : ¬ (l.length : Int) < (n : Int) := by omega
    have s1 := slice_pre A l c n n (by omega) hle rfl
    obtain ⟨A', s2, hB2, hle2, hn2⟩ := slice_bysN A l c n n W0 hB (by omega) hle rfl hnil
    have r1 := row_set (w := w) (g := g) (i := 0) (.slice A' (l.drop n).length (c - n)) hrow
    have gs : w.grownBy (w.setCell ⟨g, 0, none⟩ (.slice A' (l.drop n).length (c - n))) (some g) := by
      have := grownBy_setCells g [.slice A' (l.drop n).length (c - n)] 0 w
      simpa [World.setCells] using this
    have HP : Hid (RDx W0 g 69 (w.setCell ⟨g, 0, none⟩ (.slice A' (l.drop n).length (c - n))) ⟨l.drop n, false⟩) := Lib.hid ⟨A', c - n, r1, ⟨hB2, hle2, by omega, hn2⟩, Below.setCell hbel hgb _, hgb⟩
    have HS : Hid (Sl W0 A c (l.take n)) := Lib.hid ⟨hB.pre n, by rw [List.length_take]; exact Nat.le_trans (Nat.min_le_right _ _) hle, hmx, hnil⟩
    have hle3 : n ≤ l.length := by omega
    simp only
    generalize l.drop n = y at *
    generalize hx : l.take n = x at *
    generalize y.length = ny at *
    clear e1 e2 hl hrow hB r1 hB2 hle2 hn2 hx hl0
    go_enter Try.func41, Try.ntmps41
    go_wp2_with fail
    go_ret
    exact ⟨A, c, rfl, HS.out, HP.out, gs⟩

set_option maxHeartbeats 1000000 in
theorem number_d (W0 : World) (g : Nat) (w : World) (r : Rst) (wd : Nat) (h : RDx W0 g 69 w r) (hw : wd ≤ 6 ∨ wd = 8) :
    Calls Try.prog 40 #[.pointer (some ⟨g, 0, none⟩), .int .i64 wd] w (NumP W0 g 69 w (if 1125899906842624 ≤ valN ((rO r wd).take 7) then 0 else valN (rO r wd)) (if 1125899906842624 ≤ valN ((rO r wd).take 7) then ⟨(rR r wd).l, true⟩ else rR r wd)) := by
  have T := Lib.hid (take_d W0 g w r wd h (by omega))
  have hlen := rO_le r wd
  have hl8 : (rO r wd).length = wd ∨ (rO r wd).length = 0 := by
    by_cases hb : r.sh = true ∨ r.l.length < wd
    · rw [(rO_bad hb).1]; exact .inr rfl
    · rw [(rO_good hb).1, List.length_take]; exact .inl (by omega)
  generalize rO r wd = t at *
  generalize rR r wd = r' at *
  have hsm : ∀ k, k ≤ 6 → valN (t.take k) < 281474976710656 := fun k hk => by
    have h1 := valN_lt (t.take k)
    have h2 : (t.take k).length ≤ 6 := by rw [List.length_take]; omega
    have h3 : 256 ^ (t.take k).length ≤ 281474976710656 := Nat.le_trans (Nat.pow_le_pow_right (by decide) h2) (by decide)
    omega
  have HK : Hid (∀ k, k < t.length → 1125899906842624 ≤ valN (t.take k) → 1125899906842624 ≤ valN (t.take 7)) := Lib.hid (fun k hk h => by
    by_cases h6 : k ≤ 6
    · have := hsm k h6; omega
    · obtain rfl : k = 7 := by omega
      exact h)
  have HE : Hid ((∀ j, j < t.length → valN (t.take j) < 1125899906842624) → ¬ 1125899906842624 ≤ valN (t.take 7)) := Lib.hid (fun h => by
    by_cases h7 : 7 < t.length
    · have := h 7 h7; omega
    · have h6 : t.length ≤ 6 := by omega
      have := hsm 6 (by omega)
      rw [List.take_of_length_le (by omega)] at this ⊢
      omega)
  have HV : Hid (∀ k (h : k < t.length), valN (t.take (k + 1)) = valN (t.take k) * 256 + (t[k]).toNat) := Lib.hid (fun k h => by rw [List.take_succ_eq_append_getElem h, valN_snoc])
  have H0 : Hid (valN (t.take 0) = 0) := Lib.hid (by simp [valN])
  generalize hvv : (if 1125899906842624 ≤ valN (t.take 7) then (0 : Int) else (valN t : Int)) = vv
  generalize hst : (if 1125899906842624 ≤ valN (t.take 7) then (⟨r'.l, true⟩ : Rst) else r') = st
  have A1 := Lib.hid (fun h : 1125899906842624 ≤ valN (t.take 7) => (by rw [← hvv, if_pos h] : vv = 0))
  have A2 := Lib.hid (fun h : 1125899906842624 ≤ valN (t.take 7) => (by rw [← hst, if_pos h] : st = ⟨r'.l, true⟩))
  have A3 := Lib.hid (fun h : ¬ 1125899906842624 ≤ valN (t.take 7) => (by rw [← hvv, if_neg h] : vv = (valN t : Int)))
  have A4 := Lib.hid (fun h : ¬ 1125899906842624 ≤ valN (t.take 7) => (by rw [← hst, if_neg h] : st = r'))
  clear h hsm hvv hst
  go_enter Try.func40, Try.ntmps40
  go_wp2_with fail
  refine T.out.mono ?_
  rintro e w1 ⟨A, c, rfl, ⟨hB, hle, hmx, hnil⟩, hR, hG⟩
  have HR := Lib.hid hR
  have hB1 : Bys w1 A t := hB.on (by obtain ⟨_, _, h⟩ := hR; exact h.bel)
  obtain ⟨Ar, cr, q1, q2, q3, q4⟩ := hR
  have there := (cell_of_row _ g 1 _ _ _ q1).trans rfl
  have f1 : w1.frozen? ⟨g, 1, none⟩ = false := frozen_of_row _ _ 1 _ _ q1
  have r1 := row_set (w := w1) (g := g) (i := 1) (.bool true) q1
  have gs : w1.grownBy (w1.setCell ⟨g, 1, none⟩ (.bool true)) (some g) := by
    have := grownBy_setCells g [.bool true] 1 w1
    simpa [World.setCells] using this
  have HP : Hid (RDx W0 g 69 (w1.setCell ⟨g, 1, none⟩ (.bool true)) ⟨r'.l, true⟩) := Lib.hid ⟨Ar, cr, r1, q2, Below.setCell q3 q4 _, q4⟩
  have HG2 := Lib.hid (grown_trans hG gs (fun k hk => .inl hk))
  obtain ⟨n, hn⟩ : ∃ n, n = t.length := ⟨_, rfl⟩
  rw [← hn] at hle hlen hl8
  rw [← hn]
  have HN := Lib.hid hn
  clear hn T hB q1 q2 q3 q4 r1 gs
  go_wp2_with fail
  go_loopw [5, 12] (fun v i wr => ∃ k : Nat, i = .int .i64 k ∧ k ≤ n ∧ v = .int .i64 (valN (t.take k)) ∧ Hid (∀ j, j < k → valN (t.take j) < 1125899906842624) ∧ wr = w1) (fun _ i _ => n - (intOf i).toNat)
  case atStart => exact ⟨0, rfl, by omega, by rw [H0.out]; rfl, Lib.hid (fun j hj => absurd hj (by omega)), rfl⟩
  case round =>
    obtain ⟨k, rfl, hk, rfl, hall, rfl⟩ := hrel
    by_cases hlt : k < n
    · have hlt' : (k : Int) < (n : Int) := by omega
      have kt : k < t.length := by have := HN.out; omega
      obtain ⟨g1, o1, rfl, hc⟩ := hB1 (by omega)
      have y := hc k kt
      have hv := HV.out k kt
      have hx := (t[k]).toNat_lt
      by_cases hge : 1125899906842624 ≤ valN (t.take k)
      · have HC := Lib.hid (HK.out k kt hge)
        have hge' : (1125899906842624 : Int) ≤ (valN (t.take k) : Int) := by omega
        generalize t[k].toNat = x at *
        generalize valN (t.take k) = N at *
        clear hv hc hB1
        go_wp2_with fail
        go_ret
        exact ⟨by rw [A1.out HC.out]; rfl, by rw [A2.out HC.out]; exact HP.out, HG2.out⟩
      · have hge' : ¬ (1125899906842624 : Int) ≤ (valN (t.take k) : Int) := by omega
        have hall2 : Hid (∀ j, j < k + 1 → valN (t.take j) < 1125899906842624) := Lib.hid (fun j hj => by
          by_cases e : j = k
          · subst e; omega
          · exact hall.out j (by omega))
        have hw1 : wrap64 ((valN (t.take k) : Int) * 256) = (valN (t.take k) : Int) * 256 := by unfold wrap64; omega
        have hw2 : wrap64 ((valN (t.take k) : Int) * 256 + ((t[k]).toNat : Int)) = (valN (t.take k) : Int) * 256 + ((t[k]).toNat : Int) := by unfold wrap64; omega
        have HV2 : Hid (((valN (t.take (k + 1)) : Nat) : Int) = (valN (t.take k) : Int) * 256 + ((t[k]).toNat : Int)) := Lib.hid (by omega)
        generalize t[k].toNat = x at *
        generalize valN (t.take k) = N at *
        clear hv hc hall
        go_wp2_with fail
        go_roundw
        case rel => exact ⟨k + 1, by go_num, by omega, by rw [HV2.out], hall2, trivial⟩
        case measure => simp [intOf]; omega
    · have hlt' : ¬ (k : Int) < (n : Int) := by omega
      obtain rfl : k = n := by omega
      have htk : t.take k = t := by rw [HN.out, List.take_length]
      rw [htk]
      have HC := Lib.hid (HE.out (fun j hj => hall.out j (by have := HN.out; omega)))
      have E3 := Lib.hid (A3.out HC.out)
      clear htk hall A1 A3
      generalize valN t = Q at *
      go_wp2_with fail
      go_ret
      exact ⟨by rw [E3.out]; rfl, by rw [A4.out HC.out]; exact HR.out, hG⟩
theorem number_ds (W0 : World) (g : Nat) (w : World) (r : Rst) (wd : Nat) (h : RDx W0 g 69 w r) (hw : wd ≤ 2) :
    Calls Try.prog 40 #[.pointer (some ⟨g, 0, none⟩), .int .i64 wd] w (NumP W0 g 69 w (num MR r wd : Nat) (MR.R r wd)) := by
  have h1 := number_d W0 g w r wd h (.inl (by omega))
  have h2 := valN_lt ((rO r wd).take 7)
  have h3 : 256 ^ ((rO r wd).take 7).length ≤ 256 ^ 2 := Nat.pow_le_pow_right (by decide) (by rw [List.length_take]; have := rO_le r wd; omega)
  rw [show (256 : Nat) ^ 2 = 65536 from rfl] at h3
  have hn : ¬ 1125899906842624 ≤ valN ((rO r wd).take 7) := by omega
  rw [if_neg hn, if_neg hn] at h1
  exact h1
theorem number_dt (W0 : World) (g : Nat) (w : World) (r : Rst) (h : RDx W0 g 69 w r) :
    Calls Try.prog 40 #[.pointer (some ⟨g, 0, none⟩), .int .i64 8] w (NumP W0 g 69 w (MR.E r) (MR.S r)) := number_d W0 g w r 8 h (.inr rfl)
end Go.Proofs.Ytocbcobaodefgaa
namespace Go.Proofs.Ytocbcobaodefgaa
open Go.RowKit
set_option linter.unusedVariables false
set_option maxRecDepth 100000

theorem MR_bd (r : Rst) (wd : Nat) (hw : wd ≤ 2) : num MR r wd < 65536 := by
  have h2 := valN_lt (rO r wd)
  have h3 : 256 ^ (rO r wd).length ≤ 256 ^ 2 := Nat.pow_le_pow_right (by decide) (Nat.le_trans (rO_le r wd) hw)
  have h4 : num MR r wd = valN (rO r wd) := rfl
  rw [show (256 : Nat) ^ 2 = 65536 from rfl] at h3
  omega
theorem MR_prt (r : Rst) (wd : Nat) (hw : wd ≤ 2) : (prt MR r wd).length ≤ 65535 := by
  have h1 := rO_le (MR.R r wd) (num MR r wd)
  have h2 := MR_bd r wd hw
  have : prt MR r wd = rO (MR.R r wd) (num MR r wd) := rfl
  rw [this]; omega
theorem take_dp (W0 : World) (g : Nat) (w : World) (r : Rst) (wd : Nat) (hw : wd ≤ 2) (h : RDx W0 g 69 w (MR.R r wd)) :
    Calls Try.prog 41 #[.pointer (some ⟨g, 0, none⟩), .int .i64 (num MR r wd : Nat)] w (TakeP W0 g 69 w (prt MR r wd) (prtR MR r wd)) :=
  take_d W0 g w (MR.R r wd) (num MR r wd) h (by have := MR_bd r wd hw; omega)

def preD (i j : Nat) : Prop := (i = 9 ∧ j = 8) ∨ (i = 10 ∧ (j = 8 ∨ j = 9)) ∨ (i = 11 ∧ (j = 8 ∨ j = 9 ∨ j = 10)) ∨ (i = 12 ∧ (j = 8 ∨ j = 9 ∨ j = 10 ∨ j = 11))
def SD (W0 : World) (g q : Nat) (sl : Value) (x : Bs) (n2 : Nat) : Nat → Value → Prop
  | 0, v => v = .pointer (some ⟨q, 1, none⟩)
  | 1, v => v = .pointer (some ⟨q, 1, none⟩)
  | 2, v => v = .pointer (some ⟨q, 1, none⟩)
  | 3, v => v = .pointer (some ⟨q, 8, none⟩)
  | 4, v => v = sl
  | 6, v => v = .pointer (some ⟨g, 0, none⟩)
  | 7, v => v = .pointer (some ⟨g, 0, none⟩)
  | 8, v => v = .int .i64 n2
  | 9, v => ∃ A c, v = .slice A x.length c ∧ Sl W0 A c x
  | 10, v => ∃ A c, v = .slice A x.length c
  | 13, v => v = .pointer (some ⟨q, 1, none⟩)
  | 14, v => v = .pointer (some ⟨q, 8, none⟩)
  | _, _ => True
def RD2 (W0 : World) (g B Mx : Nat) (T : TypeId) (x : Bs) (ds : List Bs) (r1 rn : Rst) : Nat → Value → World → Prop
  | 5, v, w => OwnB w Mx v []
  | 8, _, w => RDx W0 g T w r1
  | 9, _, w => RDx W0 g T w rn
  | 10, v, w => OwnB w Mx v x
  | 11, v, w => ∃ p y, v = .slice (some ⟨p, 0, none⟩) 1 1 ∧ w.heap[p]? = some (.cells #[y] 22 (0, 0)) ∧ Mx ≤ p ∧ y.oneCell' = true ∧ OwnB w Mx y x
  | 12, v, w => ∃ xs, w.ownsRow B 22 1 v (ds.length + 1) xs ∧ RowsO w B v.ownBlock xs (ds ++ [x])
  | _, _, _ => True
def killRD (i : Nat) : Nat := if i = 5 then 10 else if i = 8 then 9 else 100
def RelD (g Mx : Nat) (sl : Value) (j : Nat) (w w' : World) : Prop := if j = 8 ∨ j = 9 then w.grownBy w' (some g) else if j = 10 then ∃ r, w.grownBy w' r ∧ ∀ k, r = some k → Mx ≤ k else if j = 12 then w.grownBy w' sl.ownBlock else Below w.heap.size w w'
def FD (pz : Nat) (oz : Obj) (wr : World) (W0 : World) (g q B : Nat) (T : TypeId) (C : Array Value) (rk : Rst) : Nat → World → Prop
  | 0, w => RDx W0 g T w rk
  | 1, w => wr.grownBy w (some g)
  | 2, w => w.heap[q]? = some (.cells C 28 (0, 0)) ∧ B ≤ w.heap.size ∧ wr.heap.size ≤ w.heap.size
  | 3, w => w.heap[pz]? = some oz
  | _, _ => True
def killD (m : Nat) : Nat := if m = 0 then 8 else if m = 1 then 12 else 100
def dD (i : Nat) : Nat := 69 + i

theorem RDx.gr {W0 : World} {g : Nat} {T : TypeId} {w w' : World} {x : Rst} {r : Option Nat} (h : RDx W0 g T w x) (hg : w.grownBy w' r) (hr : ∀ k, r = some k → W0.heap.size ≤ k ∧ k ≠ g) : RDx W0 g T w' x := by
  cases r with
  | none => exact h.on ⟨hg.os, hg.tape, hg.output, hg.size, fun k hk => hg.block k hk (by simp)⟩
  | some k => exact h.other hg (hr k rfl).1 (hr k rfl).2
theorem OwnB.away {w w' : World} {B : Nat} {v : Value} {x : Bs} {r : Option Nat} (h : OwnB w B v x) (hg : w.grownBy w' r) (hr : ∀ k, r = some k → k < B) : OwnB w' B v x := h.kept hg (by
  cases hv : v.ownBlock with
  | none => exact .inl rfl
  | some k => exact .inr (fun e => by have := (h.lt k hv).1; have := hr k e.symm; omega))
theorem RD2_st {W0 : World} {g B Mx : Nat} {T : TypeId} {sl : Value} {x : Bs} {ds : List Bs} {r1 rn : Rst} (hgM : g < Mx) (hW : W0.heap.size ≤ Mx) (hsl : ∀ k, sl.ownBlock = some k → W0.heap.size ≤ k ∧ k ≠ g ∧ k < Mx) (i j : Nat) (v : Value) (w w' : World) (hij : i ≠ j) (hp : ¬ preD i j) (hk : j ≠ killRD i) (hr : RelD g Mx sl j w w') (h : RD2 W0 g B Mx T x ds r1 rn i v w) : RD2 W0 g B Mx T x ds r1 rn i v w' := by
  unfold RelD at hr
  have frd : ∀ {y : Rst}, j ≠ 8 → j ≠ 9 → RDx W0 g T w y → RDx W0 g T w' y := fun h8 h9 hy => by
    rw [if_neg (by omega)] at hr
    split at hr
    · obtain ⟨r, hg, hr⟩ := hr
      exact hy.gr hg (fun k e => by have := hr k e; omega)
    split at hr
    · exact hy.gr hr (fun k e => ⟨(hsl k e).1, (hsl k e).2.1⟩)
    · exact hy.on hr
  have fow : ∀ {y : Bs} {v : Value}, j ≠ 10 → OwnB w Mx v y → OwnB w' Mx v y := fun h10 hy => by
    split at hr
    · exact hy.away hr (fun k e => by injection e with e; omega)
    split at hr
    · exact hy.away hr (fun k e => (hsl k e).2.2)
    · exact hy.below hr (Nat.le_refl _)
  match i, h with
  | 0, h => trivial
  | 1, h => trivial
  | 2, h => trivial
  | 3, h => trivial
  | 4, h => trivial
  | 6, h => trivial
  | 7, h => trivial
  | _ + 13, _ => trivial
  | 5, h => exact fow (by simpa [killRD] using hk) h
  | 8, h => exact frd (fun e => hij e.symm) (by simpa [killRD] using hk) h
  | 9, h => exact frd (fun e => hp (by subst e; simp [preD])) (fun e => hij e.symm) h
  | 10, h => exact fow (fun e => hij e.symm) h
  | 11, ⟨p, y, h1, h2, h3, h4, h5⟩ =>
    have h10 : j ≠ 10 := fun e => hp (by subst e; simp [preD])
    have hpl := (Array.getElem?_eq_some_iff.1 h2).1
    refine ⟨p, y, h1, ?_, h3, h4, fow h10 h5⟩
    split at hr
    · exact (hr.block p hpl (fun e => by injection e with e; omega)).trans h2
    split at hr
    · exact (hr.block p hpl (fun e => by have := (hsl p e.symm).2.2; omega)).trans h2
    · exact (hr.block p hpl).trans h2
  | 12, ⟨xs, h1, h2⟩ =>
    have h8 : ¬ (j = 8 ∨ j = 9) := fun e => hp (by rcases e with e | e <;> (subst e; simp [preD]))
    have h10 : j ≠ 10 := fun e => hp (by subst e; simp [preD])
    rw [if_neg h8, if_neg h10, if_neg (fun e => hij e.symm)] at hr
    exact ⟨xs, ownsRow_below h1 hr (Nat.le_refl _), h2.below hr⟩
theorem FD_st {pz : Nat} {oz : Obj} {wr : World} {W0 : World} {g q B : Nat} {T : TypeId} {sl : Value} {C : Array Value} {rk : Rst} (hgM : g < wr.heap.size) (hqM : q < wr.heap.size) (hW : W0.heap.size ≤ wr.heap.size) (hpz : pz < wr.heap.size ∧ pz ≠ g) (hgne : q ≠ g) (hsl : ∀ k, sl.ownBlock = some k → W0.heap.size ≤ k ∧ k ≠ g ∧ k ≠ q ∧ k ≠ pz) (m j : Nat) (w w' : World) (hm : j ≠ killD m) (hp : preD j (killD m) → 15 ≤ killD m) (hr : RelD g wr.heap.size sl j w w') (h : FD pz oz wr W0 g q B T C rk m w) : FD pz oz wr W0 g q B T C rk m w' := by
  unfold RelD at hr
  match m, h with
  | 0, h =>
    have h9 : j ≠ 9 := fun e => by subst e; have := hp (by simp [preD, killD]); simp [killD] at this
    have h8 : j ≠ 8 := by simpa [killD] using hm
    rw [if_neg (by omega)] at hr
    split at hr
    · obtain ⟨r, hg, hr⟩ := hr
      exact RDx.gr h hg (fun k e => by have := hr k e; omega)
    split at hr
    · exact RDx.gr h hr (fun k e => ⟨(hsl k e).1, (hsl k e).2.1⟩)
    · exact RDx.on h hr
  | 1, h =>
    have h12 : j ≠ 12 := by simpa [killD] using hm
    split at hr
    · exact grown_trans h hr (fun k e => .inl e)
    split at hr
    · obtain ⟨r, hg, hr⟩ := hr
      exact grown_trans h hg (fun k e => .inr (hr k e))
    exact grown_trans h (grown_of_below hr none) (fun k e => by cases e)
  | 2, ⟨h1, h2, h3⟩ =>
    have hq := (Array.getElem?_eq_some_iff.1 h1).1
    split at hr
    · exact ⟨(hr.block q hq (fun e => by injection e with e; exact hgne e)).trans h1, Nat.le_trans h2 hr.size, Nat.le_trans h3 hr.size⟩
    split at hr
    · obtain ⟨r, hg, hr⟩ := hr
      exact ⟨(hg.block q hq (fun e => by have := hr q e.symm; omega)).trans h1, Nat.le_trans h2 hg.size, Nat.le_trans h3 hg.size⟩
    split at hr
    · exact ⟨(hr.block q hq (fun e => (hsl q e.symm).2.2.1 rfl)).trans h1, Nat.le_trans h2 hr.size, Nat.le_trans h3 hr.size⟩
    · exact ⟨(hr.block q hq).trans h1, Nat.le_trans h2 hr.size, Nat.le_trans h3 hr.size⟩
  | 3, h =>
    have hq := (Array.getElem?_eq_some_iff.1 h).1
    split at hr
    · exact (hr.block pz hq (fun e => by injection e with e; exact hpz.2 e)).trans h
    split at hr
    · obtain ⟨r, hg, hr⟩ := hr
      exact (hg.block pz hq (fun e => by have := hr pz e.symm; omega)).trans h
    split at hr
    · exact (hr.block pz hq (fun e => (hsl pz e.symm).2.2.2 rfl)).trans h
    · exact (hr.block pz hq).trans h
  | _ + 4, _ => trivial
/-- Nothing is appended to what there is. -/
theorem run_app_sl {w W0 : World} {base : Nat} {v : Value} {A : Option Addr} {c : Nat} {x : Bs} (ty : TypeId) (hown : OwnB w base v []) (hs : Sl W0 A c x) (hb : Below W0.heap.size W0 w) (hx : x.length ≤ 140737488355328) (hbase : base ≤ w.heap.size) :
    ∃ v' w', (Builtin.append_ #[22, 22] ty #[v, .slice A x.length c]).run Try.prog w = .ok v' w' ∧ OwnB w' base v' x ∧ w.grownBy w' v.ownBlock := by
  cases A with
  | none =>
    have hc := hs.nil rfl
    have hl : x = [] := by have := hs.le; exact List.length_eq_zero_iff.1 (by omega)
    subst hl hc
    exact ⟨v, w, run_append_nilB ty hown, hown, grown_refl _ _⟩
  | some ad => exact (run_append_bys ty hown ad c x.length x rfl _ rfl (news_bys (hs.bys.on hb)) (by simpa using hx) hbase)
end Go.Proofs.Ytocbcobaodefgaa
