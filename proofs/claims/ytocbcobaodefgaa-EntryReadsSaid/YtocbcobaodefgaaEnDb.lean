/-
  The landed reader: take, number, part.
-/
import Derived.Test.YtocbcobaodefgaaEnDa
import Derived.Test.YtocbcobaodefgaaEnV
import Derived.Test.YtocbcobaodefgaaHdB
namespace Go.Proofs.Ytocbcobaodefgaa
open Go.RowKit
set_option linter.unusedVariables false
set_option maxRecDepth 100000

theorem slice_bysN (A : Option Addr) (l : Bs) (c k : Nat) (i : Int) (w : World) (hS : Bys w A l) (hk : k ≤ l.length) (hc : l.length ≤ c) (hi : i = k) (hn : A = none → c = 0) : ∃ A', (∀ w : World, (Instr.slice 22 (.slice A l.length c) (some (.int .i64 i)) none none).run Try.prog w = .ok (.slice A' (l.drop k).length (c - k)) w) ∧ Bys w A' (l.drop k) ∧ (l.drop k).length ≤ c - k ∧ (A' = none → c - k = 0) := by
  subst hi
  refine ⟨_, fun w => ?_, hS.cut (k := k) hc, by rw [List.length_drop]; omega, fun h => ?_⟩
  · rw [run_slice_l w 22 A l.length c (by rw [elem_bytes]; exact Try.underlying22) _ _ (by omega) (by omega), elem_bytes, size_u8]
    simp [sliced]
  · split at h
    · omega
    · cases A with
      | none => have := hn rfl; omega
      | some a => cases h

/-- Bytes of the argument, a slice of them. -/
structure Sl (W0 : World) (A : Option Addr) (c : Nat) (l : Bs) : Prop where
  bys : Bys W0 A l
  le : l.length ≤ c
  max : c ≤ 9223372036854775807
  nil : A = none → c = 0
theorem Sl.none (W0 : World) : Sl W0 none 0 [] := ⟨fun h => absurd h (by simp), Nat.le_refl _, by omega, fun _ => rfl⟩
/-- A reader's cells. -/
structure RD (W0 : World) (g : Nat) (T : TypeId) (w : World) (r : Rst) (A : Option Addr) (c : Nat) : Prop where
  row : w.heap[g]? = some (.cells #[.slice A r.l.length c, .bool r.sh] T (0, 0))
  sl : Sl W0 A c r.l
  bel : Below W0.heap.size W0 w
  gb : W0.heap.size ≤ g
def RDx (W0 : World) (g : Nat) (T : TypeId) (w : World) (r : Rst) : Prop := ∃ A c, RD W0 g T w r A c
theorem RDx.on {W0 : World} {g : Nat} {T : TypeId} {w w' : World} {r : Rst} (h : RDx W0 g T w r) (hB : Below w.heap.size w w') : RDx W0 g T w' r := by
  obtain ⟨A, c, h1, h2, h3, h4⟩ := h
  exact ⟨A, c, (hB.block _ (Array.getElem?_eq_some_iff.1 h1).1).trans h1, h2, Below.trans h3 (hB.mono h3.size), h4⟩
theorem RDx.other {W0 : World} {g q : Nat} {T : TypeId} {w w' : World} {r : Rst} (h : RDx W0 g T w r) (hg : w.grownBy w' (some q)) (hq : W0.heap.size ≤ q) (hne : q ≠ g) : RDx W0 g T w' r := by
  obtain ⟨A, c, h1, h2, h3, h4⟩ := h
  exact ⟨A, c, (hg.block _ (Array.getElem?_eq_some_iff.1 h1).1 (fun e => by injection e with e; exact hne e.symm)).trans h1, h2, h3.grown hg h3.size (fun k e => by injection e with e; omega), h4⟩

def ML : Mach where
  O r n := if r.l.length < n then [] else r.l.take n
  R r n := if r.l.length < n then ⟨[], true⟩ else ⟨r.l.drop n, r.sh⟩
  E r := wrap64 (valN (if r.l.length < 8 then [] else r.l.take 8))
  S r := if r.l.length < 8 then ⟨[], true⟩ else ⟨r.l.drop 8, r.sh⟩
  good r n h := by
    by_cases hl : r.l.length < n
    · rw [if_pos hl] at h; cases h
    · rw [if_neg hl] at h ⊢
      rw [if_neg hl]
      exact ⟨h, by simp, by simp; omega⟩
  can a l := by
    have : ¬ (a ++ l).length < a.length := by simp
    simp only [if_neg this]
    simp
  goodE r h h0 h1 := by
    by_cases hl : r.l.length < 8
    · rw [if_pos hl] at h; cases h
    · rw [if_neg hl] at h h0 h1 ⊢
      rw [if_neg hl]
      have hv := valN_lt (r.l.take 8)
      have hb := big_val (r.l.take 8)
      have h8 : (r.l.take 8).length = 8 := by simp; omega
      rw [h8] at hv hb
      have he : wrap64 (valN (r.l.take 8) : Int) = valN (r.l.take 8) := by unfold wrap64 at *; omega
      rw [he] at h1
      exact ⟨_, he, by omega, h, by rw [hb]; simp⟩
  canE n l hn := by
    have h8 := big_len 8 n
    have : ¬ (big 8 n ++ l).length < 8 := by simp [big_len]
    simp only [if_neg this]
    rw [List.take_left' h8, List.drop_left' h8, val_big, Nat.mod_eq_of_lt (by simp; omega)]
    exact ⟨by unfold wrap64; omega, rfl⟩
theorem ML_short {r : Rst} {n : Nat} (h : r.l.length < n) : ML.O r n = [] ∧ ML.R r n = ⟨[], true⟩ := ⟨if_pos h, if_pos h⟩
theorem ML_long {r : Rst} {n : Nat} (h : ¬ r.l.length < n) : ML.O r n = r.l.take n ∧ ML.R r n = ⟨r.l.drop n, r.sh⟩ := ⟨if_neg h, if_neg h⟩
theorem ML_le (r : Rst) (n : Nat) : (ML.O r n).length ≤ n := by
  by_cases h : r.l.length < n
  · rw [(ML_short h).1]; simp
  · rw [(ML_long h).1, List.length_take]; omega

def TakeP (W0 : World) (g : Nat) (T : TypeId) (w : World) (x : Bs) (r : Rst) (e : Ending) (w' : World) : Prop := ∃ A c, e = .returned (.slice A x.length c) ∧ Sl W0 A c x ∧ RDx W0 g T w' r ∧ w.grownBy w' (some g)

set_option maxHeartbeats 1000000 in
theorem take_any (W0 : World) (g : Nat) (w : World) (r : Rst) (n : Nat) (h : RDx W0 g 61 w r) (hn : n ≤ 9223372036854775807) :
    Calls Try.prog 67 #[.pointer (some ⟨g, 0, none⟩), .int .i64 n] w (TakeP W0 g 61 w (ML.O r n) (ML.R r n)) := by
  obtain ⟨A, c, hrow, ⟨hB, hle, hmx, hnil⟩, hbel, hgb⟩ := h
  obtain ⟨l, sh⟩ := r
  have c0 : w.cell? ⟨g, 0, none⟩ = some (.slice A l.length c) := (cell_of_row _ g 0 _ _ _ hrow).trans rfl
  have c1 : w.cell? ⟨g, 1, none⟩ = some (.bool sh) := (cell_of_row _ g 1 _ _ _ hrow).trans rfl
  have f0 : w.frozen? ⟨g, 0, none⟩ = false := frozen_of_row _ _ 0 _ _ hrow
  have f1 : w.frozen? ⟨g, 1, none⟩ = false := frozen_of_row _ _ 1 _ _ hrow
  by_cases hl : l.length < n
  · have hl' : (l.length : Int) < (n : Int) := by omega
    obtain ⟨e1, e2⟩ := ML_short (r := ⟨l, sh⟩) hl
    rw [e1, e2]
    have r1 := row_set (w := w.setCell ⟨g, 0, none⟩ (.slice none 0 0)) (g := g) (i := 1) (.bool true) (row_set (i := 0) (.slice none 0 0) hrow)
    have gs : w.grownBy ((w.setCell ⟨g, 0, none⟩ (.slice none 0 0)).setCell ⟨g, 1, none⟩ (.bool true)) (some g) := by
      have := grownBy_setCells g [.slice none 0 0, .bool true] 0 w
      simpa [World.setCells] using this
    have HP : Hid (RDx W0 g 61 ((w.setCell ⟨g, 0, none⟩ (.slice none 0 0)).setCell ⟨g, 1, none⟩ (.bool true)) ⟨[], true⟩) := Lib.hid ⟨none, 0, r1, Sl.none W0, Below.setCell (Below.setCell hbel hgb _) hgb _, hgb⟩
    clear e1 e2 hl hrow hB r1
    go_enter Try.func67, Try.ntmps67
    go_wp2_with fail
    go_ret
    exact ⟨none, 0, rfl, Sl.none W0, HP.out, gs⟩
  · have hl' : ¬ (l.length : Int) < (n : Int) := by omega
    obtain ⟨e1, e2⟩ := ML_long (r := ⟨l, sh⟩) hl
    rw [e1, e2]
    have s1 := slice_pre A l c n n (by omega) hle rfl
    obtain ⟨A', s2, hB2, hle2, hn2⟩ := slice_bysN A l c n n W0 hB (by omega) hle rfl hnil
    have r1 := row_set (w := w) (g := g) (i := 0) (.slice A' (l.drop n).length (c - n)) hrow
    have gs : w.grownBy (w.setCell ⟨g, 0, none⟩ (.slice A' (l.drop n).length (c - n))) (some g) := by
      have := grownBy_setCells g [.slice A' (l.drop n).length (c - n)] 0 w
      simpa [World.setCells] using this
    have HP : Hid (RDx W0 g 61 (w.setCell ⟨g, 0, none⟩ (.slice A' (l.drop n).length (c - n))) ⟨l.drop n, sh⟩) := Lib.hid ⟨A', c - n, r1, ⟨hB2, hle2, by omega, hn2⟩, Below.setCell hbel hgb _, hgb⟩
    have HS : Hid (Sl W0 A c (l.take n)) := Lib.hid ⟨hB.pre n, by rw [List.length_take]; exact Nat.le_trans (Nat.min_le_right _ _) hle, hmx, hnil⟩
    have hle3 : n ≤ l.length := by omega
    generalize l.drop n = y at *
    generalize hx : l.take n = x at *
    generalize y.length = ny at *
    clear e1 e2 hl hrow hB r1 hB2 hle2 hn2 hx
    go_enter Try.func67, Try.ntmps67
    go_wp2_with fail
    go_ret
    exact ⟨A, c, rfl, HS.out, HP.out, gs⟩

theorem or_wrap (n y : Nat) (hn : n < 72057594037927936) (hy : y < 256) : bits .or .i64 (wrap64 ((n : Int) * 256)) (y : Int) = wrap64 ((n * 256 + y : Nat) : Int) := by
  have h1 : BitVec.ofInt 64 (wrap64 ((n : Int) * 256)) = BitVec.ofNat 64 (n * 256) := by
    apply BitVec.eq_of_toNat_eq
    rw [BitVec.toNat_ofInt, BitVec.toNat_ofNat]
    unfold wrap64
    omega
  have h2 : (n * 256 ||| y) = n * 256 + y := by
    rw [Nat.mul_comm]
    exact (Nat.two_pow_add_eq_or_of_lt (i := 8) hy n).symm
  have h3 : n * 256 < 18446744073709551616 := by omega
  unfold bits
  change IntKind.i64.wrap (((BitVec.ofInt 64 (wrap64 ((n : Int) * 256)) ||| BitVec.ofInt 64 (y : Int)).toNat : Nat) : Int) = _
  rw [h1, BitVec.ofInt_natCast, BitVec.toNat_or, BitVec.toNat_ofNat, BitVec.toNat_ofNat, Nat.mod_eq_of_lt h3, Nat.mod_eq_of_lt (by omega), h2, IntKind.wrap_i64]
  unfold wrap64
  omega
def NumP (W0 : World) (g : Nat) (T : TypeId) (w : World) (v : Int) (r : Rst) (e : Ending) (w' : World) : Prop := e = .returned (.int .i64 v) ∧ RDx W0 g T w' r ∧ w.grownBy w' (some g)

set_option maxHeartbeats 1000000 in
theorem number_any (W0 : World) (g : Nat) (w : World) (r : Rst) (wd : Nat) (h : RDx W0 g 61 w r) (hw : wd ≤ 8) :
    Calls Try.prog 36 #[.pointer (some ⟨g, 0, none⟩), .int .i64 wd] w (NumP W0 g 61 w (wrap64 (valN (ML.O r wd))) (ML.R r wd)) := by
  have T := Lib.hid (take_any W0 g w r wd h (by omega))
  have hlen := ML_le r wd
  generalize ML.O r wd = t at *
  generalize ML.R r wd = r' at *
  clear h
  have H0 : Hid (Value.int .i64 0 = .int .i64 (wrap64 (valN (t.take 0)))) := Lib.hid (by simp [valN, wrap64])
  go_enter Try.func36, Try.ntmps36
  go_wp2_with fail
  refine T.out.mono ?_
  rintro e w1 ⟨A, c, rfl, ⟨hB, hle, hmx, hnil⟩, hR, hG⟩
  have HR := Lib.hid hR
  have hB1 : Bys w1 A t := hB.on (by obtain ⟨_, _, h⟩ := hR; exact h.bel)
  obtain ⟨n, hn⟩ : ∃ n, n = t.length := ⟨_, rfl⟩
  rw [← hn] at hle hlen
  rw [← hn]
  have HN := Lib.hid hn
  clear hn hR T
  go_wp2_with fail
  go_loop [5, 12] (fun v i => ∃ k : Nat, i = .int .i64 k ∧ k ≤ n ∧ v = .int .i64 (wrap64 (valN (t.take k)))) (fun _ i => n - (intOf i).toNat)
  case atStart => exact ⟨0, rfl, by omega, H0.out⟩
  case round =>
    obtain ⟨k, rfl, hk, rfl⟩ := hrel
    clear H0
    by_cases hlt : k < n
    · have hlt' : (k : Int) < (n : Int) := by omega
      have kt : k < t.length := by have := HN.out; omega
      obtain ⟨g1, o1, rfl, hc⟩ := hB1 (by omega)
      have y := hc k kt
      have hv : valN (t.take (k + 1)) = valN (t.take k) * 256 + (t[k]).toNat := by rw [List.take_succ_eq_append_getElem kt, valN_snoc]
      have hb : valN (t.take k) < 72057594037927936 := by
        have h1 := valN_lt (t.take k)
        have h2 : (t.take k).length ≤ 7 := by rw [List.length_take]; omega
        have h3 : 256 ^ (t.take k).length ≤ 72057594037927936 := Nat.le_trans (Nat.pow_le_pow_right (by decide) h2) (by decide)
        omega
      have hx := (t[k]).toNat_lt
      have HO := or_wrap _ _ hb hx
      have hwr : wrap64 (valN (t.take k) : Int) = valN (t.take k) := by unfold wrap64; omega
      rw [← hv] at HO
      have HV := Lib.hid hwr
      rw [hwr]
      generalize t[k].toNat = x at *
      generalize valN (t.take k) = N at *
      generalize hM : wrap64 (valN (t.take (k + 1)) : Int) = Q at *
      have HM := Lib.hid hM
      clear hv hwr hM hc
      go_wp2_with fail
      go_round
      case rel => exact ⟨k + 1, by go_num, by omega, by rw [HM.out]⟩
      case measure => simp [intOf]; omega
    · have hlt' : ¬ (k : Int) < (n : Int) := by omega
      obtain rfl : k = n := by omega
      have htk : t.take k = t := by rw [HN.out, List.take_length]
      rw [htk]
      clear htk
      generalize wrap64 (valN t : Int) = Q at *
      go_wp2_with fail
      go_ret
      exact ⟨rfl, HR.out, hG⟩
theorem number_small (W0 : World) (g : Nat) (w : World) (r : Rst) (wd : Nat) (h : RDx W0 g 61 w r) (hw : wd ≤ 2) :
    Calls Try.prog 36 #[.pointer (some ⟨g, 0, none⟩), .int .i64 wd] w (NumP W0 g 61 w (num ML r wd : Nat) (ML.R r wd)) := by
  have h1 := number_any W0 g w r wd h (by omega)
  have h2 := valN_lt (ML.O r wd)
  have h3 : 256 ^ (ML.O r wd).length ≤ 256 ^ 2 := Nat.pow_le_pow_right (by decide) (Nat.le_trans (ML_le r wd) hw)
  simp at h3
  have e : wrap64 (valN (ML.O r wd) : Int) = (num ML r wd : Nat) := by unfold num wrap64; omega
  rw [e] at h1
  exact h1
theorem num_bd (r : Rst) (wd : Nat) (hw : wd ≤ 2) : num ML r wd < 65536 := by
  have h2 := valN_lt (ML.O r wd)
  have h3 : 256 ^ (ML.O r wd).length ≤ 256 ^ 2 := Nat.pow_le_pow_right (by decide) (Nat.le_trans (ML_le r wd) hw)
  simp at h3
  unfold num; omega

set_option maxHeartbeats 1000000 in
theorem part_any (W0 : World) (g : Nat) (w : World) (r : Rst) (wd : Nat) (h : RDx W0 g 61 w r) (hw : wd ≤ 2) :
    Calls Try.prog 37 #[.pointer (some ⟨g, 0, none⟩), .int .i64 wd] w (TakeP W0 g 61 w (prt ML r wd) (prtR ML r wd)) := by
  have T1 := Lib.hid (number_small W0 g w r wd h hw)
  have hb := num_bd r wd hw
  have T2 := Lib.hid (fun w1 (h1 : RDx W0 g 61 w1 (ML.R r wd)) => take_any W0 g w1 (ML.R r wd) (num ML r wd) h1 (by omega))
  have e1 : prt ML r wd = ML.O (ML.R r wd) (num ML r wd) := rfl
  have e2 : prtR ML r wd = ML.R (ML.R r wd) (num ML r wd) := rfl
  rw [e1, e2]
  clear e1 e2 h
  go_enter Try.func37, Try.ntmps37
  go_wp2_with fail
  refine T1.out.mono ?_
  rintro e w1 ⟨rfl, h1, g1⟩
  go_wp2_with fail
  refine (T2.out w1 h1).mono ?_
  rintro e w2 ⟨A, c, rfl, hs, h2, g2⟩
  have hG := grown_trans g1 g2 (fun k hk => .inl hk)
  go_wp2_with fail
  go_ret
  exact ⟨A, c, rfl, hs, h2, hG⟩
end Go.Proofs.Ytocbcobaodefgaa
