/-
  The landed rdata: split, as plain lists and as a contract; what it says of data and of the names in them.
-/
import Derived.Test.YtgfahkgnblkhaaaGreatDoorRcA
import Derived.Test.YtgfahkgnblkhaaaGreatDoorRdN
import Derived.Test.YtgfahkgnblkhaaaGreatDoorRdE
namespace Go.Proofs.YtgfahkgnblkhaaaGreatDoor
open Go.RowKit
set_option linter.unusedVariables false
set_option maxRecDepth 100000

/-- So many names off the beginning; what is left behind them. -/
def taken : Nat → Bs → Option (List Bs × Bs)
  | 0, b => some ([], b)
  | n + 1, b => if first b = [] then none else (taken n (b.drop (first b).length)).map fun p => (first b :: p.1, p.2)
/-- The names, if so many bytes are left. -/
def ends (o : Option (List Bs × Bs)) (n : Nat) : Option (List Bs) := match o with
  | none => none
  | some p => if p.2.length = n then some p.1 else none
def spl (t : Int) (l : Bs) : Option (List Bs) :=
  if (shapeP t).2.1 = 0 then some []
  else if l.length < (shapeP t).1 then none
  else ends (taken (shapeP t).2.1 (l.drop (shapeP t).1)) (shapeP t).2.2
/-- What a slice of strings lies in is a block of strings. -/
def StrT (w : World) (A : Option Addr) : Prop := ∀ p, A = some p → ∃ cs fr, w.heap[p.block]? = some (.cells cs 9 fr)
theorem StrT.none (w : World) : StrT w none := fun p h => by cases h
def SplitData (w : World) (t : Int) (l : Bs) (e : Ending) (w' : World) : Prop :=
  ∃ A c L, e = .returned (.tuple #[.slice A L.length c, .bool (spl t l).isSome]) ∧ Strs w' A L ∧ L.length ≤ c ∧ (∀ M, spl t l = some M → L = M) ∧ Below w.heap.size w w' ∧ StrT w' A

theorem first_le (b : Bs) : (first b).length ≤ b.length := by
  cases h : nameLen b with
  | none => rw [first_none h]; simp
  | some k => rw [first_some h, List.length_take]; omega

set_option maxHeartbeats 4000000 in
set_option maxRecDepth 100000 in
theorem splitData_any (t : Int) (A : Option Addr) (l : Bs) (c : Nat) (w : World) (hS : Bys w A l) (hc : l.length ≤ c) (hcm : c ≤ 9223372036854775807) (hl : l.length ≤ 65535) : Calls Tryz.prog 106 #[.int .i64 t, .slice A l.length c] w (SplitData w t l) := by
  obtain ⟨i0, hi, hz0, hz1, hz2⟩ := info_parts info_str
  obtain ⟨⟨ah, cn, bh⟩, hsh⟩ : ∃ p, p = shapeP t := ⟨_, rfl⟩
  have hb : ah ≤ 2 ∧ cn ≤ 2 ∧ bh ≤ 20 := by
    unfold shapeP at hsh
    split at hsh
    · injection hsh with h1 h2; injection h2 with h2 h3; omega
    split at hsh
    · injection hsh with h1 h2; injection h2 with h2 h3; omega
    split at hsh
    · injection hsh with h1 h2; injection h2 with h2 h3; omega
    · injection hsh with h1 h2; injection h2 with h2 h3; omega
  have SH := Lib.hid (fun w => by have := shape_any t w; rw [← hsh] at this; exact this : ∀ w, Calls Tryz.prog 121 #[.int .i64 t] w fun e w' => e = .returned (.tuple #[.int .i64 ah, .int .i64 cn, .int .i64 bh]) ∧ w = w')
  have hspl : spl t l = if cn = 0 then some [] else if l.length < ah then none else ends (taken cn (l.drop ah)) bh := by unfold spl; rw [← hsh]
  obtain ⟨R, hR⟩ : ∃ R, R = spl t l := ⟨_, rfl⟩
  rw [← hR] at hspl
  have hpost : SplitData w t l = fun e w' => ∃ A c L, e = .returned (.tuple #[.slice A L.length c, .bool R.isSome]) ∧ Strs w' A L ∧ L.length ≤ c ∧ (∀ M, R = some M → L = M) ∧ Below w.heap.size w w' ∧ StrT w' A := by rw [hR]; rfl
  rw [hpost]
  clear hpost hR hsh
  obtain ⟨hb1, hb2, hb3⟩ := hb
  by_cases h0 : cn = 0
  · rw [if_pos h0] at hspl
    subst h0
    have HS := Lib.hid hspl
    clear hspl
    go_enter Tryz.func106, Tryz.ntmps106
    go_wp2_with fail
    refine (SH.out _).mono ?_
    rintro e w1 ⟨rfl, rfl⟩
    go_wp2_with fail
    go_ret2
    exact ⟨none, 0, [], by rw [HS.out]; rfl, fun h => absurd h (by simp), by simp, fun M hM => (by rw [HS.out] at hM; injection hM), Below.refl _ _, StrT.none _⟩
  rw [if_neg h0] at hspl
  have h0' : ((cn : Int) == 0) = false := by simp; omega
  by_cases h1 : l.length < ah
  · rw [if_pos h1] at hspl
    have h1' : (l.length : Int) < (ah : Int) := by omega
    have HS := Lib.hid hspl
    clear hspl
    go_enter Tryz.func106, Tryz.ntmps106
    go_wp2_with fail
    refine (SH.out _).mono ?_
    rintro e w1 ⟨rfl, rfl⟩
    go_wp2_with fail
    go_ret2
    exact ⟨none, 0, [], by rw [HS.out]; rfl, fun h => absurd h (by simp), by simp, fun M hM => (by rw [HS.out] at hM; cases hM), Below.refl _ _, StrT.none _⟩
  rw [if_neg h1] at hspl
  have h1' : ¬ (l.length : Int) < (ah : Int) := by omega
  obtain ⟨A', hrun, S', hc'⟩ := slice_bys A l c ah ah w hS (by omega) hc rfl
  have hl' : (l.drop ah).length ≤ 65535 := by rw [List.length_drop]; omega
  generalize l.drop ah = b0 at *
  obtain ⟨c', hce⟩ : ∃ c', c' = c - ah := ⟨_, rfl⟩
  have hcm' : c' ≤ 9223372036854775807 := by omega
  rw [← hce] at hrun hc'
  have HS := Lib.hid hspl
  clear hspl hce hb3
  have hcn := h0
  clear h0
  go_enter Tryz.func106, Tryz.ntmps106
  go_wp2_with fail
  refine (SH.out _).mono ?_
  rintro e w1 ⟨rfl, rfl⟩
  clear SH
  go_wp2_with fail
  go_loopw [9, 10, 28] (fun v9 v10 v28 wr => ∃ (k : Nat) (N : List Bs) (b : Bs) (B : Option Addr) (d : Nat), v9 = .slice B b.length d ∧ v28 = .int .i64 k ∧ k ≤ cn ∧ Bys w B b ∧ b.length ≤ d ∧ d ≤ 9223372036854775807 ∧ b.length ≤ 65535 ∧ Hid (taken cn b0 = (taken (cn - k) b).map fun p => (N ++ p.1, p.2)) ∧ wr.ownsRow w.heap.size 9 1 v10 k (N.map fun x => .string (bs x)) ∧ Below w.heap.size w wr) (fun _ _ v28 _ => cn - (intOf v28).toNat)
  case atStart => exact ⟨0, [], b0, A', c', rfl, rfl, by omega, S', hc', hcm', hl', Lib.hid (by simp), World.ownsRow_nil _ _ _ _, Below.refl _ _⟩
  case round =>
    clear hS hc hcm hl hrun S' hc' hcm' hl' hb1
    obtain ⟨k, N, b, B, d, rfl, rfl, hk, SB, hbd, hdm, hbl, HT, hown, hB⟩ := hrel
    by_cases hlt : k < cn
    · have hlt' : (k : Int) < (cn : Int) := by omega
      have C := Lib.hid (fun W (hW : Bys W B b) => firstName_any B b d W hW hbd hdm hbl)
      have hstep : taken (cn - k) b = if first b = [] then none else (taken (cn - (k + 1)) (b.drop (first b).length)).map fun p => (first b :: p.1, p.2) := by
        rw [show cn - k = (cn - (k + 1)) + 1 by omega]; rfl
      have hfl := first_le b
      by_cases hn : first b = []
      · rw [if_pos hn] at hstep
        have HR := Lib.hid (show taken cn b0 = none by rw [HT.out, hstep]; rfl)
        rw [hn] at C
        clear hstep HT hfl hn
        go_wp2_with fail
        refine (C.out _ (SB.on hB)).mono ?_
        rintro e w1 ⟨rfl, b1⟩
        go_wp2_with fail
        go_ret2
        have hnone : R = none := by rw [HS.out, HR.out]; rfl
        exact ⟨none, 0, [], by rw [hnone]; rfl, fun h => absurd h (by simp), by simp, fun M hM => (by rw [hnone] at hM; cases hM), Below.trans hB (b1.mono hB.size), StrT.none _⟩
      · rw [if_neg hn] at hstep
        have hne : (first b).isEmpty = false := by rw [List.isEmpty_eq_false_iff]; exact hn
        obtain ⟨B', hrun', S2, hd'⟩ := slice_bys B b d (first b).length ((first b).length : Int) w SB hfl hbd rfl
        have hbl' : (b.drop (first b).length).length ≤ 65535 := by rw [List.length_drop]; omega
        have HX : Hid (taken cn b0 = (taken (cn - (k + 1)) (b.drop (first b).length)).map fun p => ((N ++ [first b]) ++ p.1, p.2)) := Lib.hid (by
          rw [HT.out, hstep, Option.map_map]
          congr 1
          funext p
          simp)
        have hsz : (bs (first b)).size = (first b).length := bs_size _
        generalize b.drop (first b).length = b2 at *
        generalize first b = x at *
        obtain ⟨d2, hd2⟩ : ∃ d2, d2 = d - x.length := ⟨_, rfl⟩
        have hdm2 : d2 ≤ 9223372036854775807 := by omega
        rw [← hd2] at hrun' hd'
        clear hstep HT hfl hn hd2
        go_wp2_with fail
        refine (C.out _ (SB.on hB)).mono ?_
        rintro e w1 ⟨rfl, b1⟩
        have hown1 := ownsRow_below hown b1 (Nat.le_refl _)
        have hB1 : Below w.heap.size w w1 := Below.trans hB (b1.mono hB.size)
        have hs1 := hB1.size
        clear C hB hown b1
        generalize x.length = xl at *
        go_wp2_with (at_builtin; refine wpList_append_own _ rfl _ _ 183 rfl w.heap.size 9 i0 (.string ⟨#[]⟩) 1 16 Tryz.underlying183 hi hz0 hz1 hz2 rfl (by decide) _ _ _ rfl (hown1.alloc _) ⟨w1.heap.size, 0, none⟩ 1 1 [.string (bs x)] rfl rfl ?c1 ?c2 ?c3 ?c4 ?c5 ?_)
        case c1 => exact World.news_of_block (cs := #[.string (bs x)]) (t := 9) (fr := (0, 0)) (row_new _ (by simp))
        case c2 => simp [Value.oneCell']
        case c3 => unfold maxLen; omega
        case c4 => omega
        case c5 => simp; omega
        intro v' w2 hown2 hgrow _
        have hB2 : Below w.heap.size w w2 := Below.grown (Below.alloc hB1 (by omega) _) hgrow (by simp; omega) (fun g e => (hown1.lt g e).1)
        clear hgrow hB1 hown1
        go_wp2_with fail
        go_roundw
        case rel =>
          exact ⟨k + 1, N ++ [x], b2, B', d2, rfl, by go_num, by omega, S2, hd', hdm2, hbl', HX, by simpa using hown2, hB2⟩
        case measure => simp [intOf]; omega
    · have hlt' : ¬ (k : Int) < (cn : Int) := by omega
      obtain rfl : k = cn := by omega
      have HR : Hid (taken k b0 = some (N, b)) := Lib.hid (by rw [HT.out, Nat.sub_self]; simp [taken])
      clear HT
      rcases hown.2 with ⟨rfl, hn0⟩ | ⟨g, cap, cur, rfl, hrest⟩
      · exact absurd hn0 hcn
      · obtain ⟨hNl, hst⟩ := own_strs hown
        have hcap : k ≤ cap := hrest.2.2.1
        have HTY := Lib.hid hrest.2.1
        clear hrest
        have hbe : ((b.length : Int) == (bh : Int)) = decide (b.length = bh) := by rw [Bool.eq_iff_iff]; simp; omega
        go_wp2_with fail
        go_ret2
        refine ⟨some ⟨g, 0, none⟩, cap, N, ?_, hst, by omega, ?_, hB, fun p hp => by injection hp with hp; subst hp; exact ⟨_, _, HTY.out⟩⟩
        · rw [HS.out, HR.out, ← hNl]
          by_cases hbb : b.length = bh <;> simp [ends, hbb]
        · intro M hM
          rw [HS.out, HR.out] at hM
          simp only [ends] at hM
          split at hM
          · injection hM
          · cases hM
end Go.Proofs.YtgfahkgnblkhaaaGreatDoor
