/-
  The landed rdata: split, as plain lists and as a contract; what it says of data and of the names in them.
  The landed rdata: Can, Names.
-/
import Derived.Test.YtknpkifhkefikaaDoorWa
import Derived.Test.YtknpkifhkefikaaDoorWc
import Derived.Test.YtknpkifhkefikaaDoorGb
namespace Go.Proofs.YtknpkifhkefikaaDoor
open Go.RowKit
set_option linter.unusedVariables false
set_option maxRecDepth 100000

/-- So many names off the beginning; what is left behind them. -/
def taken : Nat → Bs → Option (List Bs × Bs)
  | 0, b => some ([], b)
  | n + 1, b => if first b = [] then none else (taken n (b.drop (first b).length)).map fun p => (first b :: p.1, p.2)
/-- The names, if so many bytes are left. -/
def ends (o : Option (List Bs × Bs)) (n : Nat) : Option (List Bs) := match o with
  | none => none
  | some p => if p.2.length = n then some p.1 else none
def spl (t : Int) (l : Bs) : Option (List Bs) :=
  if (shapeP t).2.1 = 0 then some []
  else if l.length < (shapeP t).1 then none
  else ends (taken (shapeP t).2.1 (l.drop (shapeP t).1)) (shapeP t).2.2
/-- What a slice of strings lies in is a block of strings. -/
def StrT (w : World) (A : Option Addr) : Prop := ∀ p, A = some p → ∃ cs fr, w.heap[p.block]? = some (.cells cs 9 fr)
theorem StrT.none (w : World) : StrT w none := fun p h => by cases h
def SplitData (w : World) (t : Int) (l : Bs) (e : Ending) (w' : World) : Prop :=
  ∃ A c L, e = .returned (.tuple #[.slice A L.length c, .bool (spl t l).isSome]) ∧ Strs w' A L ∧ L.length ≤ c ∧ (∀ M, spl t l = some M → L = M) ∧ Below w.heap.size w w' ∧ StrT w' A

theorem first_le (b : Bs) : (first b).length ≤ b.length := by
  cases h : nameLen b with
  | none => rw [first_none h]; simp
  | some k => rw [first_some h, List.length_take]; omega

set_option maxHeartbeats 4000000 in
set_option maxRecDepth 100000 in
theorem splitData_any (t : Int) (A : Option Addr) (l : Bs) (c : Nat) (w : World) (hS : Bys w A l) (hc : l.length ≤ c) (hcm : c ≤ 9223372036854775807) (hl : l.length ≤ 65535) : Calls Tryd.prog 81 #[.int .i64 t, .slice A l.length c] w (SplitData w t l) := by
  obtain ⟨i0, hi, hz0, hz1, hz2⟩ := info_parts info_str
  obtain ⟨⟨ah, cn, bh⟩, hsh⟩ : ∃ p, p = shapeP t := ⟨_, rfl⟩
  have hb : ah ≤ 2 ∧ cn ≤ 2 ∧ bh ≤ 20 := by
    unfold shapeP at hsh
    split at hsh
    · injection hsh with h1 h2; injection h2 with h2 h3; omega
    split at hsh
    · injection hsh with h1 h2; injection h2 with h2 h3; omega
    split at hsh
    · injection hsh with h1 h2; injection h2 with h2 h3; omega
    · injection hsh with h1 h2; injection h2 with h2 h3; omega
  have SH := Lib.hid (fun w => by have := shape_any t w; rw [← hsh] at this; exact this : ∀ w, Calls Tryd.prog 113 #[.int .i64 t] w fun e w' => e = .returned (.tuple #[.int .i64 ah, .int .i64 cn, .int .i64 bh]) ∧ w = w')
  have hspl : spl t l = if cn = 0 then some [] else if l.length < ah then none else ends (taken cn (l.drop ah)) bh := by unfold spl; rw [← hsh]
  obtain ⟨R, hR⟩ : ∃ R, R = spl t l := ⟨_, rfl⟩
  rw [← hR] at hspl
  have hpost : SplitData w t l = fun e w' => ∃ A c L, e = .returned (.tuple #[.slice A L.length c, .bool R.isSome]) ∧ Strs w' A L ∧ L.length ≤ c ∧ (∀ M, R = some M → L = M) ∧ Below w.heap.size w w' ∧ StrT w' A := by rw [hR]; rfl
  rw [hpost]
  clear hpost hR hsh
  obtain ⟨hb1, hb2, hb3⟩ := hb
  by_cases h0 : cn = 0
  · rw [if_pos h0] at hspl
    subst h0
    have HS := Lib.hid hspl
    clear hspl
    go_enter Tryd.func81, Tryd.ntmps81
    go_wp2_with fail
    refine (SH.out _).mono ?_
    rintro e w1 ⟨rfl, rfl⟩
    go_wp2_with fail
    go_ret2
    exact ⟨none, 0, [], by rw [HS.out]; rfl, fun h => absurd h (by simp), by simp, fun M hM => (by rw [HS.out] at hM; injection hM), Below.refl _ _, StrT.none _⟩
  rw [if_neg h0] at hspl
  have h0' : ((cn : Int) == 0) = false := by simp; omega
  by_cases h1 : l.length < ah
  · rw [if_pos h1] at hspl
    have h1' : (l.length : Int) < (ah : Int) := by omega
    have HS := Lib.hid hspl
    clear hspl
    go_enter Tryd.func81, Tryd.ntmps81
    go_wp2_with fail
    refine (SH.out _).mono ?_
    rintro e w1 ⟨rfl, rfl⟩
    go_wp2_with fail
    go_ret2
    exact ⟨none, 0, [], by rw [HS.out]; rfl, fun h => absurd h (by simp), by simp, fun M hM => (by rw [HS.out] at hM; cases hM), Below.refl _ _, StrT.none _⟩
  rw [if_neg h1] at hspl
  have h1' : ¬ (l.length : Int) < (ah : Int) := by omega
  obtain ⟨A', hrun, S', hc'⟩ := slice_bys A l c ah ah w hS (by omega) hc rfl
  have hl' : (l.drop ah).length ≤ 65535 := by rw [List.length_drop]; omega
  generalize l.drop ah = b0 at *
  obtain ⟨c', hce⟩ : ∃ c', c' = c - ah := ⟨_, rfl⟩
  have hcm' : c' ≤ 9223372036854775807 := by omega
  rw [← hce] at hrun hc'
  have HS := Lib.hid hspl
  clear hspl hce hb3
  have hcn := h0
  clear h0
  go_enter Tryd.func81, Tryd.ntmps81
  go_wp2_with fail
  refine (SH.out _).mono ?_
  rintro e w1 ⟨rfl, rfl⟩
  clear SH
  go_wp2_with fail
  go_loopw [9, 10, 28] (fun v9 v10 v28 wr => ∃ (k : Nat) (N : List Bs) (b : Bs) (B : Option Addr) (d : Nat), v9 = .slice B b.length d ∧ v28 = .int .i64 k ∧ k ≤ cn ∧ Bys w B b ∧ b.length ≤ d ∧ d ≤ 9223372036854775807 ∧ b.length ≤ 65535 ∧ Hid (taken cn b0 = (taken (cn - k) b).map fun p => (N ++ p.1, p.2)) ∧ wr.ownsRow w.heap.size 9 1 v10 k (N.map fun x => .string (bs x)) ∧ Below w.heap.size w wr) (fun _ _ v28 _ => cn - (intOf v28).toNat)
  case atStart => exact ⟨0, [], b0, A', c', rfl, rfl, by omega, S', hc', hcm', hl', Lib.hid (by simp), World.ownsRow_nil _ _ _ _, Below.refl _ _⟩
  case round =>
    clear hS hc hcm hl hrun S' hc' hcm' hl' hb1
    obtain ⟨k, N, b, B, d, rfl, rfl, hk, SB, hbd, hdm, hbl, HT, hown, hB⟩ := hrel
    by_cases hlt : k < cn
    · have hlt' : (k : Int) < (cn : Int) := by omega
      have C := Lib.hid (fun W (hW : Bys W B b) => firstName_any B b d W hW hbd hdm hbl)
      have hstep : taken (cn - k) b = if first b = [] then none else (taken (cn - (k + 1)) (b.drop (first b).length)).map fun p => (first b :: p.1, p.2) := by
        rw [show cn - k = (cn - (k + 1)) + 1 by omega]; rfl
      have hfl := first_le b
      by_cases hn : first b = []
      · rw [if_pos hn] at hstep
        have HR := Lib.hid (show taken cn b0 = none by rw [HT.out, hstep]; rfl)
        rw [hn] at C
        clear hstep HT hfl hn
        go_wp2_with fail
        refine (C.out _ (SB.on hB)).mono ?_
        rintro e w1 ⟨rfl, b1⟩
        go_wp2_with fail
        go_ret2
        have hnone : R = none := by rw [HS.out, HR.out]; rfl
        exact ⟨none, 0, [], by rw [hnone]; rfl, fun h => absurd h (by simp), by simp, fun M hM => (by rw [hnone] at hM; cases hM), Below.trans hB (b1.mono hB.size), StrT.none _⟩
      · rw [if_neg hn] at hstep
        have hne : (first b).isEmpty = false := by rw [List.isEmpty_eq_false_iff]; exact hn
        obtain ⟨B', hrun', S2, hd'⟩ := slice_bys B b d (first b).length ((first b).length : Int) w SB hfl hbd rfl
        have hbl' : (b.drop (first b).length).length ≤ 65535 := by rw [List.length_drop]; omega
        have HX : Hid (taken cn b0 = (taken (cn - (k + 1)) (b.drop (first b).length)).map fun p => ((N ++ [first b]) ++ p.1, p.2)) := Lib.hid (by
          rw [HT.out, hstep, Option.map_map]
          congr 1
          funext p
          simp)
        have hsz : (bs (first b)).size = (first b).length := bs_size _
        generalize b.drop (first b).length = b2 at *
        generalize first b = x at *
        obtain ⟨d2, hd2⟩ : ∃ d2, d2 = d - x.length := ⟨_, rfl⟩
        have hdm2 : d2 ≤ 9223372036854775807 := by omega
        rw [← hd2] at hrun' hd'
        clear hstep HT hfl hn hd2
        go_wp2_with fail
        refine (C.out _ (SB.on hB)).mono ?_
        rintro e w1 ⟨rfl, b1⟩
        have hown1 := ownsRow_below hown b1 (Nat.le_refl _)
        have hB1 : Below w.heap.size w w1 := Below.trans hB (b1.mono hB.size)
        have hs1 := hB1.size
        clear C hB hown b1
        generalize x.length = xl at *
        go_wp2_with (at_builtin; refine wpList_append_own _ rfl _ _ 142 rfl w.heap.size 9 i0 (.string ⟨#[]⟩) 1 16 Tryd.underlying142 hi hz0 hz1 hz2 rfl (by decide) _ _ _ rfl (hown1.alloc _) ⟨w1.heap.size, 0, none⟩ 1 1 [.string (bs x)] rfl rfl ?c1 ?c2 ?c3 ?c4 ?c5 ?_)
        case c1 => exact World.news_of_block (cs := #[.string (bs x)]) (t := 9) (fr := (0, 0)) (row_new _ (by simp))
        case c2 => simp [Value.oneCell']
        case c3 => unfold maxLen; omega
        case c4 => omega
        case c5 => simp; omega
        intro v' w2 hown2 hgrow _
        have hB2 : Below w.heap.size w w2 := Below.grown (Below.alloc hB1 (by omega) _) hgrow (by simp; omega) (fun g e => (hown1.lt g e).1)
        clear hgrow hB1 hown1
        go_wp2_with fail
        go_roundw
        case rel =>
          exact ⟨k + 1, N ++ [x], b2, B', d2, rfl, by go_num, by omega, S2, hd', hdm2, hbl', HX, by simpa using hown2, hB2⟩
        case measure => simp [intOf]; omega
    · have hlt' : ¬ (k : Int) < (cn : Int) := by omega
      obtain rfl : k = cn := by omega
      have HR : Hid (taken k b0 = some (N, b)) := Lib.hid (by rw [HT.out, Nat.sub_self]; simp [taken])
      clear HT
      rcases hown.2 with ⟨rfl, hn0⟩ | ⟨g, cap, cur, rfl, hrest⟩
      · exact absurd hn0 hcn
      · obtain ⟨hNl, hst⟩ := own_strs hown
        have hcap : k ≤ cap := hrest.2.2.1
        have HTY := Lib.hid hrest.2.1
        clear hrest
        have hbe : ((b.length : Int) == (bh : Int)) = decide (b.length = bh) := by rw [Bool.eq_iff_iff]; simp; omega
        go_wp2_with fail
        go_ret2
        refine ⟨some ⟨g, 0, none⟩, cap, N, ?_, hst, by omega, ?_, hB, fun p hp => by injection hp with hp; subst hp; exact ⟨_, _, HTY.out⟩⟩
        · rw [HS.out, HR.out, ← hNl]
          by_cases hbb : b.length = bh <;> simp [ends, hbb]
        · intro M hM
          rw [HS.out, HR.out] at hM
          simp only [ends] at hM
          split at hM
          · injection hM
          · cases hM
end Go.Proofs.YtknpkifhkefikaaDoor
namespace Go.Proofs.YtknpkifhkefikaaDoor
open Go.RowKit
set_option linter.unusedVariables false
set_option maxRecDepth 100000

theorem first_all {l : Bs} (h : can l = true) : first l = l := by
  have := can_nameLen h []
  rw [List.append_nil] at this
  rw [first_some this, List.take_length]
theorem first_ne {l : Bs} {k : Nat} (h : nameLen l = some k) : first l ≠ [] := by
  intro e
  have h1 := first_len h
  have := nameLen_le h
  rw [e] at h1
  simp at h1
  omega
/-- One name, and nothing behind it. -/
theorem spl_name (l : Bs) : ends (taken 1 l) 0 = if can l then some [l] else none := by
  cases hc : can l with
  | true =>
    have hf := first_all hc
    simp only [taken, ends]
    rw [hf, if_neg (can_ne hc)]
    simp
  | false =>
    cases hn : nameLen l with
    | none => simp [taken, ends, first_none hn]
    | some k =>
      have h1 := first_len hn
      have h2 := nameLen_le hn
      simp only [taken, ends]
      rw [if_neg (first_ne hn), h1]
      by_cases hk : k = l.length
      · rw [hk] at hn
        have := (can_take (Nat.le_refl _)).2 hn
        rw [List.take_length, hc] at this
        cases this
      · simp; omega
theorem spl_mx (l : Bs) : (if l.length < 2 then none else ends (taken 1 (l.drop 2)) 0) = if (decide (2 < l.length) && can (l.drop 2)) = true then some [l.drop 2] else none := by
  by_cases h : l.length < 2
  · rw [if_pos h]
    have : ¬ 2 < l.length := by omega
    simp [this]
  · rw [if_neg h, spl_name]
    by_cases h2 : 2 < l.length
    · simp [h2]
    · rw [List.drop_eq_nil_of_le (by omega), can_nil]
      simp
theorem spl_soa (l : Bs) : ends (taken 2 l) 20 = match soa l with | some s => some [s.m, s.r] | none => none := by
  cases h1 : nameLen l with
  | none => rw [soa_none1 h1]; simp [taken, ends, first_none h1]
  | some i =>
    have e1 := first_len h1
    have f1 := first_some h1
    have l1 := nameLen_le h1
    cases h2 : nameLen (l.drop i) with
    | none => rw [soa_none2 h1 h2]; simp only [taken, ends]; rw [if_neg (first_ne h1), e1, first_none h2]; simp
    | some j =>
      have e2 := first_len h2
      have f2 := first_some h2
      have l2 := nameLen_le h2
      rw [List.length_drop] at l2
      rw [soa_at h1 h2]
      simp only [taken, ends]
      rw [if_neg (first_ne h1), e1, if_neg (first_ne h2), e2]
      simp only [Option.map_some, List.drop_drop, List.length_drop]
      by_cases hl : l.length = i + j + 20
      · rw [if_pos hl, if_pos (by omega), f1, f2]
      · rw [if_neg hl, if_neg (by omega)]

/-- The types that have no rule by names. -/
def odd (t : Int) : Prop := t = 1 ∨ t = 28 ∨ t = 16 ∨ t = 41
theorem spl_odd {t : Int} (h : odd t) (l : Bs) : spl t l = some [] := by
  unfold spl shapeP
  rcases h with rfl | rfl | rfl | rfl <;> simp
theorem shape_name {t : Int} (h : t = 2 ∨ t = 5 ∨ t = 12) : shapeP t = (0, 1, 0) := by unfold shapeP; rw [if_pos h]
theorem shape_mx : shapeP 15 = (2, 1, 0) := by unfold shapeP; simp
theorem shape_soa : shapeP 6 = (0, 2, 20) := by unfold shapeP; simp
theorem shape_none {t : Int} (h1 : ¬ (t = 2 ∨ t = 5 ∨ t = 12)) (h2 : t ≠ 15) (h3 : t ≠ 6) : shapeP t = (0, 0, 0) := by unfold shapeP; rw [if_neg h1, if_neg h2, if_neg h3]
theorem canD_spl {t : Int} {l : Bs} (hf : ¬ (t < 0 ∨ 65535 < t ∨ 65535 < l.length)) (ho : ¬ odd t) : canD t l = (spl t l).isSome := by
  have h1 : t ≠ 1 := fun e => ho (.inl e)
  have h2 : t ≠ 28 := fun e => ho (.inr (.inl e))
  have h3 : t ≠ 16 := fun e => ho (.inr (.inr (.inl e)))
  have h4 : t ≠ 41 := fun e => ho (.inr (.inr (.inr e)))
  rw [canD_in hf, if_neg h1, if_neg h2]
  by_cases en : t = 2 ∨ t = 5 ∨ t = 12
  · rw [if_pos en]
    unfold spl
    rw [shape_name en]
    have := spl_name l
    simp only [List.drop_zero] at this ⊢
    simp only [Nat.not_lt_zero, if_false, Nat.one_ne_zero]
    rw [this]
    cases can l <;> rfl
  rw [if_neg en]
  by_cases e15 : t = 15
  · subst e15
    rw [if_pos rfl]
    unfold spl
    rw [shape_mx]
    have := spl_mx l
    simp only [Nat.one_ne_zero, if_false]
    rw [this]
    cases (decide (2 < l.length) && can (l.drop 2)) <;> rfl
  rw [if_neg e15]
  by_cases e6 : t = 6
  · subst e6
    rw [if_pos rfl]
    unfold spl
    rw [shape_soa]
    have := spl_soa l
    simp only [List.drop_zero] at this ⊢
    simp only [Nat.not_lt_zero, if_false, (by decide : (2 : Nat) ≠ 0)]
    rw [this]
    cases soa l <;> rfl
  rw [if_neg e6, if_neg h3, if_neg h4]
  unfold spl
  rw [shape_none en e15 e6]
  rfl
theorem namesD_spl {t : Int} {l : Bs} (hc : canD t l = true) : spl t l = some (namesD t l) := by
  have hf : ¬ (t < 0 ∨ 65535 < t ∨ 65535 < l.length) := fun h => by rw [canD_far h] at hc; cases hc
  by_cases ho : odd t
  · rw [spl_odd ho, namesD_in hc]
    rcases ho with rfl | rfl | rfl | rfl <;> simp
  rw [namesD_in hc]
  have hs := canD_spl hf ho
  rw [hc] at hs
  by_cases en : t = 2 ∨ t = 5 ∨ t = 12
  · rw [if_pos en]
    unfold spl at hs ⊢
    rw [shape_name en] at hs ⊢
    have := spl_name l
    simp only [List.drop_zero] at this hs ⊢
    simp only [Nat.not_lt_zero, if_false, Nat.one_ne_zero] at hs ⊢
    rw [this] at hs ⊢
    cases hcl : can l with
    | true => rfl
    | false => rw [hcl] at hs; simp at hs
  rw [if_neg en]
  by_cases e15 : t = 15
  · subst e15
    rw [if_pos rfl]
    unfold spl at hs ⊢
    rw [shape_mx] at hs ⊢
    have := spl_mx l
    simp only [Nat.one_ne_zero, if_false] at hs ⊢
    rw [this] at hs ⊢
    cases hcl : (decide (2 < l.length) && can (l.drop 2)) with
    | true => rfl
    | false => rw [hcl] at hs; simp at hs
  rw [if_neg e15]
  by_cases e6 : t = 6
  · subst e6
    rw [if_pos rfl]
    unfold spl at hs ⊢
    rw [shape_soa] at hs ⊢
    have := spl_soa l
    simp only [List.drop_zero] at this hs ⊢
    simp only [Nat.not_lt_zero, if_false, (by decide : (2 : Nat) ≠ 0)] at hs ⊢
    rw [this] at hs ⊢
    cases hcl : soa l with
    | some s => rfl
    | none => rw [hcl] at hs; simp at hs
  rw [if_neg e6]
  unfold spl
  rw [shape_none en e15 e6]
  rfl

set_option maxHeartbeats 4000000 in
set_option maxRecDepth 100000 in
theorem dCan_any (t : Int) (A : Option Addr) (l : Bs) (c : Nat) (w : World) (hS : Bys w A l) (hc : l.length ≤ c) (hcm : c ≤ 9223372036854775807) : Calls Tryd.prog 41 #[.int .i64 t, .slice A l.length c] w fun e w' => e = .returned (.bool (canD t l)) ∧ Below w.heap.size w w' := by
  by_cases hfar : t < 0 ∨ 65535 < t ∨ 65535 < l.length
  · have HF := Lib.hid (canD_far hfar)
    by_cases h0 : t < 0
    · clear hfar
      go_enter Tryd.func41, Tryd.ntmps41
      go_wp2_with fail
      go_ret
      exact ⟨by rw [HF.out]; rfl, Below.refl _ _⟩
    · by_cases h1 : 65535 < t
      · clear hfar
        go_enter Tryd.func41, Tryd.ntmps41
        go_wp2_with fail
        go_ret
        exact ⟨by rw [HF.out]; rfl, Below.refl _ _⟩
      · have h2 : (65535 : Int) < (l.length : Int) := by omega
        clear hfar
        go_enter Tryd.func41, Tryd.ntmps41
        go_wp2_with fail
        go_ret
        exact ⟨by rw [HF.out]; rfl, Below.refl _ _⟩
  have hin := canD_in hfar
  have hsp := @canD_spl t l hfar
  have h0 : ¬ t < 0 := fun h => hfar (Or.inl h)
  have h1 : ¬ 65535 < t := fun h => hfar (Or.inr (Or.inl h))
  have hl : l.length ≤ 65535 := by omega
  have h2 : ¬ (65535 : Int) < (l.length : Int) := by omega
  clear hfar
  by_cases e1 : t = 1
  · subst e1
    rw [if_pos rfl] at hin
    have HI := Lib.hid (hin.trans (show (l.length == 4) = ((l.length : Int) == 4) by rw [Bool.eq_iff_iff]; simp; omega))
    clear hin h0 h1 hsp
    go_enter Tryd.func41, Tryd.ntmps41
    go_wp2_with fail
    go_ret
    exact ⟨by rw [HI.out]; rfl, Below.refl _ _⟩
  rw [if_neg e1] at hin
  by_cases e28 : t = 28
  · subst e28
    rw [if_pos rfl] at hin
    have HI := Lib.hid (hin.trans (show (l.length == 16) = ((l.length : Int) == 16) by rw [Bool.eq_iff_iff]; simp; omega))
    clear hin h0 h1 e1 hsp
    go_enter Tryd.func41, Tryd.ntmps41
    go_wp2_with fail
    go_ret
    exact ⟨by rw [HI.out]; rfl, Below.refl _ _⟩
  rw [if_neg e28] at hin
  have T1 : (t == 1) = false := by simp [e1]
  have T28 : (t == 28) = false := by simp [e28]
  by_cases e16 : t = 16
  · subst e16
    have hi2 : canD 16 l = texts l := by rw [hin]; simp
    clear hin h0 h1 e1 e28 T1 T28 hsp
    by_cases hn : l = []
    · have HI := Lib.hid (hi2.trans (show texts l = false by rw [hn]; rfl))
      have hz : ¬ (0 : Int) < (l.length : Int) := by rw [hn]; simp
      clear hi2 hn
      go_enter Tryd.func41, Tryd.ntmps41
      go_wp2_with fail
      go_ret
      exact ⟨by rw [HI.out]; rfl, Below.refl _ _⟩
    · have HI := Lib.hid (hi2.trans (show texts l = txs l by unfold texts; simp [hn]))
      have hz : (0 : Int) < (l.length : Int) := by have := List.length_pos_iff.2 hn; omega
      clear hi2 hn
      go_enter Tryd.func41, Tryd.ntmps41
      go_wp2_with fail
      refine (areTexts_any A l c _ hS hl).mono ?_
      rintro e w1 ⟨rfl, rfl⟩
      go_wp2_with fail
      go_ret
      exact ⟨by rw [HI.out]; rfl, Below.refl _ _⟩
  have T16 : (t == 16) = false := by simp [e16]
  by_cases e41 : t = 41
  · subst e41
    have HI := Lib.hid (show canD 41 l = opts l by rw [hin]; simp)
    clear hin h0 h1 e1 e28 e16 T1 T28 T16 hsp
    go_enter Tryd.func41, Tryd.ntmps41
    go_wp2_with fail
    refine (areOptions_any A l c _ hS hl).mono ?_
    rintro e w1 ⟨rfl, b1⟩
    go_wp2_with fail
    go_ret
    exact ⟨by rw [HI.out]; rfl, b1⟩
  have T41 : (t == 41) = false := by simp [e41]
  have HI := Lib.hid (hsp (by rintro (h | h | h | h) <;> contradiction))
  clear hin hsp e1 e28 e16 e41
  have C := Lib.hid (fun W (hW : Bys W A l) => splitData_any t A l c W hW hc hcm hl)
  go_enter Tryd.func41, Tryd.ntmps41
  go_wp2_with fail
  refine (C.out _ hS).mono ?_
  rintro e w1 ⟨B, d, L, rfl, _, _, _, b1, _⟩
  rw [← HI.out]
  go_wp2_with fail
  go_ret
  exact ⟨rfl, b1⟩

set_option maxHeartbeats 4000000 in
set_option maxRecDepth 100000 in
theorem dNamesT_any (t : Int) (A : Option Addr) (l : Bs) (c : Nat) (w : World) (hS : Bys w A l) (hc : l.length ≤ c) (hcm : c ≤ 9223372036854775807) : Calls Tryd.prog 111 #[.int .i64 t, .slice A l.length c] w fun e w' => ∃ A c, e = .returned (.slice A (namesD t l).length c) ∧ Strs w' A (namesD t l) ∧ (namesD t l).length ≤ c ∧ Below w.heap.size w w' ∧ StrT w' A := by
  have C := dCan_any t A l c w hS hc hcm
  cases hcan : canD t l with
  | false =>
    rw [hcan] at C
    have C := Lib.hid C
    have HN := Lib.hid (namesD_no hcan)
    clear hcan
    go_enter Tryd.func111, Tryd.ntmps111
    go_wp2_with fail
    refine C.out.mono ?_
    rintro e w1 ⟨rfl, b1⟩
    go_wp2_with fail
    go_ret
    rw [HN.out]
    exact ⟨none, 0, rfl, fun h => absurd h (by simp), by simp, b1, StrT.none _⟩
  | true =>
    rw [hcan] at C
    have C := Lib.hid C
    have hl : l.length ≤ 65535 := by
      apply Nat.le_of_not_lt
      intro h
      rw [canD_far (.inr (.inr h))] at hcan
      cases hcan
    have HN := Lib.hid (namesD_spl hcan)
    have S := Lib.hid (fun W (hW : Bys W A l) => splitData_any t A l c W hW hc hcm hl)
    clear hcan
    go_enter Tryd.func111, Tryd.ntmps111
    go_wp2_with fail
    refine C.out.mono ?_
    rintro e w1 ⟨rfl, b1⟩
    go_wp2_with fail
    refine (S.out _ (hS.on b1)).mono ?_
    rintro e w2 ⟨B, d, L, rfl, st, hd, hL, b2, hT⟩
    have HL := Lib.hid (hL _ HN.out)
    clear hL
    go_wp2_with fail
    go_ret
    rw [← HL.out]
    exact ⟨B, d, rfl, st, hd, Below.trans b1 (b2.mono b1.size), hT⟩
theorem dNames_any (t : Int) (A : Option Addr) (l : Bs) (c : Nat) (w : World) (hS : Bys w A l) (hc : l.length ≤ c) (hcm : c ≤ 9223372036854775807) : Calls Tryd.prog 111 #[.int .i64 t, .slice A l.length c] w (StrsPost w (namesD t l)) :=
  (dNamesT_any t A l c w hS hc hcm).mono fun _ _ ⟨B, d, h1, h2, h3, h4, _⟩ => ⟨B, d, h1, h2, h3, h4⟩
end Go.Proofs.YtknpkifhkefikaaDoor
