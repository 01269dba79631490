/-
  name.firstLabel, name.Parse.
-/
import Derived.Test.YtigpkcpdccgnfaaNmV
namespace Go.Proofs.Ytigpkcpdccgnfaa
open Go.RowKit
set_option linter.unusedVariables false

theorem own_form8 {w : World} {B : Nat} {v : Value} {k : Nat} {xs : List Value} (h : w.ownsRow B 5 1 v k xs) : ∃ A c, v = .slice A k c ∧ k ≤ c := by
  rcases h.2 with ⟨rfl, h0⟩ | ⟨g, cap, _, rfl, _, _, hc, _⟩
  · exact ⟨none, 0, by rw [h0], by omega⟩
  · exact ⟨_, _, rfl, hc⟩
theorem own_on8 {w w2 : World} {B : Nat} {v : Value} {k : Nat} {xs : List Value} (h : w.ownsRow B 5 1 v k xs) (hB : Below w.heap.size w w2) : w2.ownsRow B 5 1 v k xs :=
  h.kept (row := none) ⟨hB.os, hB.tape, hB.output, hB.size, fun i hi _ => hB.block i hi⟩ (by cases v.ownBlock <;> simp)
theorem own_mono8 {w : World} {B B' : Nat} {v : Value} {k : Nat} {xs : List Value} (h : w.ownsRow B 5 1 v k xs) (hle : B' ≤ B) : w.ownsRow B' 5 1 v k xs := by
  refine ⟨h.1, ?_⟩
  rcases h.2 with h0 | ⟨g, cap, cur, e, hb, rest⟩
  · exact .inl h0
  · exact .inr ⟨g, cap, cur, e, by omega, rest⟩
theorem own_nil8 (w : World) (B : Nat) : w.ownsRow B 5 1 (.slice none 0 0) 0 (bcs []) := ⟨rfl, .inl ⟨rfl, rfl⟩⟩

/-- What firstLabel answers. -/
def FlPost (w : World) (s : Bs) (e : Ending) (w' : World) : Prop :=
  (fl s [] 0 = none ∧ e = .returned (.tuple #[.slice none 0 0, .int .i64 0]) ∧ Below w.heap.size w w') ∨
  (∃ x k A c, fl s [] 0 = some (x, k) ∧ e = .returned (.tuple #[.slice A x.length c, .int .i64 k]) ∧ w'.ownsRow w.heap.size 5 1 (.slice A x.length c) x.length (bcs x) ∧ Below w.heap.size w w')

set_option maxHeartbeats 4000000 in
set_option maxRecDepth 100000 in
theorem firstLabel_any (s : Bs) (w : World) (hl : s.length ≤ 1048576) : Calls Try.prog 32 #[.string (bs s)] w (FlPost w s) := by
  obtain ⟨i0, hi, hz0, hz1, hz2⟩ := info_parts info_u8
  have hsz := bs_size s
  go_enter Try.func32, Try.ntmps32
  go_wp2_with fail
  go_loopw [4, 5] (fun v i wr => ∃ (n : Nat) (lab : Bs), i = .int .i64 n ∧ n ≤ s.length ∧ lab.length ≤ 63 ∧ wr.ownsRow w.heap.size 5 1 v lab.length (bcs lab) ∧ Hid (fl s [] 0 = fl (s.drop n) lab n) ∧ Below w.heap.size w wr) (fun _ i _ => s.length + 1 - (intOf i).toNat)
  case atStart => exact ⟨0, [], rfl, by omega, by simp, own_nil8 _ _, Lib.hid rfl, Below.refl _ _⟩
  case round =>
    obtain ⟨n, lab, rfl, hn, h63, hown, hF, hB⟩ := hrel
    by_cases hlt : n < s.length
    · have hix := index_at s n hlt n rfl
      have hsl := slice_from s n (by omega)
      obtain ⟨A, c, rfl, hc⟩ := own_form8 hown
      have hlt' : (n : Int) < (s.length : Int) := by omega
      have hdrop : s.drop n = s[n] :: s.drop (n + 1) := List.drop_eq_getElem_cons hlt
      have hh : (s.drop n).head?.map (·.toNat) = some (s[n]).toNat := by rw [hdrop]; rfl
      have hb := (s[n]).toNat_lt
      by_cases hdot : (s[n]).toNat = 46 ∧ lab ≠ []
      · obtain ⟨hd, hne⟩ := hdot
        have hf := hF.out
        rw [fl_dot (by rw [hh, hd]) hne] at hf
        have HF := Lib.hid hf
        rw [hd] at hix
        have hp : (0 : Int) < (lab.length : Int) := by have := List.length_pos_iff.2 hne; omega
        clear hF hf hd hdrop hb hne hh
        go_wp2_with fail
        go_ret2
        exact .inr ⟨lab, n + 1, A, c, HF.out, by simp, hown, hB⟩
      · have FB := Lib.hid (fun W => firstByte_any (s.drop n) W (by simp; omega) (by rw [hdrop]; exact List.cons_ne_nil _ _))
        have hnd : (((s[n]).toNat : Int) == 46) = false ∨ ((((s[n]).toNat : Int) == 46) = true ∧ (lab.length : Int) = 0) := by
          by_cases hd : (s[n]).toNat = 46
          · right
            have : lab = [] := Classical.byContradiction fun e => hdot ⟨hd, e⟩
            subst this
            exact ⟨by rw [hd]; rfl, by simp⟩
          · left; rw [beq_eq_false_iff_ne]; omega
        have hsz1 := hB.size
        cases hb1 : byte1 (s.drop n) with
        | none =>
          have hf := hF.out
          rw [fl_bad hb1 (by rw [hh]; intro e; exact hdot ⟨by injection e.1, e.2⟩)] at hf
          have HF := Lib.hid hf
          have HO := Lib.hid (show firstOf (s.drop n) = (0, 0) by unfold firstOf; rw [hb1])
          clear hF hf hdrop hb1 hdot hh
          generalize (s[n]).toNat = m at *
          generalize s.drop n = t at *
          rcases hnd with hnd | ⟨hnd, hl0⟩
          · go_wp2_with fail
            refine (FB.out _).mono ?_
            rintro e w1 ⟨rfl, b1⟩
            rw [HO.out]
            go_wp2_with fail
            go_ret2
            exact .inl ⟨HF.out, rfl, Below.trans hB (b1.mono hB.size)⟩
          · have HL := Lib.hid hl0
            have hl1 : ¬ (0 : Int) < (lab.length : Int) := by omega
            clear hl0
            go_wp2_with fail
            refine (FB.out _).mono ?_
            rintro e w1 ⟨rfl, b1⟩
            rw [HO.out]
            go_wp2_with fail
            go_ret2
            exact .inl ⟨HF.out, rfl, Below.trans hB (b1.mono hB.size)⟩
        | some z =>
          obtain ⟨b, k⟩ := z
          have hk := byte1_pos hb1
          rw [List.length_drop] at hk
          have hb46 := byte1_not_dot hb1
          rw [hh] at hb46
          have hnd : (((s[n]).toNat : Int) == 46) = false := by
            rw [beq_eq_false_iff_ne]
            intro e
            exact hb46 (by rw [show (s[n]).toNat = 46 by omega])
          have hf := hF.out
          rw [fl_byte hb1] at hf
          have HO := Lib.hid (show firstOf (s.drop n) = ((b.toNat : Int), (k : Int)) by unfold firstOf; rw [hb1])
          have hk0 : ((k : Int) == 0) = false := by rw [beq_eq_false_iff_ne]; omega
          have hbt := b.toNat_lt
          by_cases hfull : lab.length = 63
          · rw [if_pos hfull] at hf
            have HF := Lib.hid hf
            have h63' : ((lab.length : Int) == 63) = true := by rw [hfull]; rfl
            clear hF hf hdrop hb1 hdot hb46 hfull hh
            generalize (s[n]).toNat = m at *
            generalize s.drop n = t at *
            go_wp2_with fail
            refine (FB.out _).mono ?_
            rintro e w1 ⟨rfl, b1⟩
            rw [HO.out]
            go_wp2_with fail
            go_ret2
            exact .inl ⟨HF.out, rfl, Below.trans hB (b1.mono hB.size)⟩
          · rw [if_neg hfull, List.drop_drop] at hf
            have HF := Lib.hid hf
            have h63' : ((lab.length : Int) == 63) = false := by rw [beq_eq_false_iff_ne]; omega
            have HE := Lib.hid (show bcs (lab ++ [b]) = bcs lab ++ [.int .u8 b.toNat] by rw [bcs_append]; rfl)
            clear hF hf hdrop hb1 hdot hb46 hh
            generalize (s[n]).toNat = m at *
            generalize s.drop n = t at *
            go_wp2_with fail
            refine (FB.out _).mono ?_
            rintro e w1 ⟨rfl, b1⟩
            rw [HO.out]
            have hown1 := own_on8 hown b1
            have hB1 : Below w.heap.size w w1 := Below.trans hB (b1.mono hB.size)
            have hsz2 := hB1.size
            clear hown hB b1 FB HO
            go_wp2_with (at_builtin; refine wpList_append_own _ rfl _ _ 34 rfl w.heap.size 5 i0 (.int .u8 0) 1 1 Try.underlying34 hi hz0 hz1 hz2 rfl (by decide) _ _ _ rfl (hown1.alloc _) ⟨w1.heap.size, 0, none⟩ 1 1 [.int .u8 b.toNat] rfl rfl ?c1 ?c2 ?c3 ?c4 ?c5 ?_)
            case c1 => exact World.news_of_block (cs := #[.int .u8 b.toNat]) (t := 5) (fr := (0, 0)) (row_new _ rfl)
            case c2 => simp [Value.oneCell']
            case c3 => unfold maxLen; omega
            case c4 => omega
            case c5 => simp; omega
            intro v' w2 hown2 hgrow _
            have hB2 : Below w.heap.size w w2 := Below.grown (Below.alloc hB1 hB1.size _) hgrow (by simp; omega) (fun g e => (hown1.lt g e).1)
            clear hgrow hown1 hB1
            go_wp2_with fail
            go_roundw
            case rel => exact ⟨n + k, lab ++ [b], by go_num, by omega, by simp; omega, by rw [HE.out, List.length_append]; exact hown2, HF, hB2⟩
            case measure => simp [intOf]; omega
    · have hf := hF.out
      rw [List.drop_eq_nil_of_le (by omega), fl_nil] at hf
      have HF := Lib.hid hf
      clear hF hf
      go_wp2_with fail
      go_ret2
      exact .inl ⟨HF.out, rfl, hB⟩
end Go.Proofs.Ytigpkcpdccgnfaa
