/-
  name.Parse.
-/
import Derived.Test.YtigpkcpdccgnfaaNmX
namespace Go.Proofs.Ytigpkcpdccgnfaa
open Go.RowKit
set_option linter.unusedVariables false

def ParsePost (w : World) (s : Bs) (e : Ending) (w' : World) : Prop := e = .returned (.tuple #[.string (bs (parse s).1), .int .i64 (parse s).2]) ∧ Below w.heap.size w w'

theorem parse_none {s : Bs} (hs : s ≠ [46]) (h : pa s [] [] = none) : parse s = ([], 10) := by unfold parse; rw [if_neg hs, h]
theorem parse_some {s : Bs} {L : List Bs} (hs : s ≠ [46]) (h : pa s [] [] = some L) : parse s = if L = [] then ([], 10) else if 255 < (join L).length then ([], 11) else (join L, 0) := by unfold parse; rw [if_neg hs, h]
theorem enc_snoc2 (L : List Bs) (x : Bs) : enc (L ++ [x]) = enc L ++ (UInt8.ofNat x.length :: x) := by rw [enc_append]; simp [enc]

set_option maxHeartbeats 4000000 in
set_option maxRecDepth 100000 in
theorem Parse_any (s : Bs) (w : World) (hl : s.length ≤ 1048576) : Calls Try.prog 11 #[.string (bs s)] w (ParsePost w s) := by
  obtain ⟨i0, hi, hz0, hz1, hz2⟩ := info_parts info_u8
  have hsz := bs_size s
  have ex := bs_toList s
  by_cases hs : s = [46]
  · subst hs
    have HP := Lib.hid (show parse [46] = ([0], 0) from rfl)
    go_enter Try.func11, Try.ntmps11
    go_wp2_with fail
    go_ret2
    exact ⟨by rw [HP.out]; rfl, Below.refl _ _⟩
  · have hsb : (s == [46]) = false := by rw [beq_eq_false_iff_ne]; exact hs
    have HS := Lib.hid hs
    clear hs
    go_enter Try.func11, Try.ntmps11
    go_wp2_with fail
    clear hsb ex
    go_loopw [4, 5] (fun v i wr => ∃ (n : Nat) (L : List Bs), i = .int .i64 n ∧ n ≤ s.length ∧ (enc L).length ≤ 64 * n ∧ wr.ownsRow w.heap.size 5 1 v (enc L).length (bcs (enc L)) ∧ Hid (pa s [] [] = pa (s.drop n) L []) ∧ Below w.heap.size w wr) (fun _ i _ => s.length + 1 - (intOf i).toNat)
    case atStart => exact ⟨0, [], rfl, by omega, by simp [enc], own_nil8 _ _, Lib.hid rfl, Below.refl _ _⟩
    case round =>
      obtain ⟨n, L, rfl, hn, h64, hown, hF, hB⟩ := hrel
      by_cases hlt : n < s.length
      · have hsl := slice_from s n (by omega)
        have hlt' : (n : Int) < (s.length : Int) := by omega
        have FL := Lib.hid (fun W => firstLabel_any (s.drop n) W (by simp; omega))
        have hne : s.drop n ≠ [] := fun e => by have := congrArg List.length e; simp at this; omega
        have hpf := pa_fl _ (s.drop n) L [] 0 (Nat.le_refl _) (by simp) (.inl hne)
        have HP := Lib.hid hpf
        clear hpf hne
        generalize ht : s.drop n = t at *
        have HT := Lib.hid ht
        clear ht
        go_wp2_with fail
        refine (FL.out _).mono ?_
        rintro e w1 (⟨hf, rfl, b1⟩ | ⟨x, k, A, c, hf, rfl, hx, b1⟩)
        · have hpn : parse s = ([], 10) := by
            rcases HP.out with ⟨_, h⟩ | ⟨x, k, h, _⟩
            · exact parse_none HS.out (hF.out.trans h)
            · rw [hf] at h; cases h
          have HN := Lib.hid hpn
          clear hf hpn HP hF FL
          go_wp2_with fail
          go_ret2
          exact ⟨by rw [HN.out]; rfl, Below.trans hB (b1.mono hB.size)⟩
        · obtain ⟨hk1, hk2, hx1, hx2, hpa⟩ : 1 ≤ k ∧ k ≤ t.length ∧ 1 ≤ x.length ∧ x.length ≤ 63 ∧ pa t L [] = pa (t.drop k) (L ++ [x]) [] := by
            rcases HP.out with ⟨h, _⟩ | ⟨x', k', h, h1, h2, h3, h4, h5⟩
            · rw [hf] at h; cases h
            · rw [hf] at h
              injection h with h
              injection h with h6 h7
              subst h6
              rw [Nat.zero_add] at h7
              subst h7
              exact ⟨h1, h2, h3, h4, h5⟩
          have hF2 := hF.out.trans hpa
          rw [← HT.out, List.drop_drop] at hF2
          have hk3 : k ≤ s.length - n := by rw [← HT.out, List.length_drop] at hk2; exact hk2
          have HF := Lib.hid hF2
          clear hf hpa hF2 hF HP FL hk2 HT
          have hk0 : ((k : Int) == 0) = false := by rw [beq_eq_false_iff_ne]; omega
          have hown1 := own_on8 hown b1
          have hvb := hown.lt
          have hB1 : Below w.heap.size w w1 := Below.trans hB (b1.mono hB.size)
          have hs1 := hB.size
          have hs2 := b1.size
          obtain ⟨g, rfl, hgb⟩ : ∃ g, A = some ⟨g, 0, none⟩ ∧ wr.heap.size ≤ g := by
            rcases hx.2 with ⟨_, h0⟩ | ⟨g, cap, cur, hv, hb, _⟩
            · omega
            · injection hv with hv
              exact ⟨g, hv, hb⟩
          have HE := Lib.hid (show bcs (enc (L ++ [x])) = (bcs (enc L) ++ [.int .u8 x.length]) ++ bcs x by
            rw [enc_snoc2, bcs_append, List.append_assoc]
            congr 1
            simp only [bcs, List.map_cons, List.cons_append, List.nil_append]
            congr 2
            simp; omega)
          have HL := Lib.hid (show (enc (L ++ [x])).length = (enc L).length + 1 + x.length by rw [enc_snoc2]; simp; omega)
          clear hown hB b1
          generalize enc L = p at *
          go_wp2_with (at_builtin; refine wpList_append_own _ rfl _ _ 34 rfl w.heap.size 5 i0 (.int .u8 0) 1 1 Try.underlying34 hi hz0 hz1 hz2 rfl (by decide) _ _ _ rfl (hown1.alloc _) ⟨w1.heap.size, 0, none⟩ 1 1 [.int .u8 x.length] rfl rfl ?c1 ?c2 ?c3 ?c4 ?c5 ?_)
          case c1 => exact World.news_of_block (cs := #[.int .u8 x.length]) (t := 5) (fr := (0, 0)) (row_new _ rfl)
          case c2 => simp [Value.oneCell']
          case c3 => unfold maxLen; omega
          case c4 => omega
          case c5 => simp; omega
          intro v' w2 hown2 hgrow2 _
          have hx2' := (hx.alloc (Obj.cells #[.int .u8 x.length] 5 (0, 0))).kept hgrow2 (.inr (by
            intro e
            have e' : u4.ownBlock = some g := e.symm
            have := (hvb g e').2
            omega))
          have hB2 : Below w.heap.size w w2 := Below.grown (Below.alloc hB1 hB1.size _) hgrow2 (by simp; omega) (fun g e => (hown1.lt g e).1)
          have hs3 := hB2.size
          clear hgrow2 hown1 hB1 hx hvb
          go_wp2_with (at_builtin; refine wpList_append_own _ rfl _ _ 34 rfl w.heap.size 5 i0 (.int .u8 0) 1 1 Try.underlying34 hi hz0 hz1 hz2 rfl (by decide) _ _ _ rfl hown2 ⟨g, 0, none⟩ x.length c (bcs x) rfl ?c0 ?c1 ?c2 ?c3 ?c4 ?c5 ?_)
          case c0 => simp [bcs]
          case c1 => exact hx2'.cells rfl
          case c2 =>
            intro u hu
            obtain ⟨b, _, rfl⟩ := List.mem_map.1 hu
            rfl
          case c3 => unfold maxLen; omega
          case c4 => omega
          case c5 => omega
          intro v'' w3 hown3 hgrow3 _
          have hB3 : Below w.heap.size w w3 := Below.grown hB2 hgrow3 hs3 (fun g e => (hown2.lt g e).1)
          clear hgrow3 hown2 hB2 hx2'
          go_wp2_with fail
          go_roundw
          case rel => exact ⟨n + k, L ++ [x], by go_num, by omega, by rw [HL.out]; omega, by rw [HE.out, HL.out, List.append_assoc]; exact hown3, HF, hB3⟩
          case measure => simp [intOf]; omega
      · have hf := hF.out
        rw [List.drop_eq_nil_of_le (by omega), pa_nil, if_pos rfl] at hf
        have hps := parse_some HS.out hf
        obtain ⟨A, c, rfl, hc⟩ := own_form8 hown
        rw [join_len] at hps
        by_cases hL : L = []
        · rw [if_pos hL] at hps
          have HP := Lib.hid hps
          subst hL
          clear hps hf hF
          have he : (enc []).length = 0 := rfl
          rw [he]
          go_wp2_with fail
          go_ret2
          exact ⟨by rw [HP.out]; rfl, hB⟩
        · rw [if_neg hL] at hps
          have hep : 1 ≤ (enc L).length := by
            cases L with
            | nil => exact absurd rfl hL
            | cons x L => rw [enc_len_cons]; omega
          have hz : (((enc L).length : Int) == 0) = false := by rw [beq_eq_false_iff_ne]; omega
          by_cases h255 : 255 < (enc L).length + 1
          · rw [if_pos h255] at hps
            have HP := Lib.hid hps
            have h1 : (255 : Int) < ((enc L).length : Int) + 1 := by omega
            clear hps hf hF hL
            generalize enc L = p at *
            go_wp2_with fail
            go_ret2
            exact ⟨by rw [HP.out]; rfl, hB⟩
          · rw [if_neg h255] at hps
            have HP := Lib.hid hps
            have h1 : ¬ (255 : Int) < ((enc L).length : Int) + 1 := by omega
            have hj : bs (join L) = bs (enc L) ++ bs [0] := by rw [bs_append]; rfl
            have HJ := Lib.hid hj
            have hback : (convert 34 9 (.slice A (enc L).length c)).run Try.prog wr = .ok (.string (bs (enc L))) wr := by
              obtain ⟨g, rfl⟩ : ∃ g, A = some ⟨g, 0, none⟩ := by
                rcases hown.2 with ⟨_, h0⟩ | ⟨g, cap, cur, hv, hb, _⟩
                · omega
                · injection hv with hv
                  exact ⟨g, hv⟩
              exact run_convert_bytes_back (P := Try.prog) wr 34 9 5 ⟨g, 0, none⟩ c (enc L) Try.underlying34 Try.underlying5 Try.underlying9 (fun j hj => hown.cells rfl j _ (by simp [bcs, hj]))
            have hps2 := bs_size (enc L)
            clear hps hf hF hL hj hown
            generalize enc L = p at *
            go_wp2_with fail
            go_ret2
            exact ⟨by rw [HP.out, HJ.out]; rfl, hB⟩
end Go.Proofs.Ytigpkcpdccgnfaa
