/-
  The document's Parse.
-/
import Derived.Test.YtigpkcpdccgnfaaNmY
import Derived.Test.YtigpkcpdccgnfaaNmRb
import Derived.Deep.QuietTactic
import Derived.BigQuiet
import Derived.IntWalk
namespace Go.Proofs.Ytigpkcpdccgnfaa
open Go.RowKit
set_option linter.unusedVariables false

theorem one_string8 (w : World) (n : Nat) (h : n ≤ 255) (x : Int) (hx : x = n) : (convert 34 9 (.slice (some ⟨w.heap.size, 0, none⟩) 1 1)).run Try.prog (w.alloc (Obj.cells #[.int .u8 x] 5 (0, 0))) = .ok (.string (bs [UInt8.ofNat n])) (w.alloc (Obj.cells #[.int .u8 x] 5 (0, 0))) := by
  subst hx
  exact run_convert_bytes_back (P := Try.prog) _ 34 9 5 ⟨w.heap.size, 0, none⟩ 1 [UInt8.ofNat n] Try.underlying34 Try.underlying5 Try.underlying9 (fun j hj => by
    have : j = 0 := by simp at hj; omega
    subst this
    refine (cell_of_row _ _ _ _ _ _ (row_new _ rfl)).trans ?_
    simp; omega)

/-- What the loop of the document's Parse keeps. -/
def Rp (s : Bs) (w : World) (v lb i : Value) (wr : World) : Prop := ∃ (n : Nat) (L : List Bs) (lab : Bs), i = .int .i64 n ∧ n ≤ s.length ∧ lab.length ≤ n ∧ L.length ≤ n ∧ lb = .string (bs lab) ∧ wr.ownsRow w.heap.size 9 1 v L.length (L.map fun x => .string (bs x)) ∧ (∀ x ∈ L, Lab x) ∧ pa s [] [] = pa (s.drop n) L lab ∧ Below w.heap.size w wr

theorem parse_bad {s : Bs} {n : Nat} {L : List Bs} {lab : Bs} (hs : s ≠ [46]) (h : pa s [] [] = pa (s.drop n) L lab) (hb : pa (s.drop n) L lab = none) : parse s = ([], 10) := parse_none hs (h.trans hb)

set_option maxHeartbeats 8000000 in
set_option maxRecDepth 100000 in
theorem rParse_any (s : Bs) (w : World) (hl : s.length ≤ 1048576) : Calls Try.prog 12 #[.string (bs s)] w (ParsePost w s) := by
  obtain ⟨i0, hi, hz0, hz1, hz2⟩ := info_parts info_str
  have hsz := bs_size s
  have ex := bs_toList s
  by_cases hs : s = [46]
  · subst hs
    have HP := Lib.hid (show parse [46] = ([0], 0) from rfl)
    go_enter Try.func12, Try.ntmps12
    go_wp2_with fail
    go_ret2
    exact ⟨by rw [HP.out]; rfl, Below.refl _ _⟩
  · have hsb : (s == [46]) = false := by rw [beq_eq_false_iff_ne]; exact hs
    have HS := Lib.hid hs
    clear hs
    go_enter Try.func12, Try.ntmps12
    go_wp2_with fail
    clear hsb ex
    go_loopw [4, 5, 6] (fun v lb i wr => Rp s w v lb i wr) (fun _ _ i _ => s.length - (intOf i).toNat)
    case atStart => exact ⟨0, [], [], rfl, by omega, by simp, by simp, rfl, ⟨rfl, .inl ⟨rfl, rfl⟩⟩, by simp, rfl, Below.refl _ _⟩
    case round =>
      obtain ⟨n, L, lab, rfl, hn, hln, hLn, rfl, hown, hLab, hF, hB⟩ := hrel
      have HLab := Lib.hid hLab
      have HF := Lib.hid hF
      clear hLab hF
      have hlabs := bs_size lab
      by_cases hlt : n < s.length
      · have hlt' : (n : Int) < (s.length : Int) := by omega
        have hdrop : s.drop n = s[n] :: s.drop (n + 1) := List.drop_eq_getElem_cons hlt
        have hh : (s.drop n).head?.map (·.toNat) = some (s[n]).toNat := by rw [hdrop]; rfl
        have hix := index_at s n hlt n rfl
        obtain ⟨c, hc⟩ : ∃ c, c = s[n] := ⟨_, rfl⟩
        rw [← hc] at hdrop hh hix
        have hct := c.toNat_lt
        have PL := Lib.hid (fun W => rplain_any c.toNat (by omega) W)
        have HD := Lib.hid hdrop
        have HH := Lib.hid hh
        clear hdrop hh
        have hsz1 := hB.size
        cases hp : plainN c.toNat with
        | true =>
          have hb : byte1 (s.drop n) = some (c, 1) := by rw [HD.out]; exact byte1_plain hp
          have hn2 := HF.out
          rw [pa_byte hb (byte1_not_dot hb), List.drop_drop] at hn2
          have HN := Lib.hid hn2
          have hsl := slice_at s n (n + 1) (by omega) (by omega) (n : Int) ((n : Int) + 1) rfl (by omega)
          have e1 : (s.drop n).take (n + 1 - n) = [c] := by rw [HD.out, show n + 1 - n = 1 by omega]; rfl
          rw [e1] at hsl
          rw [hp] at PL
          have hb1 := bs_size [c]
          have HX := Lib.hid (show bs (lab ++ [c]) = bs lab ++ bs [c] by rw [bs_append])
          clear hb hn2 e1 hp hc
          generalize c.toNat = m at *
          go_wp2_with fail
          refine (PL.out _).mono ?_
          rintro e w3 ⟨rfl, rfl⟩
          go_wp2_with fail
          go_roundw
          case rel => exact ⟨n + 1, L, lab ++ [c], by go_num, by omega, by simp; omega, by omega, by rw [HX.out], hown, HLab.out, HN.out, hB⟩
          case measure => simp [intOf]; omega
        | false =>
          rw [hp] at PL
          by_cases h46 : c.toNat = 46
          · have hd : (s.drop n).head?.map (·.toNat) = some 46 := by rw [HH.out, h46]
            have hn2 := HF.out
            rw [pa_dot hd, List.tail_drop] at hn2
            rw [h46] at hix PL
            by_cases hok : 1 ≤ lab.length ∧ lab.length ≤ 63
            · rw [if_pos hok] at hn2
              have HN := Lib.hid hn2
              obtain ⟨k1, k2⟩ := hok
              have g1 : ¬ (lab.length : Int) < 1 := by omega
              have g2 : ¬ (63 : Int) < (lab.length : Int) := by omega
              have HM := Lib.hid (show (L ++ [lab]).map (fun x => Value.string (bs x)) = L.map (fun x => Value.string (bs x)) ++ [.string (bs lab)] by simp)
              clear hd hn2 h46 hp hc
              go_wp2_with fail
              refine (PL.out _).mono ?_
              rintro e w3 ⟨rfl, rfl⟩
              go_wp2_with (at_builtin; refine wpList_append_own _ rfl _ _ 41 rfl w.heap.size 9 i0 (.string ⟨#[]⟩) 1 16 Try.underlying41 hi hz0 hz1 hz2 rfl (by decide) _ _ _ rfl (hown.alloc _) ⟨wr.heap.size, 0, none⟩ 1 1 [.string (bs lab)] rfl rfl ?c1 ?c2 ?c3 ?c4 ?c5 ?_)
              case c1 => exact World.news_of_block (cs := #[.string (bs lab)]) (t := 9) (fr := (0, 0)) (row_new _ rfl)
              case c2 => simp [Value.oneCell']
              case c3 => unfold maxLen; omega
              case c4 => omega
              case c5 => simp; omega
              intro v' w1 hown1 hgrow _
              have hB1 : Below w.heap.size w w1 := Below.grown (Below.alloc hB hB.size _) hgrow (by simp; omega) (fun g e => (hown.lt g e).1)
              clear hgrow hB hown
              go_wp2_with fail
              go_roundw
              case rel => exact ⟨n + 1, L ++ [lab], [], by go_num, by omega, by simp, by simp; omega, rfl, by rw [HM.out, List.length_append]; exact hown1, fun x hx => by
                rcases List.mem_append.1 hx with hx | hx
                · exact HLab.out x hx
                · simp at hx; subst hx; exact ⟨k1, k2⟩, HN.out, hB1⟩
              case measure => simp [intOf]; omega
            · rw [if_neg hok] at hn2
              have HZ := Lib.hid (parse_none HS.out hn2)
              clear hd hn2 h46 hp hc
              by_cases g1 : (lab.length : Int) < 1
              · clear hok
                go_wp2_with fail
                refine (PL.out _).mono ?_
                rintro e w3 ⟨rfl, rfl⟩
                go_wp2_with fail
                go_ret2
                exact ⟨by rw [HZ.out]; rfl, hB⟩
              · have g2 : (63 : Int) < (lab.length : Int) := by omega
                clear hok
                go_wp2_with fail
                refine (PL.out _).mono ?_
                rintro e w3 ⟨rfl, rfl⟩
                go_wp2_with fail
                go_ret2
                exact ⟨by rw [HZ.out]; rfl, hB⟩
          · have hd : (s.drop n).head?.map (·.toNat) ≠ some 46 := by rw [HH.out]; intro e; exact h46 (by injection e)
            have hne : s.drop n ≠ [] := by rw [HD.out]; exact List.cons_ne_nil _ _
            have f46 : ((c.toNat : Int) == 46) = false := by rw [beq_eq_false_iff_ne]; omega
            by_cases h92 : c.toNat = 92
            · have f92 : ((c.toNat : Int) == 92) = true := by rw [h92]; rfl
              by_cases hfew : s.length - n < 4
              · have hb : byte1 (s.drop n) = none := by rw [HD.out]; exact byte1_few h92 (by simp; omega)
                have HZ := Lib.hid (parse_bad HS.out HF.out (pa_bad hb hne hd))
                have g4 : ¬ (4 : Int) ≤ (s.length : Int) - (n : Int) := by omega
                clear hd hne h46 hp hc h92 hb hfew
                generalize c.toNat = m at *
                go_wp2_with fail
                refine (PL.out _).mono ?_
                rintro e w3 ⟨rfl, rfl⟩
                go_wp2_with fail
                go_ret2
                exact ⟨by rw [HZ.out]; rfl, hB⟩
              · have l1 : n + 1 < s.length := by omega
                have l2 : n + 2 < s.length := by omega
                have l3 : n + 3 < s.length := by omega
                have g4 : (4 : Int) ≤ (s.length : Int) - (n : Int) := by omega
                have hd4 : s.drop n = c :: s[n + 1] :: s[n + 2] :: s[n + 3] :: s.drop (n + 4) := by
                  rw [HD.out, List.drop_eq_getElem_cons l1, List.drop_eq_getElem_cons l2, List.drop_eq_getElem_cons l3]
                have i1 := index_at s (n + 1) l1 ((n : Int) + 1) (by omega)
                have i2 := index_at s (n + 2) l2 ((n : Int) + 2) (by omega)
                have i3 := index_at s (n + 3) l3 ((n : Int) + 3) (by omega)
                have hb := byte1_back (d1 := s[n + 1]) (d2 := s[n + 2]) (d3 := s[n + 3]) (r := s.drop (n + 4)) h92
                rw [← hd4] at hb
                have u1 := (s[n + 1]).toNat_lt
                have u2 := (s[n + 2]).toNat_lt
                have u3 := (s[n + 3]).toNat_lt
                have D1 := Lib.hid (fun W => rdigit_any (s[n + 1]).toNat (by omega) W)
                have D2 := Lib.hid (fun W => rdigit_any (s[n + 2]).toNat (by omega) W)
                have D3 := Lib.hid (fun W => rdigit_any (s[n + 3]).toNat (by omega) W)
                have BB := Lib.hid hb
                have BAD := Lib.hid (fun hb : byte1 (s.drop n) = none => parse_bad HS.out HF.out (pa_bad hb hne hd))
                have GOOD := Lib.hid (fun (b : UInt8) (hb : byte1 (s.drop n) = some (b, 4)) => HF.out.trans (pa_byte hb hd))
                clear hd hne h46 hp hc h92 hb hfew hd4
                generalize (s[n + 1]).toNat = a1 at *
                generalize (s[n + 2]).toNat = a2 at *
                generalize (s[n + 3]).toNat = a3 at *
                generalize c.toNat = m at *
                cases hg1 : digN a1 with
                | false =>
                  have HZ := Lib.hid (BAD.out (by rw [BB.out, hg1]; simp))
                  rw [hg1] at D1
                  clear BB BAD GOOD hg1
                  go_wp2_with fail
                  refine (PL.out _).mono ?_
                  rintro e w3 ⟨rfl, rfl⟩
                  go_wp2_with fail
                  refine (D1.out _).mono ?_
                  rintro e w3 ⟨rfl, rfl⟩
                  go_wp2_with fail
                  go_ret2
                  exact ⟨by rw [HZ.out]; rfl, hB⟩
                | true =>
                  rw [hg1] at D1
                  cases hg2 : digN a2 with
                  | false =>
                    have HZ := Lib.hid (BAD.out (by rw [BB.out, hg1, hg2]; simp))
                    rw [hg2] at D2
                    clear BB BAD GOOD hg1 hg2
                    go_wp2_with fail
                    refine (PL.out _).mono ?_
                    rintro e w3 ⟨rfl, rfl⟩
                    go_wp2_with fail
                    refine (D1.out _).mono ?_
                    rintro e w3 ⟨rfl, rfl⟩
                    go_wp2_with fail
                    refine (D2.out _).mono ?_
                    rintro e w3 ⟨rfl, rfl⟩
                    go_wp2_with fail
                    go_ret2
                    exact ⟨by rw [HZ.out]; rfl, hB⟩
                  | true =>
                    rw [hg2] at D2
                    cases hg3 : digN a3 with
                    | false =>
                      have HZ := Lib.hid (BAD.out (by rw [BB.out, hg1, hg2, hg3]; simp))
                      rw [hg3] at D3
                      clear BB BAD GOOD hg1 hg2 hg3
                      go_wp2_with fail
                      refine (PL.out _).mono ?_
                      rintro e w3 ⟨rfl, rfl⟩
                      go_wp2_with fail
                      refine (D1.out _).mono ?_
                      rintro e w3 ⟨rfl, rfl⟩
                      go_wp2_with fail
                      refine (D2.out _).mono ?_
                      rintro e w3 ⟨rfl, rfl⟩
                      go_wp2_with fail
                      refine (D3.out _).mono ?_
                      rintro e w3 ⟨rfl, rfl⟩
                      go_wp2_with fail
                      go_ret2
                      exact ⟨by rw [HZ.out]; rfl, hB⟩
                    | true =>
                      rw [hg3] at D3
                      have r1 : 48 ≤ a1 ∧ a1 ≤ 57 := of_decide_eq_true hg1
                      have r2 : 48 ≤ a2 ∧ a2 ≤ 57 := of_decide_eq_true hg2
                      have r3 : 48 ≤ a3 ∧ a3 ≤ 57 := of_decide_eq_true hg3
                      obtain ⟨r11, r12⟩ := r1
                      obtain ⟨r21, r22⟩ := r2
                      obtain ⟨r31, r32⟩ := r3
                      have HB4 := Lib.hid (show byte1 (s.drop n) = if (a1 - 48) * 100 + (a2 - 48) * 10 + (a3 - 48) ≤ 255 then some (UInt8.ofNat ((a1 - 48) * 100 + (a2 - 48) * 10 + (a3 - 48)), 4) else none by rw [BB.out, hg1, hg2, hg3]; simp)
                      clear BB hg1 hg2 hg3
                      have W1 : Hid (IntKind.u8.wrap ((a1 : Int) - 48) = (a1 : Int) - 48 ∧ IntKind.u8.wrap ((a2 : Int) - 48) = (a2 : Int) - 48 ∧ IntKind.u8.wrap ((a3 : Int) - 48) = (a3 : Int) - 48 ∧
                        IntKind.i64.wrap ((a1 : Int) - 48) = (a1 : Int) - 48 ∧ IntKind.i64.wrap ((a2 : Int) - 48) = (a2 : Int) - 48 ∧ IntKind.i64.wrap ((a3 : Int) - 48) = (a3 : Int) - 48 ∧
                        IntKind.i64.wrap (((a1 : Int) - 48) * 100) = ((a1 : Int) - 48) * 100 ∧ IntKind.i64.wrap (((a2 : Int) - 48) * 10) = ((a2 : Int) - 48) * 10 ∧
                        IntKind.i64.wrap (((a1 : Int) - 48) * 100 + ((a2 : Int) - 48) * 10) = ((a1 : Int) - 48) * 100 + ((a2 : Int) - 48) * 10 ∧
                        IntKind.i64.wrap (((a1 : Int) - 48) * 100 + ((a2 : Int) - 48) * 10 + ((a3 : Int) - 48)) = ((a1 : Int) - 48) * 100 + ((a2 : Int) - 48) * 10 + ((a3 : Int) - 48) ∧
                        IntKind.i64.wrap ((n : Int) + 1) = (n : Int) + 1 ∧ IntKind.i64.wrap ((n : Int) + 2) = (n : Int) + 2 ∧ IntKind.i64.wrap ((n : Int) + 3) = (n : Int) + 3) :=
                        Lib.hid ⟨IntWalk.u8_in _ (by omega), IntWalk.u8_in _ (by omega), IntWalk.u8_in _ (by omega), IntWalk.i64_in _ (by omega), IntWalk.i64_in _ (by omega), IntWalk.i64_in _ (by omega), IntWalk.i64_in _ (by omega), IntWalk.i64_in _ (by omega), IntWalk.i64_in _ (by omega), IntWalk.i64_in _ (by omega), IntWalk.i64_in _ (by omega), IntWalk.i64_in _ (by omega), IntWalk.i64_in _ (by omega)⟩
                      obtain ⟨V, hV⟩ : ∃ V : Nat, V = (a1 - 48) * 100 + (a2 - 48) * 10 + (a3 - 48) := ⟨_, rfl⟩
                      have hVi : (V : Int) = ((a1 : Int) - 48) * 100 + ((a2 : Int) - 48) * 10 + ((a3 : Int) - 48) := by omega
                      rw [← hV] at HB4
                      have HV := Lib.hid hVi
                      clear hV hVi
                      by_cases hbig : V ≤ 255
                      · have hg := GOOD.out (UInt8.ofNat V) (by rw [HB4.out, if_pos hbig])
                        rw [List.drop_drop] at hg
                        have HN := Lib.hid hg
                        have hb1 := bs_size [UInt8.ofNat V]
                        have HX := Lib.hid (show bs (lab ++ [UInt8.ofNat V]) = bs lab ++ bs [UInt8.ofNat V] by rw [bs_append])
                        clear hg GOOD BAD HB4
                        go_wp2_with fail
                        refine (PL.out _).mono ?_
                        rintro e w3 ⟨rfl, rfl⟩
                        go_wp2_with fail
                        refine (D1.out _).mono ?_
                        rintro e w3 ⟨rfl, rfl⟩
                        go_wp2_with fail
                        refine (D2.out _).mono ?_
                        rintro e w3 ⟨rfl, rfl⟩
                        go_wp2_with fail
                        refine (D3.out _).mono ?_
                        rintro e w3 ⟨rfl, rfl⟩
                        go_wp2_with fail
                        obtain ⟨q1, q2, q3, q4, q5, q6, q7, q8, q9, q10, q11, q12, q13⟩ := W1.out
                        go_quiet (fail)
                        clear q1 q2 q3 q4 q5 q6 q7 q8 q9 q10 q11 q12 q13 W1
                        rw [← HV.out]
                        have hownq : (wr.drewN nq).ownsRow w.heap.size 9 1 u4 L.length (L.map fun x => .string (bs x)) := hown
                        have hBq := below_drewN hB nq
                        clear hown hB hsz1
                        generalize wr.drewN nq = wq at *
                        have h1s := one_string8 wq V hbig (V : Int) rfl
                        have hbigi : ¬ (255 : Int) < (V : Int) := by omega
                        go_wp2_with fail
                        go_roundw
                        case rel => exact ⟨n + 4, L, lab ++ [UInt8.ofNat V], by go_num, by omega, by simp; omega, by omega, by rw [HX.out], hownq.alloc _, HLab.out, HN.out, Below.alloc hBq hBq.size _⟩
                        case measure => simp [intOf]; omega
                      · have HZ := Lib.hid (BAD.out (by rw [HB4.out, if_neg hbig]))
                        clear GOOD BAD HB4
                        go_wp2_with fail
                        refine (PL.out _).mono ?_
                        rintro e w3 ⟨rfl, rfl⟩
                        go_wp2_with fail
                        refine (D1.out _).mono ?_
                        rintro e w3 ⟨rfl, rfl⟩
                        go_wp2_with fail
                        refine (D2.out _).mono ?_
                        rintro e w3 ⟨rfl, rfl⟩
                        go_wp2_with fail
                        refine (D3.out _).mono ?_
                        rintro e w3 ⟨rfl, rfl⟩
                        go_wp2_with fail
                        obtain ⟨q1, q2, q3, q4, q5, q6, q7, q8, q9, q10, q11, q12, q13⟩ := W1.out
                        go_quiet (fail)
                        clear q1 q2 q3 q4 q5 q6 q7 q8 q9 q10 q11 q12 q13 W1
                        rw [← HV.out]
                        have hBq := below_drewN hB nq
                        have hbigi : (255 : Int) < (V : Int) := by omega
                        clear hown hB hsz1
                        generalize wr.drewN nq = wq at *
                        go_wp2_with fail
                        go_ret2
                        exact ⟨by rw [HZ.out]; rfl, hBq⟩
            · have hb : byte1 (s.drop n) = none := by rw [HD.out]; exact byte1_other hp h92
              have HZ := Lib.hid (parse_bad HS.out HF.out (pa_bad hb hne hd))
              have f92 : ((c.toNat : Int) == 92) = false := by rw [beq_eq_false_iff_ne]; omega
              clear hd hne h46 hp hc h92 hb
              generalize c.toNat = m at *
              go_wp2_with fail
              refine (PL.out _).mono ?_
              rintro e w3 ⟨rfl, rfl⟩
              go_wp2_with fail
              go_ret2
              exact ⟨by rw [HZ.out]; rfl, hB⟩
      · have hf := HF.out
        rw [List.drop_eq_nil_of_le (by omega), pa_nil] at hf
        cases lab with
        | cons b lab =>
          rw [if_neg (by simp)] at hf
          have HZ := Lib.hid (parse_none HS.out hf)
          have k1 : ((bs (b :: lab)).toList == []) = false := by rw [bs_toList]; rfl
          clear hf
          go_wp2_with fail
          go_ret2
          exact ⟨by rw [HZ.out]; rfl, hB⟩
        | nil =>
          rw [if_pos rfl] at hf
          have hps := parse_some HS.out hf
          obtain ⟨A, c, rfl, hc⟩ := own_form hown
          cases L with
          | nil =>
            rw [if_pos rfl] at hps
            have HP := Lib.hid hps
            clear hps hf
            go_wp2_with fail
            go_ret2
            exact ⟨by rw [HP.out]; rfl, hB⟩
          | cons x M =>
            rw [if_neg (by simp)] at hps
            have HP0 := Lib.hid hps
            have hST := (own_strs hown).2
            have J := Lib.hid (Join_any A c (x :: M) wr hST (fun y hy => (HLab.out y hy).2) (by omega))
            have hz : (((x :: M).length : Int) == 0) = false := by rw [beq_eq_false_iff_ne]; simp; omega
            have hsj := bs_size (join (x :: M))
            clear hps hf hST hown
            generalize (x :: M).length = k at *
            generalize join (x :: M) = y at *
            by_cases h255 : 255 < y.length
            · have HP := Lib.hid (HP0.out.trans (if_pos h255))
              have h1 : (255 : Int) < (y.length : Int) := by omega
              clear HP0
              go_wp2_with fail
              refine J.out.mono ?_
              rintro e w1 ⟨rfl, b1⟩
              go_wp2_with fail
              go_ret2
              exact ⟨by rw [HP.out]; rfl, Below.trans hB (b1.mono hB.size)⟩
            · have HP := Lib.hid (HP0.out.trans (if_neg h255))
              have h1 : ¬ (255 : Int) < (y.length : Int) := by omega
              clear HP0
              go_wp2_with fail
              refine J.out.mono ?_
              rintro e w1 ⟨rfl, b1⟩
              go_wp2_with fail
              go_ret2
              exact ⟨by rw [HP.out]; rfl, Below.trans hB (b1.mono hB.size)⟩
end Go.Proofs.Ytigpkcpdccgnfaa
