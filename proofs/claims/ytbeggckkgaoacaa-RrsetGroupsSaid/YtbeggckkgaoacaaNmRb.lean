/-
  The document's small, Lower, Same, Count.
-/
import Derived.Test.YtbeggckkgaoacaaGb
namespace Go.Proofs.Ytbeggckkgaoacaa
open Go.RowKit
set_option linter.unusedVariables false
set_option maxRecDepth 100000

set_option maxHeartbeats 1000000 in
theorem rsmall_any (l : Bs) (w : World) (hll : l.length ≤ 1000000) : Calls Try.prog 95 #[.string (bs l)] w fun e w' => e = .returned (.string (bs (low l))) ∧ Below w.heap.size w w' := by
  obtain ⟨cap, w2, hcv, hY, hB3⟩ := conv_bytes l w
  have hlo : w.heap.size ≤ w.heap.size := Nat.le_refl _
  go_enter Try.func95, Try.ntmps95
  go_wp2_with fail
  clear hcv
  rw [← mix_zero l] at hY
  go_loopw [10] (fun v wr => ∃ k : Nat, v = .int .i64 k ∧ k ≤ l.length ∧ Byt wr w.heap.size (mix l k) ∧ Below w.heap.size w wr) (fun v _ => l.length - (intOf v).toNat)
  case atStart => exact ⟨0, rfl, by omega, hY, hB3⟩
  case round =>
    clear hY hB3
    obtain ⟨k, rfl, hk, hY, hB⟩ := hrel
    by_cases hlt : k < l.length
    · have hc := hY.cell k (by rw [mix_len]; exact hlt)
      rw [mix_at l k hlt] at hc
      have hf := hY.free k (by rw [mix_len]; exact hlt)
      have hsame := mix_same l k hlt
      have hst := mix_set l k hlt
      have hn := small_nat l[k]
      have hb := (l[k]).toNat_lt
      have hset : ∀ n : Int, n = ((small l[k]).toNat : Int) → Byt (wr.setCell ⟨w.heap.size, k, none⟩ (.int .u8 n)) w.heap.size ((mix l k).set k (small l[k])) := fun n hn => hY.set (k := k) (small l[k]) (n := n) hn
      rw [hst] at hset
      have hlt' : (k : Int) < (l.length : Int) := by omega
      have H1 := Lib.hid hset
      have H2 := Lib.hid hn
      have H3 := Lib.hid (fun h => UInt8.toNat_inj.1 h : (small l[k]).toNat = (l[k]).toNat → small l[k] = l[k])
      have H4 := Lib.hid hsame
      clear hset hn hsame hst
      generalize (l[k]).toNat = b at *
      by_cases h1 : (b : Int) < 65
      · have h1' : ¬ (65 : Int) ≤ (b : Int) := by omega
        have e := H2.out
        rw [if_neg (by omega)] at e
        rw [H4.out (H3.out e)] at hY
        clear e H1 H2 H3 H4
        go_wp2_with fail
        go_roundw
        case rel => exact ⟨k + 1, by go_num, by omega, hY, hB⟩
        case measure => simp [intOf]; omega
      · by_cases h2 : (b : Int) ≤ 90
        · have e := H2.out
          rw [if_pos (by omega)] at e
          have hY2 := H1.out ((b : Int) + 32) (by omega)
          clear e H1 H2 H3 H4 hY
          go_wp2_with fail
          go_roundw
          case rel => exact ⟨k + 1, by go_num, by omega, hY2, Below.setCell hB hlo _⟩
          case measure => simp [intOf]; omega
        · have e := H2.out
          rw [if_neg (by omega)] at e
          rw [H4.out (H3.out e)] at hY
          clear e H1 H2 H3 H4
          go_wp2_with fail
          go_roundw
          case rel => exact ⟨k + 1, by go_num, by omega, hY, hB⟩
          case measure => simp [intOf]; omega
    · obtain rfl : k = l.length := by omega
      rw [mix_all] at hY
      have hback := run_convert_bytes_back (P := Try.prog) wr 37 9 5 ⟨w.heap.size, 0, none⟩ cap (low l) Try.underlying37 Try.underlying5 Try.underlying9 (fun j hj => by
        rw [show (⟨w.heap.size, 0, none⟩ : Addr).add j = ⟨w.heap.size, j, none⟩ by unfold Addr.add; split <;> simp_all]
        exact hY.cell j hj)
      rw [low_len] at hback
      go_wp2_with fail
      go_ret
      exact ⟨rfl, hB⟩

theorem rown_form {w : World} {B : Nat} {v : Value} {k : Nat} {xs : List Value} (h : w.ownsRow B 9 1 v k xs) : ∃ A c, v = .slice A k c ∧ k ≤ c := by
  rcases h.2 with ⟨rfl, h0⟩ | ⟨g, cap, _, rfl, _, _, hc, _⟩
  · exact ⟨none, 0, by rw [h0], by omega⟩
  · exact ⟨_, _, rfl, hc⟩

theorem rown_on {w w2 : World} {B : Nat} {v : Value} {k : Nat} {xs : List Value} (h : w.ownsRow B 9 1 v k xs) (hB : Below w.heap.size w w2) : w2.ownsRow B 9 1 v k xs :=
  h.kept (row := none) ⟨hB.os, hB.tape, hB.output, hB.size, fun i hi _ => hB.block i hi⟩ (by cases v.ownBlock <;> simp)

set_option maxHeartbeats 2000000 in
set_option maxRecDepth 100000 in
theorem rLower_yes (l : Bs) (w : World) (h : can l = true) : Calls Try.prog 80 #[.string (bs l)] w fun e w' => e = .returned (.string (bs (low l))) ∧ Below w.heap.size w w' := by
  obtain ⟨i0, hi, hz0, hz1, hz2⟩ := info_parts info_str
  have C := Lib.hid (rCan_any l w)
  rw [h] at C
  obtain ⟨hl, _, hj, hL⟩ := can_out h
  have hcn := can_count h
  have hJ := low_join hL
  rw [← hj] at hJ
  have HL := Lib.hid (labs_low hL)
  have HJ := Lib.hid hJ
  have LB := Lib.hid (Labels_any l w)
  clear hj hL hJ h
  generalize labels l = L at *
  go_enter Try.func80, Try.ntmps80
  go_wp2_with fail
  refine C.out.mono ?_
  rintro e w1 ⟨rfl, rfl⟩
  clear C
  go_wp2_with fail
  refine LB.out.mono ?_
  rintro e w1 ⟨A, c, rfl, hS, hc, hB⟩
  clear LB
  have hsz := hB.size
  go_wp2_with fail
  go_loopw [3, 12] (fun v i wr => ∃ k : Nat, k ≤ L.length ∧ i = .int .i64 k ∧ wr.ownsRow w1.heap.size 9 1 v k (((L.map low).take k).map fun x => .string (bs x)) ∧ Below w1.heap.size w1 wr) (fun _ i _ => L.length - (intOf i).toNat)
  case atStart => exact ⟨0, by omega, rfl, ⟨rfl, .inl ⟨rfl, rfl⟩⟩, Below.refl _ _⟩
  case round =>
    obtain ⟨k, hk, rfl, hown, hB1⟩ := hrel
    by_cases hlt : k < L.length
    · obtain ⟨g, off, rfl, hcs⟩ := (hS.on hB1) (by omega)
      have hck := hcs k hlt
      clear hcs
      have htk : ((L.map low).take (k + 1)).map (fun x => Value.string (bs x)) = ((L.map low).take k).map (fun x => Value.string (bs x)) ++ [.string (bs (low L[k]))] := by
        rw [List.take_succ_eq_append_getElem (by simpa using hlt), List.map_append, List.getElem_map]; rfl
      have HT := Lib.hid htk
      clear htk
      have hlt' : (k : Int) < (L.length : Int) := by omega
      have S := Lib.hid (rsmall_any L[k] wr (by have := (HL.out (low L[k]) (List.mem_map.2 ⟨_, List.getElem_mem hlt, rfl⟩)).2; rw [low_len] at this; omega))
      obtain ⟨x, hx⟩ : ∃ x, x = L[k] := ⟨_, rfl⟩
      rw [← hx] at HT S hck
      clear hx
      have hsize := hB1.size
      go_wp2_with fail
      refine S.out.mono ?_
      rintro e w2 ⟨rfl, hB2⟩
      have hown2 := rown_on hown hB2
      have hB3 : Below w1.heap.size w1 w2 := Below.trans hB1 (hB2.mono hB1.size)
      have hsize2 := hB3.size
      clear S hown hB1 hB2
      go_wp2_with (at_builtin; refine wpList_append_own _ rfl _ _ 82 rfl w1.heap.size 9 i0 (.string ⟨#[]⟩) 1 16 Try.underlying82 hi hz0 hz1 hz2 rfl (by decide) _ _ _ rfl (hown2.alloc _) ⟨w2.heap.size, 0, none⟩ 1 1 [.string (bs (low x))] rfl rfl ?c1 ?c2 ?c3 ?c4 ?c5 ?_)
      case c1 => exact World.news_of_block (cs := #[.string (bs (low x))]) (t := 9) (fr := (0, 0)) (row_new _ rfl)
      case c2 => simp [Value.oneCell']
      case c3 => unfold maxLen; omega
      case c4 => omega
      case c5 => simp; omega
      intro v' w3 hown3 hgrow _
      have hB4 : Below w1.heap.size w1 w3 := Below.grown (Below.alloc hB3 hB3.size _) hgrow (by simp; omega) (fun g e => (hown2.lt g e).1)
      clear hgrow hB3 hown2
      go_wp2_with fail
      go_roundw
      case rel => exact ⟨k + 1, by omega, by go_num, by rw [HT.out, List.map_take, List.map_map]; exact hown3, hB4⟩
      case measure => simp [intOf]; omega
    · obtain rfl : k = L.length := by omega
      obtain ⟨A', c', rfl, hc'⟩ := rown_form hown
      rw [List.take_of_length_le (by simp)] at hown
      obtain ⟨hkl, hST⟩ := own_strs hown
      have hJ := Join_any A' c' (L.map low) wr hST (fun x hx => (HL.out x hx).2) (by simp; omega)
      rw [← hkl, ← HJ.out] at hJ
      have J := Lib.hid hJ
      clear hJ hST hown hkl
      go_wp2_with fail
      refine J.out.mono ?_
      rintro e w2 ⟨rfl, hB2⟩
      have hB3 : Below w.heap.size w w2 := Below.trans hB ((Below.trans hB1 (hB2.mono hB1.size)).mono hB.size)
      clear J hB1 hB2 hB
      go_wp2_with fail
      go_ret
      exact ⟨rfl, hB3⟩

theorem rLower_any (l : Bs) (w : World) : Calls Try.prog 80 #[.string (bs l)] w fun e w' => e = .returned (.string (bs (lower l))) ∧ Below w.heap.size w w' := by
  cases h : can l
  · rw [lower_no h]
    have C := Lib.hid (rCan_any l w)
    rw [h] at C
    clear h
    go_enter Try.func80, Try.ntmps80
    go_wp2_with fail
    refine C.out.mono ?_
    rintro e w1 ⟨rfl, rfl⟩
    go_wp2_with fail
    go_ret
    exact ⟨rfl, Below.refl _ _⟩
  · rw [lower_yes h]
    exact rLower_yes l w h

theorem rSame_any (a b : Bs) (w : World) : Calls Try.prog 65 #[.string (bs a), .string (bs b)] w fun e w' => e = .returned (.bool (same a b)) ∧ Below w.heap.size w w' := by
  have Ca := Lib.hid (fun W => rCan_any a W)
  have Cb := Lib.hid (fun W => rCan_any b W)
  have La := Lib.hid (fun W => rLower_any a W)
  have Lb := Lib.hid (fun W => rLower_any b W)
  have hs : same a b = (can a && can b && low a == low b) := rfl
  rw [hs]
  cases ha : can a
  · rw [ha] at Ca
    clear hs ha
    go_enter Try.func65, Try.ntmps65
    go_wp2_with fail
    refine (Ca.out _).mono ?_
    rintro e w1 ⟨rfl, rfl⟩
    go_wp2_with fail
    go_ret
    exact ⟨rfl, Below.refl _ _⟩
  · cases hb : can b
    · rw [ha] at Ca
      rw [hb] at Cb
      clear hs ha hb
      go_enter Try.func65, Try.ntmps65
      go_wp2_with fail
      refine (Ca.out _).mono ?_
      rintro e w1 ⟨rfl, rfl⟩
      go_wp2_with fail
      refine (Cb.out _).mono ?_
      rintro e w1 ⟨rfl, rfl⟩
      go_wp2_with fail
      go_ret
      exact ⟨rfl, Below.refl _ _⟩
    · rw [lower_yes ha] at La
      rw [lower_yes hb] at Lb
      rw [ha] at Ca
      rw [hb] at Cb
      have ea := bs_toList (low a)
      have eb := bs_toList (low b)
      clear hs ha hb
      go_enter Try.func65, Try.ntmps65
      go_wp2_with fail
      refine (Ca.out _).mono ?_
      rintro e w1 ⟨rfl, rfl⟩
      go_wp2_with fail
      refine (Cb.out _).mono ?_
      rintro e w1 ⟨rfl, rfl⟩
      go_wp2_with fail
      refine (La.out _).mono ?_
      rintro e w1 ⟨rfl, hB1⟩
      go_wp2_with fail
      refine (Lb.out _).mono ?_
      rintro e w2 ⟨rfl, hB2⟩
      go_wp2_with fail
      go_ret
      exact ⟨rfl, Below.trans hB1 (hB2.mono hB1.size)⟩

end Go.Proofs.Ytbeggckkgaoacaa
