/-
  The landed rdata: Make.
-/
import Derived.Test.YtbcgpdoljcokgaaRcC
import Derived.Test.YtbcgpdoljcokgaaRdM
namespace Go.Proofs.Ytbcgpdoljcokgaa
open Go.RowKit
set_option linter.unusedVariables false

theorem index5 (V : List Int) (h5 : V.length = 5) (k : Nat) (hk : k < V.length) (w : World) : (Instr.index 47 (.agg (V.map (Value.int .i64)).toArray) (.int .i64 k)).run Try.prog w = .ok (.int .i64 V[k]) w := by
  match V, h5 with
  | [a, b, c, d, e], _ =>
    have hk5 : k < 5 := hk
    match k, hk5 with
    | 0, _ => simp [Instr.index, run_underlying Try.underlying47, asIntOf, part, go_sem]
    | 1, _ => simp [Instr.index, run_underlying Try.underlying47, asIntOf, part, go_sem]
    | 2, _ => simp [Instr.index, run_underlying Try.underlying47, asIntOf, part, go_sem]
    | 3, _ => simp [Instr.index, run_underlying Try.underlying47, asIntOf, part, go_sem]
    | 4, _ => simp [Instr.index, run_underlying Try.underlying47, asIntOf, part, go_sem]

set_option maxHeartbeats 4000000 in
set_option maxRecDepth 100000 in
theorem dMake_any (m r : Bs) (a b c d e : Int) (w : World) : Calls Try.prog 18 #[.agg #[.string (bs m), .string (bs r), .int .i64 a, .int .i64 b, .int .i64 c, .int .i64 d, .int .i64 e]] w (MakePost w m r [a, b, c, d, e]) := by
  have hrow := row_new (w := w) (k := w.heap.size) (.cells #[.string (bs m), .string (bs r), .int .i64 a, .int .i64 b, .int .i64 c, .int .i64 d, .int .i64 e] 30 (0, 0)) rfl
  have hbel : Below w.heap.size w (w.alloc (.cells #[.string (bs m), .string (bs r), .int .i64 a, .int .i64 b, .int .i64 c, .int .i64 d, .int .i64 e] 30)) := Below.alloc (Below.refl _ _) (Nat.le_refl _) _
  obtain ⟨V, hV⟩ : ∃ V, V = [a, b, c, d, e] := ⟨_, rfl⟩
  rw [← hV]
  have HV := Lib.hid hV
  clear hV
  go_enter Try.func18, Try.ntmps18
  go_wp2_with fail
  obtain ⟨w1, hw1⟩ : ∃ w1, w1 = w.alloc (.cells #[.string (bs m), .string (bs r), .int .i64 a, .int .i64 b, .int .i64 c, .int .i64 d, .int .i64 e] 30) := ⟨_, rfl⟩
  rw [← hw1] at hrow hbel
  rw [← hw1]
  have s1 : w1.heap.size = w.heap.size + 1 := by rw [hw1]; simp
  clear hw1
  have lt1 : w.heap.size < w1.heap.size := by omega
  have c0 := (cell_of_row _ w.heap.size 0 _ _ _ hrow).trans (show _ = some (.string (bs m)) from rfl)
  refine (Can_any m _).mono ?_
  rintro e1 w2 ⟨rfl, q1⟩
  have hrow2 := (q1.block w.heap.size lt1).trans hrow
  have hbel2 : Below w.heap.size w w2 := Below.trans hbel (q1.mono hbel.size)
  have lt2 : w.heap.size < w2.heap.size := Nat.lt_of_lt_of_le lt1 q1.size
  clear q1 hrow hbel c0 lt1 s1 w1
  have c1 := (cell_of_row _ w.heap.size 1 _ _ _ hrow2).trans (show _ = some (.string (bs r)) from rfl)
  cases hm : can m with
  | false =>
    go_wp2_with fail
    go_ret2
    exact ⟨hbel2, .inl ⟨by unfold makes; rw [hm]; rfl, rfl⟩⟩
  | true =>
    go_wp2_with fail
    refine (Can_any r _).mono ?_
    rintro e1 w1 ⟨rfl, q2⟩
    have hrow := (q2.block w.heap.size lt2).trans hrow2
    have hbel : Below w.heap.size w w1 := Below.trans hbel2 (q2.mono hbel2.size)
    have lt1 : w.heap.size < w1.heap.size := Nat.lt_of_lt_of_le lt2 q2.size
    clear q2 hrow2 hbel2 c1 lt2
    cases hr : can r with
    | false =>
      go_wp2_with fail
      go_ret2
      exact ⟨hbel, .inl ⟨by unfold makes; rw [hm, hr]; rfl, rfl⟩⟩
    | true =>
      have c0 := (cell_of_row _ w.heap.size 0 _ _ _ hrow).trans (show _ = some (.string (bs m)) from rfl)
      have c1 := (cell_of_row _ w.heap.size 1 _ _ _ hrow).trans (show _ = some (.string (bs r)) from rfl)
      have lm := (can_out hm).1
      have lr := (can_out hr).1
      obtain ⟨v, w3, hcv, hown, hb3⟩ := conv_own (m ++ r) w1 (by simp; omega)
      rw [← bs_append] at hcv
      have k0 := (hb3.block w.heap.size lt1).trans hrow
      have c2 := (cell_of_row _ w.heap.size 2 _ _ _ k0).trans (show _ = some (.int .i64 a) from rfl)
      have c3 := (cell_of_row _ w.heap.size 3 _ _ _ k0).trans (show _ = some (.int .i64 b) from rfl)
      have c4 := (cell_of_row _ w.heap.size 4 _ _ _ k0).trans (show _ = some (.int .i64 c) from rfl)
      have c5 := (cell_of_row _ w.heap.size 5 _ _ _ k0).trans (show _ = some (.int .i64 d) from rfl)
      have c6 := (cell_of_row _ w.heap.size 6 _ _ _ k0).trans (show _ = some (.int .i64 e) from rfl)
      go_wp2_with fail
      have hV := HV.out
      obtain ⟨G, hGG⟩ : ∃ G : Array Value, G = #[.int .i64 a, .int .i64 b, .int .i64 c, .int .i64 d, .int .i64 e] := ⟨_, rfl⟩
      rw [← hGG]
      have hGV : G = (V.map (Value.int .i64)).toArray := by rw [hGG, hV]; rfl
      have hV5 : V.length = 5 := by rw [hV]; rfl
      have hpos : 0 < (m ++ r).length := by
        have := can_out hm
        rw [List.length_append]
        have h2 : m ≠ [] := by rintro rfl; simp [can, labs] at hm
        have := List.length_pos_iff.2 h2
        omega
      have HM := Lib.hid hm
      have HR := Lib.hid hr
      have HB := Lib.hid hbel
      have HG := Lib.hid hGV
      clear c0 c1 c2 c3 c4 c5 c6 k0 hcv hGG hGV hV hrow hm hr hbel
      go_loopw [4, 34] (fun v i wr => ∃ k : Nat, k ≤ 5 ∧ i = .int .i64 k ∧ OwnB wr w1.heap.size v (m ++ r ++ putL (V.take k)) ∧ Hid ((V.take k).all fit = true) ∧ Below w1.heap.size w1 wr) (fun _ i _ => 5 - (intOf i).toNat)
      case atStart => exact ⟨0, by omega, rfl, by simpa [putL] using hown, Lib.hid rfl, hb3⟩
      case round =>
        obtain ⟨k, hk, rfl, hown2, HA, hB⟩ := hrel
        clear hown hb3
        have hown := hown2
        clear hown2
        by_cases hlt : k < 5
        · have hkV : k < V.length := by omega
          have hcell : ∀ W : World, (Instr.index 47 (.agg G) (.int .i64 k)).run Try.prog W = .ok (.int .i64 V[k]) W := fun W => by rw [HG.out]; exact index5 V hV5 k hkV W
          obtain ⟨x, hx⟩ : ∃ x, x = V[k] := ⟨_, rfl⟩
          rw [← hx] at hcell
          have HX := Lib.hid hx
          clear hx
          by_cases h0 : x < 0
          · go_wp2_with fail
            go_ret2
            exact ⟨HB.out.trans (hB.mono (by omega)), .inl ⟨makes_no hkV (by rw [← HX.out]; simp [fit]; omega), rfl⟩⟩
          · by_cases h1 : 4294967295 < x
            · go_wp2_with fail
              go_ret2
              exact ⟨HB.out.trans (hB.mono (by omega)), .inl ⟨makes_no hkV (by rw [← HX.out]; simp [fit]; omega), rfl⟩⟩
            · have hcells : (fourB x.toNat).map byteV = [.int .u8 (x / 16777216), .int .u8 (x / 65536 % 256), .int .u8 (x / 256 % 256), .int .u8 (x % 256)] := by
                obtain ⟨n, rfl⟩ : ∃ n : Nat, x = n := ⟨x.toNat, by omega⟩
                have e1 : n / 16777216 % 256 = n / 16777216 := by omega
                simp [fourB, byteV, e1]
              have htk : V.take (k + 1) = V.take k ++ [x] := by rw [List.take_succ_eq_append_getElem hkV, HX.out]
              have hL : (V.take k).length = k := by rw [List.length_take]; omega
              obtain ⟨N, hN⟩ : ∃ N, N = fourB x.toNat := ⟨_, rfl⟩
              have hN4 : N.length = 4 := by rw [hN]; rfl
              rw [← hN] at hcells
              obtain ⟨L, hLL⟩ : ∃ L, L = m ++ r ++ putL (V.take k) := ⟨_, rfl⟩
              rw [← hLL] at hown
              have hLl : L.length ≤ 1000 := by rw [hLL, List.length_append, List.length_append, putL_len, hL]; omega
              have hLp : 0 < L.length := by rw [hLL, List.length_append]; omega
              have hsum : L ++ N = m ++ r ++ putL (V.take (k + 1)) := by rw [htk, putL_snoc, hLL, hN, List.append_assoc]
              have HS := Lib.hid hsum
              have HC := Lib.hid hcells
              have HT := Lib.hid htk
              have hsz := hB.size
              clear htk hcells hLL hN hsum
              go_wp2_with (at_builtin; refine wpList_append_ownB rfl _ _ rfl w1.heap.size _ L rfl (hown.alloc _) ⟨wr.heap.size, 0, none⟩ 4 4 N rfl hN4.symm _ HC.out (World.news_of_block (cs := #[.int .u8 (x / 16777216), .int .u8 (x / 65536 % 256), .int .u8 (x / 256 % 256), .int .u8 (x % 256)]) (t := 5) (fr := (0, 0)) (row_new _ rfl)) (by omega) (by simp; omega) ?_)
              intro v' w4 hown4 hgrow
              have hB4 : Below w1.heap.size w1 w4 := Below.grown (Below.alloc hB hB.size _) hgrow (by simp; omega) (fun g e => (hown.lt g e).1)
              rw [HS.out] at hown4
              have HO := Lib.hid hown4
              clear hgrow hown hB hown4
              go_wp2_with fail
              go_roundw
              case rel => exact ⟨k + 1, by omega, by go_num, HO.out, Lib.hid (by rw [HT.out, List.all_append, HA.out]; simp [fit]; omega), hB4⟩
              case measure => simp [intOf]; omega
        · obtain rfl : k = 5 := by omega
          rw [show V.take 5 = V by rw [← hV5]; exact List.take_length] at hown HA
          go_wp2_with fail
          go_ret2
          exact ⟨HB.out.trans (hB.mono (by omega)), .inr ⟨by unfold makes; rw [HM.out, HR.out, HA.out]; rfl, _, rfl, hown.mono (base' := w.heap.size) (by omega)⟩⟩
end Go.Proofs.Ytbcgpdoljcokgaa
