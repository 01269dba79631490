/-
  The document's Text.
-/
import Derived.Test.YtigpkcpdccgnfaaNmV
import Derived.Test.YtigpkcpdccgnfaaNmRb
namespace Go.Proofs.Ytigpkcpdccgnfaa
open Go.RowKit
set_option linter.unusedVariables false

theorem escs_snoc (x : Bs) (b : UInt8) : escs (x ++ [b]) = escs x ++ esc b := by simp [escs]
theorem textL_snoc (L : List Bs) (x : Bs) : textL (L ++ [x]) = textL L ++ (escs x ++ [46]) := by simp [textL]
theorem esc_len (b : UInt8) : (esc b).length ≤ 4 := by
  have := (esc_all b.toNat (by have := b.toNat_lt; omega)).1
  have eb : UInt8.ofNat b.toNat = b := by simp
  rw [eb] at this
  exact this
theorem escs_len (x : Bs) : (escs x).length ≤ 4 * x.length := by
  induction x with
  | nil => simp [escs]
  | cons b x ih =>
    have := esc_len b
    simp [escs] at ih ⊢
    omega
theorem textL_len {L : List Bs} (h : ∀ x ∈ L, x.length ≤ 63) : (textL L).length ≤ 253 * L.length := by
  induction L with
  | nil => simp [textL]
  | cons x L ih =>
    have := ih fun y hy => h y (by simp [hy])
    have := h x (by simp)
    have := escs_len x
    simp [textL] at *
    omega

theorem three_string (w : World) (a b c : Nat) (ha : a < 256) (hb : b < 256) (hc : c < 256) (x y z : Int) (hx : x = a) (hy : y = b) (hz : z = c) : (convert 34 9 (.slice (some ⟨w.heap.size, 0, none⟩) 3 3)).run Try.prog (w.alloc (Obj.cells #[.int .u8 x, .int .u8 y, .int .u8 z] 5 (0, 0))) = .ok (.string (bs [UInt8.ofNat a, UInt8.ofNat b, UInt8.ofNat c])) (w.alloc (Obj.cells #[.int .u8 x, .int .u8 y, .int .u8 z] 5 (0, 0))) := by
  subst hx hy hz
  refine run_convert_bytes_back (P := Try.prog) _ 34 9 5 ⟨w.heap.size, 0, none⟩ 3 [UInt8.ofNat a, UInt8.ofNat b, UInt8.ofNat c] Try.underlying34 Try.underlying5 Try.underlying9 (fun j hj => ?_)
  have e : (⟨w.heap.size, 0, none⟩ : Addr).add j = ⟨w.heap.size, j, none⟩ := by unfold Addr.add; split <;> simp_all
  rw [e]
  refine (cell_of_row _ _ _ _ _ _ (row_new _ rfl)).trans ?_
  simp at hj
  match j, hj with
  | 0, _ => simp; omega
  | 1, _ => simp; omega
  | 2, _ => simp; omega

theorem text_no {l : Bs} (h : can l = false) : text l = [] := by unfold text; rw [if_neg (by simp [h])]

set_option maxHeartbeats 4000000 in
set_option maxRecDepth 100000 in
theorem rText_any (l : Bs) (w : World) : Calls Try.prog 16 #[.string (bs l)] w fun e w' => e = .returned (.string (bs (text l))) ∧ Below w.heap.size w w' := by
  have C := Lib.hid (fun W => rCan_any l W)
  have ex := bs_toList l
  cases h : can l
  · rw [text_no h]
    rw [h] at C
    clear h
    go_enter Try.func16, Try.ntmps16
    go_wp2_with fail
    refine (C.out _).mono ?_
    rintro e w1 ⟨rfl, rfl⟩
    go_wp2_with fail
    go_ret
    exact ⟨rfl, Below.refl _ _⟩
  · rw [h] at C
    obtain ⟨hl, _, hj, hL⟩ := can_out h
    by_cases h0 : labels l = []
    · have e0 : l = [0] := by rw [h0] at hj; exact hj
      have HT := Lib.hid (show text l = [46] by rw [e0]; exact text_root)
      subst e0
      clear h hj hL h0
      rw [HT.out]
      go_enter Try.func16, Try.ntmps16
      go_wp2_with fail
      refine (C.out _).mono ?_
      rintro e w1 ⟨rfl, rfl⟩
      go_wp2_with fail
      go_ret
      exact ⟨rfl, Below.refl _ _⟩
    · have hne : (l == [0]) = false := by
        rw [beq_eq_false_iff_ne]
        intro e
        rw [e] at h0
        exact h0 (can_join (L := []) (by simp) (by decide)).2
      have ht : text l = textL (labels l) := by unfold text; rw [if_pos h, if_neg h0]
      have LB := Lib.hid (fun W => Labels_any l W)
      have hcn := can_count h
      have HL := Lib.hid (fun x hx => (hL x hx).2 : ∀ x ∈ labels l, x.length ≤ 63)
      have HT := Lib.hid ht
      clear h hj hL h0 ht
      generalize text l = y at *
      generalize labels l = L at *
      go_enter Try.func16, Try.ntmps16
      go_wp2_with fail
      refine (C.out _).mono ?_
      rintro e w1 ⟨rfl, rfl⟩
      go_wp2_with fail
      refine (LB.out _).mono ?_
      rintro e w1 ⟨A, c, rfl, hS, hc, hB⟩
      clear C LB hne ex
      go_wp2_with fail
      go_loopw [3, 16] (fun v i wr => ∃ k : Nat, i = .int .i64 k ∧ k ≤ L.length ∧ v = .string (bs (textL (L.take k))) ∧ Below w1.heap.size w1 wr) (fun _ i _ => L.length - (intOf i).toNat)
      case atStart => exact ⟨0, rfl, by omega, rfl, Below.refl _ _⟩
      case round =>
        obtain ⟨k, rfl, hk, rfl, hB1⟩ := hrel
        have htl := textL_len (L := L.take k) (fun x hx => HL.out x (List.mem_of_mem_take hx))
        rw [List.length_take, Nat.min_eq_left hk] at htl
        by_cases hlt : k < L.length
        · obtain ⟨g, off, rfl, hcs⟩ := (hS.on hB1) (by omega)
          have hck := hcs k hlt
          have hx63 := HL.out L[k] (List.getElem_mem hlt)
          have hsn : textL (L.take (k + 1)) = textL (L.take k) ++ (escs L[k] ++ [46]) := by rw [List.take_succ_eq_append_getElem hlt, textL_snoc]
          obtain ⟨x, hx⟩ : ∃ x, x = L[k] := ⟨_, rfl⟩
          obtain ⟨p, hp⟩ : ∃ p, p = textL (L.take k) := ⟨_, rfl⟩
          rw [← hx] at hck hx63 hsn
          rw [← hp] at hsn htl
          rw [← hp]
          have HN := Lib.hid hsn
          clear hcs hx hp hsn
          have hxs := bs_size x
          have hlt' : (k : Int) < (L.length : Int) := by omega
          obtain ⟨wo, hwo⟩ : ∃ wo : World, wo = wr := ⟨_, rfl⟩
          subst hwo
          go_wp2_with fail
          go_loopw [3, 6] (fun v i wr => ∃ j : Nat, i = .int .i64 j ∧ j ≤ x.length ∧ v = .string (bs (p ++ escs (x.take j))) ∧ Below w1.heap.size w1 wr) (fun _ i _ => x.length - (intOf i).toNat)
          case atStart => exact ⟨0, rfl, by omega, by simp [escs], hB1⟩
          case round =>
            clear hck hB1
            obtain ⟨j, rfl, hj, rfl, hB1⟩ := hrel
            have hel := escs_len (x.take j)
            rw [List.length_take, Nat.min_eq_left hj] at hel
            by_cases hjt : j < x.length
            · have hix := index_at x j hjt j rfl
              have hsl := slice_at x j (j + 1) (by omega) (by omega) (j : Int) ((j : Int) + 1) rfl (by omega)
              have e1 : (x.drop j).take (j + 1 - j) = [x[j]] := by
                rw [List.drop_eq_getElem_cons hjt, show j + 1 - j = 1 by omega]; rfl
              rw [e1] at hsl
              have hes : escs (x.take (j + 1)) = escs (x.take j) ++ esc x[j] := by rw [List.take_succ_eq_append_getElem hjt, escs_snoc]
              obtain ⟨b, hb⟩ : ∃ b, b = x[j] := ⟨_, rfl⟩
              rw [← hb] at hix hsl hes
              have hbt := b.toNat_lt
              have PL := Lib.hid (fun W => rplain_any b.toNat (by omega) W)
              have HE := Lib.hid hes
              have hjt' : (j : Int) < (x.length : Int) := by omega
              generalize escs (x.take j) = q at *
              have hps := bs_size p
              have hqs := bs_size (p ++ q)
              have hql : (p ++ q).length ≤ 253 * 127 + 4 * 63 := by rw [List.length_append]; omega
              have hb1 := bs_size [b]
              clear hes hb e1
              cases hpl : plainN b.toNat with
              | true =>
                have he : esc b = [b] := by unfold esc; rw [if_pos hpl]
                have HX := Lib.hid (show bs (p ++ (q ++ esc b)) = bs (p ++ q) ++ bs [b] by rw [he, ← List.append_assoc, bs_append])
                rw [hpl] at PL
                clear hpl he
                generalize p ++ q = t at *
                go_wp2_with fail
                refine (PL.out _).mono ?_
                rintro e w3 ⟨rfl, rfl⟩
                go_wp2_with fail
                go_roundw
                case rel => exact ⟨j + 1, by go_num, by omega, by rw [HE.out, HX.out], hB1⟩
                case measure => simp [intOf]; omega
              | false =>
                have he : esc b = [92, UInt8.ofNat (48 + b.toNat / 100), UInt8.ofNat (48 + b.toNat / 10 % 10), UInt8.ofNat (48 + b.toNat % 10)] := by unfold esc; rw [if_neg (by simp [hpl])]
                have HX := Lib.hid (show bs (p ++ (q ++ esc b)) = bs (p ++ q) ++ (bs [92] ++ bs [UInt8.ofNat (48 + b.toNat / 100), UInt8.ofNat (48 + b.toNat / 10 % 10), UInt8.ofNat (48 + b.toNat % 10)]) by rw [he, ← List.append_assoc, bs_append, bs_append]; rfl)
                have h3 := three_string wr (48 + b.toNat / 100) (48 + b.toNat / 10 % 10) (48 + b.toNat % 10) (by omega) (by omega) (by omega) (48 + (b.toNat : Int) / 100) (48 + (b.toNat : Int) / 10 % 10) (48 + (b.toNat : Int) % 10) (by omega) (by omega) (by omega)
                have h3s := bs_size [UInt8.ofNat (48 + b.toNat / 100), UInt8.ofNat (48 + b.toNat / 10 % 10), UInt8.ofNat (48 + b.toNat % 10)]
                rw [hpl] at PL
                clear hpl he
                generalize p ++ q = t at *
                generalize bs [UInt8.ofNat (48 + b.toNat / 100), UInt8.ofNat (48 + b.toNat / 10 % 10), UInt8.ofNat (48 + b.toNat % 10)] = z at *
                simp only [List.length_cons, List.length_nil] at h3s
                go_wp2_with fail
                refine (PL.out _).mono ?_
                rintro e w3 ⟨rfl, rfl⟩
                go_wp2_with fail
                go_roundw
                case rel => exact ⟨j + 1, by go_num, by omega, by rw [HE.out, HX.out], Below.alloc hB1 hB1.size _⟩
                case measure => simp [intOf]; omega
            · obtain rfl : j = x.length := by omega
              rw [List.take_length] at hel
              have hql : (p ++ escs x).length ≤ 253 * 127 + 4 * 63 := by rw [List.length_append]; omega
              have hqs := bs_size (p ++ escs x)
              have HX := Lib.hid (show bs (p ++ (escs x ++ [46])) = bs (p ++ escs x) ++ bs [46] by rw [← List.append_assoc, bs_append])
              rw [List.take_length]
              generalize p ++ escs x = t at *
              go_wp2_with fail
              go_roundw
              case rel => exact ⟨k + 1, by go_num, by omega, by rw [HN.out, HX.out], hB1⟩
              case measure => simp [intOf]; omega
        · obtain rfl : k = L.length := by omega
          rw [List.take_length]
          rw [List.take_length] at htl
          go_wp2_with fail
          go_ret
          exact ⟨by rw [HT.out]; rfl, Below.trans hB (hB1.mono hB.size)⟩
end Go.Proofs.Ytigpkcpdccgnfaa
