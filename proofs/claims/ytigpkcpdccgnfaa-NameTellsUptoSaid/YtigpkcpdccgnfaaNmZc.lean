/-
  name.Text.
-/
import Derived.Test.YtigpkcpdccgnfaaNmX
import Derived.Test.YtigpkcpdccgnfaaNmZa
namespace Go.Proofs.Ytigpkcpdccgnfaa
open Go.RowKit
set_option linter.unusedVariables false

theorem heap_lt8 {w : World} {g : Nat} {o : Obj} (h : w.heap[g]? = some o) : g < w.heap.size := (Array.getElem?_eq_some_iff.1 h).1
theorem own8_ne {w : World} {B n : Nat} {v : Value} {xs : List Value} {g : Nat} {C : Array Value} {t : TypeId} {fr : Nat × Nat} (h : w.ownsRow B 5 1 v n xs) (hg : w.heap[g]? = some (.cells C t fr)) (hne : t ≠ 5 ∨ fr ≠ (0, 0)) : v.ownBlock ≠ some g := by
  rcases h.2 with ⟨rfl, _⟩ | ⟨g', cap, cur, rfl, _, hh, _⟩
  · simp [Value.ownBlock]
  · intro he
    have e : g' = g := by simpa [Value.ownBlock] using he
    subst e
    rw [hh] at hg
    injection hg with hg
    injection hg with _ h1 h2
    rcases hne with h | h
    · exact h h1.symm
    · exact h h2.symm
theorem grown_row {w w' : World} {r : Option Nat} {g : Nat} {o : Obj} (h : w.grownBy w' r) (hg : w.heap[g]? = some o) (hne : r ≠ some g) : w'.heap[g]? = some o := (h.block g (heap_lt8 hg) (fun e => hne e.symm)).trans hg
theorem below_row {w w' : World} {g : Nat} {o : Obj} (h : Below w.heap.size w w') (hg : w.heap[g]? = some o) : w'.heap[g]? = some o := (h.block g (heap_lt8 hg)).trans hg

/-- A string's bytes in the row of a conversion. -/
def Cvt (w : World) (g : Nat) (l : Bs) : Prop := ∃ C m, w.heap[g]? = some (.cells C 5 (m, m + 1)) ∧ ∀ j (h : j < l.length), C[j]? = some (.int .u8 (l[j]).toNat)
theorem Cvt.cell {w : World} {g : Nat} {l : Bs} (h : Cvt w g l) {j : Nat} (hj : j < l.length) : w.cell? ⟨g, j, none⟩ = some (.int .u8 (l[j]).toNat) := by
  obtain ⟨C, m, hg, hc⟩ := h
  exact (cell_of_row _ _ _ _ _ _ hg).trans (hc j hj)
theorem Cvt.ne {w : World} {g : Nat} {l : Bs} (h : Cvt w g l) {B n : Nat} {v : Value} {xs : List Value} (hown : w.ownsRow B 5 1 v n xs) : v.ownBlock ≠ some g := by
  obtain ⟨C, m, hg, _⟩ := h
  exact own8_ne hown hg (.inr (by simp))
theorem Cvt.grown {w w' : World} {g : Nat} {l : Bs} (h : Cvt w g l) {r : Option Nat} (hg : w.grownBy w' r) (hne : r ≠ some g) : Cvt w' g l := by
  obtain ⟨C, m, h1, h2⟩ := h
  exact ⟨C, m, grown_row hg h1 hne, h2⟩
theorem conv_bytes2 (l : Bs) (w : World) : ∃ cap w1, (convert 9 34 (.string (bs l))).run Try.prog w = .ok (.slice (some ⟨w.heap.size, 0, none⟩) l.length cap) w1 ∧ Cvt w1 w.heap.size l ∧ Below w.heap.size w w1 := by
  have hr := run_bytes_of_string (P := Try.prog) w 9 34 5 (bs l) Try.underlying9 Try.underlying34 Try.underlying5
  rw [bs_size] at hr
  have hrow := row_new (w := w.drew) (k := w.heap.size) (.cells (bytesRow (bs l) (grownCap w l.length 0 5)) 5 ((bytesRow (bs l) (grownCap w l.length 0 5)).size, (bytesRow (bs l) (grownCap w l.length 0 5)).size + 1)) rfl
  exact ⟨_, _, hr, ⟨_, _, hrow, fun j hj => by simp [bytesRow, Array.getElem?_append, hj]⟩, Below.alloc (Below.drew (Below.refl _ _)) (Nat.le_refl _) _⟩

theorem textL_pos {L : List Bs} (h : 1 ≤ L.length) : 1 ≤ (textL L).length := by
  cases L with
  | nil => simp at h
  | cons x L => simp [textL]; omega

set_option maxHeartbeats 8000000 in
set_option maxRecDepth 100000 in
theorem Text_any (l : Bs) (w : World) : Calls Try.prog 15 #[.string (bs l)] w fun e w' => e = .returned (.string (bs (text l))) ∧ Below w.heap.size w w' := by
  obtain ⟨ip, hi, hz, hs⟩ := info_pl
  cases h : can l
  · rw [text_no h]
    go_enter Try.func15, Try.ntmps15
    go_wp2_with fail
    refine (split_any l w).mono ?_
    rintro e w1 ⟨C, rfl, hC, h1, _, hB⟩
    rw [h]
    go_wp2_with (first
      | (refine wpList_alloc_at rfl 46 rfl ip zeroPl hi hz ?_)
      | (refine wpList_store_row rfl 46 (.tmp 3) (.tmp 12) rfl w1.heap.size C rfl rfl 46 zeroPl (new_row _ _) (pl_size hC) (zero_size.trans hC.symm) h1 ?_))
    go_ret
    exact ⟨rfl, Below.setRow (Below.alloc hB hB.size _) hB.size _⟩
  · by_cases h0 : labels l = []
    · have ht : text l = [46] := by unfold text; rw [if_pos h, if_pos h0]
      rw [ht]
      have H0 := Lib.hid h0
      have H := Lib.hid h
      clear h h0 ht
      go_enter Try.func15, Try.ntmps15
      go_wp2_with fail
      refine (split_any l w).mono ?_
      rintro e w1 ⟨C, rfl, hC, h1, hP, hB⟩
      have hp := hP H.out
      rw [H.out]
      clear hP
      have hrow := kept_row (C' := C) (new_row w1 zeroPl)
      have c1 : ((w1.alloc (Obj.cells zeroPl 46 (0, 0))).setRow w1.heap.size C).cell? ⟨w1.heap.size, 128, none⟩ = some (.int .i64 0) := (cell_of_row _ _ _ _ _ _ hrow).trans (by have := hp.count; rw [H0.out] at this; exact this)
      go_wp2_with (first
        | (refine wpList_alloc_at rfl 46 rfl ip zeroPl hi hz ?_)
        | (refine wpList_store_row rfl 46 (.tmp 3) (.tmp 12) rfl w1.heap.size C rfl rfl 46 zeroPl (new_row _ _) (pl_size hC) (zero_size.trans hC.symm) h1 ?_))
      go_ret
      exact ⟨rfl, Below.setRow (Below.alloc hB hB.size _) hB.size _⟩
    · have ht : text l = textL (labels l) := by unfold text; rw [if_pos h, if_neg h0]
      have hcn := can_count h
      have hL := (can_out h).2.2.2
      have HL := Lib.hid (fun x hx => (hL x hx).2 : ∀ x ∈ labels l, x.length ≤ 63)
      have HT := Lib.hid ht
      have H := Lib.hid h
      have hpos : 1 ≤ (labels l).length := List.length_pos_iff.2 h0
      have hz0 : (((labels l).length : Int) == 0) = false := by rw [beq_eq_false_iff_ne]; omega
      clear h h0 ht hL
      generalize hy : text l = y at *
      clear hy
      go_enter Try.func15, Try.ntmps15
      go_wp2_with fail
      refine (split_any l w).mono ?_
      rintro e w1 ⟨C, rfl, hC, h1, hP, hB⟩
      have HP := Lib.hid (hP H.out)
      rw [H.out]
      clear hP
      have hrow := kept_row (C' := C) (new_row w1 zeroPl)
      have c1 : ((w1.alloc (Obj.cells zeroPl 46 (0, 0))).setRow w1.heap.size C).cell? ⟨w1.heap.size, 128, none⟩ = some (.int .i64 (labels l).length) := (cell_of_row _ _ _ _ _ _ hrow).trans HP.out.count
      have hB1 := Below.setRow (Below.alloc hB hB.size (Obj.cells zeroPl 46 (0, 0))) hB.size C
      have hs0 : w.heap.size ≤ w1.heap.size := hB.size
      have LA := Lib.hid (fun k (hk : k < (labels l).length) W => label_at l C k k W H.out hC HP.out hk rfl)
      obtain ⟨L, hLe⟩ : ∃ L, L = labels l := ⟨_, rfl⟩
      go_wp2_with (first
        | (refine wpList_alloc_at rfl 46 rfl ip zeroPl hi hz ?_)
        | (refine wpList_store_row rfl 46 (.tmp 3) (.tmp 12) rfl w1.heap.size C rfl rfl 46 zeroPl (new_row _ _) (pl_size hC) (zero_size.trans hC.symm) h1 ?_))
      obtain ⟨i0, hi0, hy0, hy1, hy2⟩ := info_parts info_u8
      clear c1 hz0 HP H hLe L h1 hB
      generalize labels l = L at *
      go_loopw [5, 21] (fun v i wr => ∃ k : Nat, i = .int .i64 k ∧ k ≤ L.length ∧ wr.ownsRow w.heap.size 5 1 v (textL (L.take k)).length (bcs (textL (L.take k))) ∧ wr.heap[w1.heap.size]? = some (.cells C 46 (0, 0)) ∧ Below w.heap.size w wr) (fun _ i _ => L.length - (intOf i).toNat)
      case atStart => exact ⟨0, rfl, by omega, own_nil8 _ _, hrow, hB1⟩
      case round =>
        clear hrow hB1
        obtain ⟨k, rfl, hk, hown, hrow, hB⟩ := hrel
        have htl := textL_len (L := L.take k) (fun x hx => HL.out x (List.mem_of_mem_take hx))
        rw [List.length_take, Nat.min_eq_left hk] at htl
        by_cases hlt : k < L.length
        · have LK := Lib.hid (LA.out k hlt)
          have hx63 := HL.out L[k] (List.getElem_mem hlt)
          have hsn : textL (L.take (k + 1)) = (textL (L.take k) ++ escs L[k]) ++ [46] := by rw [List.take_succ_eq_append_getElem hlt, textL_snoc, List.append_assoc]
          obtain ⟨x, hx⟩ : ∃ x, x = L[k] := ⟨_, rfl⟩
          obtain ⟨p, hp⟩ : ∃ p, p = textL (L.take k) := ⟨_, rfl⟩
          rw [← hx] at LK hx63 hsn
          rw [← hp] at hsn htl hown
          have HN := Lib.hid hsn
          clear hx hp hsn
          have hxs := bs_size x
          have hlt' : (k : Int) < (L.length : Int) := by omega
          go_wp2_with (first
            | (refine wpList_load_row rfl 46 (.tmp 3) rfl w1.heap.size rfl 46 C (0, 0) _ hrow Try.underlying46 rfl (pl_size hC) ?_)
            | fail)
          refine (LK.out _).mono ?_
          rintro e w2 ⟨rfl, b2⟩
          obtain ⟨cap, w3, hcv, hCv, b3⟩ := conv_bytes2 x w2
          have hown3 := own_on8 (own_on8 hown b2) b3
          have hrow3 := below_row b3 (below_row b2 hrow)
          have hB3 : Below w.heap.size w w3 := Below.trans hB ((Below.trans b2 (b3.mono b2.size)).mono hB.size)
          clear hown hrow hB LK b2 b3
          generalize w2.heap.size = gx at *
          go_wp2_with fail
          clear hcv
          go_loopw [5, 30] (fun v i wr => ∃ j : Nat, i = .int .i64 j ∧ j ≤ x.length ∧ wr.ownsRow w.heap.size 5 1 v (p ++ escs (x.take j)).length (bcs (p ++ escs (x.take j))) ∧ wr.heap[w1.heap.size]? = some (.cells C 46 (0, 0)) ∧ Cvt wr gx x ∧ Below w.heap.size w wr) (fun _ i _ => x.length - (intOf i).toNat)
          case atStart => exact ⟨0, rfl, by omega, by simpa [escs] using hown3, hrow3, hCv, hB3⟩
          case round =>
            clear hown3 hrow3 hB3 hCv
            obtain ⟨j, rfl, hj, hown, hrow, hCv, hB⟩ := hrel
            have hel := escs_len (x.take j)
            rw [List.length_take, Nat.min_eq_left hj] at hel
            by_cases hjt : j < x.length
            · have hc := hCv.cell hjt
              have hes : p ++ escs (x.take (j + 1)) = (p ++ escs (x.take j)) ++ esc x[j] := by rw [List.take_succ_eq_append_getElem hjt, escs_snoc, List.append_assoc]
              obtain ⟨b, hb⟩ : ∃ b, b = x[j] := ⟨_, rfl⟩
              rw [← hb] at hc hes
              have HE := Lib.hid hes
              have hjt' : (j : Int) < (x.length : Int) := by omega
              have AB := Lib.hid (fun W hW hB => appendByte_any u5 w.heap.size (p ++ escs (x.take j)) b W hW hB (by rw [List.length_append]; omega) : ∀ W, W.ownsRow w.heap.size 5 1 u5 (p ++ escs (x.take j)).length (bcs (p ++ escs (x.take j))) → w.heap.size ≤ W.heap.size → _)
              have hsz := hB.size
              clear hes hb
              go_wp2_with fail
              refine (AB.out _ hown hsz).mono ?_
              rintro e w4 ⟨v', rfl, hown', hgrow⟩
              have hrow' := grown_row hgrow hrow (own8_ne hown hrow (.inl (by decide)))
              have hCv' := hCv.grown hgrow (hCv.ne hown)
              have hB' : Below w.heap.size w w4 := Below.grown hB hgrow hsz (fun g e => (hown.lt g e).1)
              clear hgrow hown hrow hCv hB AB
              go_wp2_with fail
              go_roundw
              case rel => exact ⟨j + 1, by go_num, by omega, by rw [HE.out]; exact hown', hrow', hCv', hB'⟩
              case measure => simp [intOf]; omega
            · obtain rfl : j = x.length := by omega
              rw [List.take_length] at hown hel
              have hql : (p ++ escs x).length ≤ 253 * 127 + 4 * 63 := by rw [List.length_append]; omega
              have HX := Lib.hid (show bcs ((p ++ escs x) ++ [46]) = bcs (p ++ escs x) ++ [.int .u8 46] by rw [bcs_append]; rfl)
              have HXl := Lib.hid (show ((p ++ escs x) ++ [46]).length = (p ++ escs x).length + 1 by simp only [List.length_append, List.length_cons, List.length_nil])
              have hsz := hB.size
              generalize p ++ escs x = t at *
              go_wp2_with (at_builtin; refine wpList_append_own _ rfl _ _ 34 rfl w.heap.size 5 i0 (.int .u8 0) 1 1 Try.underlying34 hi0 hy0 hy1 hy2 rfl (by decide) _ _ _ rfl (hown.alloc _) ⟨wr.heap.size, 0, none⟩ 1 1 [.int .u8 46] rfl rfl ?c1 ?c2 ?c3 ?c4 ?c5 ?_)
              case c1 => exact World.news_of_block (cs := #[.int .u8 46]) (t := 5) (fr := (0, 0)) (row_new _ rfl)
              case c2 => simp [Value.oneCell']
              case c3 => unfold maxLen; omega
              case c4 => omega
              case c5 => simp; omega
              intro v' w5 hown5 hgrow _
              have hgrow := grown_alloc _ hgrow
              have hrow5 := grown_row hgrow hrow (own8_ne hown hrow (.inl (by decide)))
              have hB5 : Below w.heap.size w w5 := Below.grown hB hgrow hsz (fun g e => (hown.lt g e).1)
              clear hgrow hown hrow hB hCv
              go_wp2_with fail
              go_roundw
              case rel => exact ⟨k + 1, by go_num, by omega, by rw [HN.out, HX.out, HXl.out]; exact hown5, hrow5, hB5⟩
              case measure => simp [intOf]; omega
        · obtain rfl : k = L.length := by omega
          rw [List.take_length] at hown htl
          obtain ⟨A, c, rfl, hc⟩ := own_form8 hown
          have hback : (convert 34 9 (.slice A (textL L).length c)).run Try.prog wr = .ok (.string (bs (textL L))) wr := by
            rcases hown.2 with ⟨hv, h0⟩ | ⟨g, cap, cur, hv, hb, _⟩
            · exfalso
              have := textL_pos hpos
              omega
            · injection hv with hv
              subst hv
              exact run_convert_bytes_back (P := Try.prog) wr 34 9 5 ⟨g, 0, none⟩ c (textL L) Try.underlying34 Try.underlying5 Try.underlying9 (fun j hj => hown.cells rfl j _ (by simp [bcs, hj]))
          clear hown
          go_wp2_with fail
          go_ret
          exact ⟨by rw [HT.out]; rfl, hB⟩
end Go.Proofs.Ytigpkcpdccgnfaa
