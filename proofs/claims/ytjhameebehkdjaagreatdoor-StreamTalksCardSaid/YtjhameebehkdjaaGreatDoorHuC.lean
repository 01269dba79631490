/-
  Lines as the library splits them; the landed readHead.
  The landed readHead.
  The landed fits, isHead; readHead of a whole head.
-/
import Derived.Test.YtjhameebehkdjaaGreatDoorHuB
import Derived.Test.YtjhameebehkdjaaGreatDoorHuA
import Derived.RegionTactic
import Derived.Outline
import Derived.Test.YtjhameebehkdjaaGreatDoorQt
import Derived.Lib.SlBytesConst
namespace Go.Proofs.YtjhameebehkdjaaGreatDoor
open Go.RowKit Go.Shelf
set_option linter.unusedVariables false
set_option maxRecDepth 100000

def joinL : List Bs → Bs
  | [] => []
  | [l] => l
  | l :: m :: L => l ++ 13 :: 10 :: joinL (m :: L)
theorem joinL_cat : ∀ (L : List Bs), L ≠ [] → catL L = joinL L ++ [13, 10]
  | [l], _ => by simp [catL, joinL]
  | l :: m :: L, _ => by
    have := joinL_cat (m :: L) (by simp)
    have e : catL (l :: m :: L) = l ++ [13, 10] ++ catL (m :: L) := by simp [catL]
    rw [e, this, joinL]
    simp
theorem occ_no {l : Bs} (h : okLine l) (r : Bs) (j : Nat) (hj : j < l.length) : Lib.occAt (l ++ r) [13, 10] j = false := by
  unfold Lib.occAt
  rw [List.drop_append_of_le_length (by omega), List.drop_eq_getElem_cons hj]
  have := (lineC_ne (h l[j] (List.getElem_mem hj))).1
  have h13 : ((13 : UInt8) == l[j]) = false := beq_eq_false_iff_ne.2 (Ne.symm this)
  rw [List.cons_append, List.isPrefixOf, h13]
  rfl
theorem index_line {l : Bs} (h : okLine l) (r : Bs) : Lib.index (l ++ 13 :: 10 :: r) [13, 10] = l.length := by
  refine Lib.index_first (by simp) ?_ (fun j hj => occ_no h _ j hj)
  unfold Lib.occAt
  simp [List.isPrefixOf]
theorem index_last {l : Bs} (h : okLine l) : Lib.index l [13, 10] = -1 := by
  refine Lib.index_none (fun j hj => ?_)
  by_cases hj2 : j < l.length
  · have := occ_no h [] j hj2
    rwa [List.append_nil] at this
  · unfold Lib.occAt
    rw [List.drop_eq_nil_of_le (by omega)]
    rfl
theorem split_join : ∀ (L : List Bs), L ≠ [] → (∀ l ∈ L, okLine l) → Lib.count (joinL L) [13, 10] + 1 = L.length ∧ Lib.splitK [13, 10] 0 (Lib.count (joinL L) [13, 10]) (joinL L) = L
  | [l], _, h => by
    have hi := index_last (h l (by simp))
    rw [joinL, Lib.count_miss hi]
    exact ⟨rfl, rfl⟩
  | l :: m :: L, _, h => by
    obtain ⟨i1, i2⟩ := split_join (m :: L) (by simp) (fun x hx => h x (by simp [hx]))
    have hi := index_line (h l (by simp)) (joinL (m :: L))
    have hc : Lib.count (joinL (l :: m :: L)) [13, 10] = Lib.count (joinL (m :: L)) [13, 10] + 1 := by
      rw [joinL, Lib.count_hit (by simp) hi]
      have : (l ++ 13 :: 10 :: joinL (m :: L)).drop (l.length + ([13, 10] : Bs).length) = joinL (m :: L) := by simp
      rw [this]
      omega
    rw [hc]
    refine ⟨by simp only [List.length_cons] at i1 ⊢; omega, ?_⟩
    rw [Lib.splitK]
    rw [joinL, hi]
    have hne : ¬ (((l.length : Int)) == -1) = true := by simp
    rw [if_neg hne]
    have e1 : (l ++ 13 :: 10 :: joinL (m :: L)).take (((l.length : Int)).toNat + 0) = l := by simp
    have e2 : (l ++ 13 :: 10 :: joinL (m :: L)).drop (((l.length : Int)).toNat + ([13, 10] : Bs).length) = joinL (m :: L) := by simp
    rw [e1, e2, i2]
theorem split_lines {L : List Bs} (hL : L ≠ []) (h : ∀ l ∈ L, okLine l) : Lib.split (Lib.trimSuffix (catL L ++ [13, 10]) [13, 10, 13, 10]) [13, 10] = L := by
  have e : Lib.trimSuffix (catL L ++ [13, 10]) [13, 10, 13, 10] = joinL L := by
    rw [joinL_cat L hL]
    unfold Lib.trimSuffix Lib.hasSuffix
    rw [if_pos (by rw [List.append_assoc, suf4]; exact ⟨joinL L, rfl⟩)]
    simp
  rw [e]
  exact (split_join L hL h).2
theorem split_none : Lib.split (Lib.trimSuffix [13, 10] [13, 10, 13, 10]) [13, 10] = [[], []] := by decide
/-- What readHead answers. -/
def ReadP (w : World) (L : List Bs) (e : Ending) (w' : World) : Prop := ∃ h ok, e = .returned (.tuple #[.agg (hcells h), .bool ok]) ∧ Below w.heap.size w w' ∧ readL L = if ok then some (!h.closes, if h.chunked then none else some h.size) else none
theorem lineF_bd {h h' : Hd} {l : Bs} {n : Nat} (e : lineF h l = some h') (b : h.types ≤ n ∧ h.lengths ≤ n ∧ h.conns ≤ n) : h'.types ≤ n + 1 ∧ h'.lengths ≤ n + 1 ∧ h'.conns ≤ n + 1 := by
  unfold lineF at e
  cases hf : fieldH l with
  | none => rw [hf] at e; cases e
  | some f =>
    rw [hf, Option.bind_some] at e
    unfold takeHd at e
    repeat' split at e
    all_goals first
      | (injection e with e; subst e; simp only; omega)
      | (injection e with e; subst e; omega)
      | cases e
      | (cases hn : numH f.2 with
         | none => rw [hn] at e; cases e
         | some m => rw [hn] at e; injection e with e; subst e; simp only; omega)
theorem strs_cell {w : World} {L : List Bs} {j : Nat} (hj : j < L.length) : (w.alloc (.cells (L.map fun x => Value.string (bs x)).toArray 9)).cell? ⟨w.heap.size, j, none⟩ = some (.string (bs L[j])) := by
  have r := row_new (w := w) (k := w.heap.size) (.cells (L.map fun x => Value.string (bs x)).toArray 9) rfl
  rw [cell_of_row _ _ j _ _ _ r]
  simp [hj]
theorem info_hd : (Tryz.prog.info? 149).map (·.size) = some 6 := by kernel_rfl
theorem hcells_size (h : Hd) : (hcells h).size = 6 := rfl
theorem hcells_one (h : Hd) : (hcells h).all (·.oneCell') = true := by simp [hcells, Value.oneCell']
theorem info_hdc (h : Hd) : (Tryz.prog.info? 149).map (·.size) = some (hcells h).size := info_hd
theorem results_hd {c : Value} {tmps : Array Value} {W : World} {g : Nat} {cs : Array Value} (h2 : tmps.getD 2 undef = .pointer (some ⟨g, 0, none⟩)) (h3 : tmps.getD 3 undef = c)
    (r2 : W.heap[g]? = some (.cells cs 149 (0, 0))) (hs : cs.size = 6) :
    (results Tryz.f103 tmps).run Tryz.prog W = .ok (.tuple #[.agg cs, c]) W := by
  have q0 : (loadVar 149 ⟨g, 0, none⟩).run Tryz.prog W = .ok (.agg cs) W := run_loadVar_row W g 149 149 cs (0, 0) _ r2 Tryz.underlying149 rfl (by rw [hs]; exact info_hd)
  subst h3
  have h2' : tmps[2]?.getD undef = .pointer (some ⟨g, 0, none⟩) := by simpa using h2
  simp [results, Tryz.results103, asAddr, h2', q0]
theorem HRow.setRow {w : World} {g : Nat} {h : Hd} (h' : Hd) (r : HRow w g h) : HRow (w.setRow g (hcells h')) g h' := setRow_heap _ _ _ _ _ _ r
set_option maxHeartbeats 4000000 in
set_option maxRecDepth 100000 in
theorem readHead_bad (x t : Bs) (L : List Bs) (l : Bs) (Ls : List Bs) (w : World) (hM : MaxL w) (hx : x.length ≤ 4000) (ht : Lib.trimSuffix x [13, 10, 13, 10] = t) (htl : t.length ≤ 4000) (hs : Lib.split t [13, 10] = l :: Ls) (hl : l ≠ reqL) (hL : readL L = none) : Calls Tryz.prog 103 #[.string (bs x)] w (ReadP w L) := by
  have T := Lib.hid (fun W => trimSuffix_any x [13, 10, 13, 10] W (by omega))
  rw [ht] at T
  have S := Lib.hid (fun W (h : MaxL W) => split_any t [13, 10] W h (by omega) (by decide))
  rw [hs] at S
  have M0 := Lib.hid (hM.on (Below.alloc (Below.refl _ _) (Nat.le_refl _) (.cells (hcells hd0) 149)))
  have HD : Hid (∀ w', Below w.heap.size w w' → ReadP w L (.returned (.tuple #[.agg (hcells hd0), .bool false])) w') := Lib.hid (fun w' k => ⟨hd0, false, rfl, k, hL⟩)
  generalize ReadP w L = Q at *
  rw [reqL_lit] at hl
  have hl' := beq_eq_false_iff_ne.2 hl
  clear hM ht hs hL hl hx htl
  go_enter Tryz.func103, Tryz.ntmps103
  go_wp2_with fail
  refine (T.out _).mono ?_
  rintro e w1 ⟨rfl, hw⟩
  rw [hw]
  clear hw
  go_wp2_with fail
  refine (S.out _ M0.out).mono ?_
  rintro e w2 ⟨rfl, hw⟩
  obtain ⟨W1, hW1⟩ : ∃ W1, W1 = w.alloc (.cells (hcells hd0) 149) := ⟨_, rfl⟩
  have hw3 : w2 = W1.alloc (.cells ((l :: Ls).map fun x => Value.string (bs x)).toArray 9) := by rw [hW1]; exact hw
  have r0 : HRow w2 w.heap.size hd0 := by rw [hw3]; exact row_old _ (by rw [hW1]; exact row_new _ rfl)
  have z1 : w.heap.size + 1 = W1.heap.size := by rw [hW1]; simp
  have c0 : w2.cell? ⟨w.heap.size + 1, 0, none⟩ = some (.string (bs l)) := by rw [hw3, z1]; exact strs_cell (by simp)
  have k2 : Below w.heap.size w w2 := by rw [hw3, hW1]; exact Below.alloc (Below.alloc (Below.refl _ _) (Nat.le_refl _) _) (by simp) _
  have R0 := Lib.hid r0
  have HF := Lib.hid (HD.out _ (Below.setRow k2 (Nat.le_refl _) (hcells hd0)))
  have ln : 0 < (l :: Ls).length := by simp
  generalize (l :: Ls).length = n at *
  clear hw hw3 hW1 z1 k2 S T M0 r0
  go_wp2_with (first
    | (refine wpList_store_row rfl 149 (.tmp 2) (.tmp 15) rfl w.heap.size (hcells hd0) rfl rfl 149 _ R0.out (info_hdc _) rfl (hcells_one _) ?_)
    | fail)
  refine bodyPost_ret (v := .tuple #[.agg (hcells hd0), .bool false]) (results_hd (g := w.heap.size) rfl rfl (R0.out.setRow hd0) rfl) rfl ?_
  exact HF.out
theorem okHd_eq (h : Hd) : okHd h = (decide (h.types = 1) && decide (h.lengths = 1) && decide (h.conns ≤ 1)) := by
  unfold okHd
  congr 1
theorem foldHd_cons (h : Hd) (l : Bs) (L : List Bs) : foldHd h (l :: L) = (lineF h l).bind fun h => foldHd h L := by
  unfold lineF
  rw [foldHd]
  cases fieldH l with
  | none => rfl
  | some f => rfl
theorem HRow.set6 {w : World} {g : Nat} {h0 : Hd} (r : HRow w g h0) (h : Hd) : HRow ((((((w.setCell ⟨g, 0, none⟩ (.int .i64 h.types)).setCell ⟨g, 1, none⟩ (.int .i64 h.lengths)).setCell ⟨g, 2, none⟩ (.int .i64 h.conns)).setCell ⟨g, 3, none⟩ (.int .i64 h.size)).setCell ⟨g, 4, none⟩ (.bool h.chunked)).setCell ⟨g, 5, none⟩ (.bool h.closes)) g h :=
  (((((r.set (h' := { h0 with types := h.types }) 0 (.int .i64 h.types) (by simp [hcells])).set (h' := { h0 with types := h.types, lengths := h.lengths }) 1 (.int .i64 h.lengths) (by simp [hcells])).set (h' := { h0 with types := h.types, lengths := h.lengths, conns := h.conns }) 2 (.int .i64 h.conns) (by simp [hcells])).set (h' := { h0 with types := h.types, lengths := h.lengths, conns := h.conns, size := h.size }) 3 (.int .i64 h.size) (by simp [hcells])).set (h' := { h with closes := h0.closes }) 4 (.bool h.chunked) (by simp [hcells])).set 5 (.bool h.closes) (by simp [hcells])
theorem HRow.drew {w : World} {g : Nat} {h : Hd} (r : HRow w g h) : HRow w.drew g h := r
theorem Below.set6 {B : Nat} {w0 w : World} (k : Below B w0 w) (h : Hd) {g : Nat} (hg : B ≤ g) : Below B w0 ((((((w.setCell ⟨g, 0, none⟩ (.int .i64 h.types)).setCell ⟨g, 1, none⟩ (.int .i64 h.lengths)).setCell ⟨g, 2, none⟩ (.int .i64 h.conns)).setCell ⟨g, 3, none⟩ (.int .i64 h.size)).setCell ⟨g, 4, none⟩ (.bool h.chunked)).setCell ⟨g, 5, none⟩ (.bool h.closes)).drew :=
  ((((((k.setCell hg _).setCell hg _).setCell hg _).setCell hg _).setCell hg _).setCell hg _).drew
end Go.Proofs.YtjhameebehkdjaaGreatDoor
namespace Go.Proofs.YtjhameebehkdjaaGreatDoor
open Go.RowKit Go.Shelf
set_option linter.unusedVariables false
set_option maxRecDepth 100000

set_option maxHeartbeats 4000000 in
set_option maxRecDepth 100000 in
theorem readHead_good (x t : Bs) (Ls : List Bs) (w : World) (hM : MaxL w) (hx : x.length ≤ 4000) (ht : Lib.trimSuffix x [13, 10, 13, 10] = t) (htl : t.length ≤ 4000) (hs : Lib.split t [13, 10] = reqL :: Ls) (hln : Ls.length ≤ 4000) (hok : ∀ l ∈ Ls, okLine l ∧ l.length ≤ 4000) : Calls Tryz.prog 103 #[.string (bs x)] w (ReadP w (reqL :: Ls)) := by
  have T := Lib.hid (fun W => trimSuffix_any x [13, 10, 13, 10] W (by omega))
  rw [ht] at T
  have S := Lib.hid (fun W (h : MaxL W) => split_any t [13, 10] W h (by omega) (by decide))
  rw [hs] at S
  have HM := Lib.hid hM
  have HD : Hid (∀ w' h ok, Below w.heap.size w w' → readL (reqL :: Ls) = (if ok then some (!h.closes, if h.chunked then none else some h.size) else none) → ReadP w (reqL :: Ls) (.returned (.tuple #[.agg (hcells h), .bool ok])) w') := Lib.hid (fun w' h ok k e => ⟨h, ok, rfl, k, e⟩)
  have HR := Lib.hid (readL_fold reqL Ls rfl)
  generalize ReadP w (reqL :: Ls) = Q at *
  generalize readL (reqL :: Ls) = RL at *
  have HO := Lib.hid hok
  clear hM ht hs hx htl hok
  go_enter Tryz.func103, Tryz.ntmps103
  go_wp2_with fail
  refine (T.out _).mono ?_
  rintro e w1 ⟨rfl, hw⟩
  rw [hw]
  clear hw
  go_wp2_with fail
  refine (S.out _ (HM.out.on (Below.alloc (Below.refl _ _) (Nat.le_refl _) _))).mono ?_
  rintro e w2 ⟨rfl, hw⟩
  obtain ⟨W1, hW1⟩ : ∃ W1, W1 = w.alloc (.cells (hcells hd0) 149) := ⟨_, rfl⟩
  have hw3 : w2 = W1.alloc (.cells ((reqL :: Ls).map fun x => Value.string (bs x)).toArray 9) := by rw [hW1]; exact hw
  have r0 : HRow w2 w.heap.size hd0 := by rw [hw3]; exact row_old _ (by rw [hW1]; exact row_new _ rfl)
  have z1 : w.heap.size + 1 = W1.heap.size := by rw [hW1]; simp
  have hcs : ∀ j (hj : j < (reqL :: Ls).length), w2.cell? ⟨w.heap.size + 1, j, none⟩ = some (.string (bs (reqL :: Ls)[j])) := fun j hj => by rw [hw3, z1]; exact strs_cell hj
  have z2 : w2.heap.size = w.heap.size + 2 := by rw [hw3, hW1]; simp
  have c0 : w2.cell? ⟨w.heap.size + 1, 0, none⟩ = some (.string ⟨#[80, 79, 83, 84, 32, 47, 100, 110, 115, 45, 113, 117, 101, 114, 121, 32, 72, 84, 84, 80, 47, 49, 46, 49]⟩) := (hcs 0 (by simp)).trans rfl
  have k2 : Below w.heap.size w w2 := by rw [hw3, hW1]; exact Below.alloc (Below.alloc (Below.refl _ _) (Nat.le_refl _) _) (by simp) _
  obtain ⟨W3, hW3⟩ : ∃ W3, W3 = w2.alloc (.cells (hcells hd0) 149) := ⟨_, rfl⟩
  have q3 : Below w2.heap.size w2 W3 := by rw [hW3]; exact Below.alloc (Below.refl _ _) (Nat.le_refl _) _
  have K3 := Lib.hid (k2.trans (q3.mono k2.size))
  have R3 := Lib.hid (r0.on q3)
  have R5 : Hid (HRow W3 (w.heap.size + 2) hd0) := Lib.hid (by rw [hW3]; exact row_new _ z2.symm)
  have C3 : Hid (∀ j (hj : j < Ls.length), W3.cell? ⟨w.heap.size + 1, 1 + j, none⟩ = some (.string (bs Ls[j]))) := Lib.hid (fun j hj => by
    have := cell_on (hcs (1 + j) (by simp; omega)) q3
    rw [this]
    simp only [Nat.add_comm 1 j, List.getElem_cons_succ])
  have HW3 : Hid (W3 = w2.alloc (.cells #[.int .i64 0, .int .i64 0, .int .i64 0, .int .i64 0, .bool false, .bool false] 149)) := Lib.hid hW3
  have ML := Lib.hid HM.out.lt
  have M3 := Lib.hid (HM.out.on K3.out)
  obtain ⟨m, hm⟩ : ∃ m, m = Ls.length := ⟨_, rfl⟩
  have hn : (reqL :: Ls).length = m + 1 := by rw [hm]; rfl
  rw [hn]
  have HMm := Lib.hid hm
  have hm4 : m ≤ 4000 := by omega
  clear hw hw3 hW1 z1 k2 S T r0 hcs q3 hn hm hW3
  rcases Nat.eq_zero_or_pos m with rfl | hpos
  · skip
    go_wp2_with fail
    rw [← HW3.out]
    clear c0 z2 HW3
    go_loopw [19] (fun i wr => ∃ (k : Nat) (h : Hd), i = .int .i64 k ∧ k ≤ 0 ∧ W3.grownBy wr (some (w.heap.size + 2)) ∧ HRow wr (w.heap.size + 2) h ∧ Hid (foldHd hd0 Ls = foldHd h (Ls.drop k)) ∧ (h.types ≤ k ∧ h.lengths ≤ k ∧ h.conns ≤ k)) (fun i _ => 0 - (intOf i).toNat)
    case atStart => exact ⟨0, hd0, rfl, by omega, grown_refl _ _, R5.out, Lib.hid rfl, by simp [hd0]⟩
    case round =>
      obtain ⟨k, h, rfl, hk, hg, hr, hf, hb⟩ := hrel
      have r2 : HRow wr w.heap.size hd0 := (hg.block _ (by have := (Array.getElem?_eq_some_iff.1 R3.out).1; exact this) (by simp)).trans R3.out
      have kw : Below w.heap.size w wr := K3.out.grown hg K3.out.size (fun j hj => by injection hj with hj; omega)
      have R2 := Lib.hid r2
      have KW := Lib.hid kw
      by_cases hlt : k < 0
      · exact absurd hlt (by omega)
      · obtain rfl : k = 0 := by omega
        have hf2 : foldHd hd0 Ls = some h := by rw [hf.out, HMm.out, List.drop_length]; rfl
        have HQ : Hid (∀ ok, ok = okHd h → ∀ w', Below w.heap.size w w' → Q (.returned (.tuple #[.agg (hcells h), .bool ok])) w') := Lib.hid (fun ok hk w' k => HD.out w' h ok k (by rw [HR.out, hf2, hk]; rfl))
        have HE := Lib.hid (okHd_eq h)
        have R5p := Lib.hid hr
        have c0 := (cell_of_row _ (w.heap.size + 2) 0 _ _ _ hr).trans (show _ = some (Value.int .i64 h.types) from rfl)
        have c1 := (cell_of_row _ (w.heap.size + 2) 1 _ _ _ hr).trans (show _ = some (Value.int .i64 h.lengths) from rfl)
        have c2 := (cell_of_row _ (w.heap.size + 2) 2 _ _ _ hr).trans (show _ = some (Value.int .i64 h.conns) from rfl)
        have c3 := (cell_of_row _ (w.heap.size + 2) 3 _ _ _ hr).trans (show _ = some (Value.int .i64 h.size) from rfl)
        have c4 := (cell_of_row _ (w.heap.size + 2) 4 _ _ _ hr).trans (show _ = some (Value.bool h.chunked) from rfl)
        have c5 := (cell_of_row _ (w.heap.size + 2) 5 _ _ _ hr).trans (show _ = some (Value.bool h.closes) from rfl)
        have g0 := (cell_of_row _ w.heap.size 0 _ _ _ r2).trans (show _ = some (Value.int .i64 0) from rfl)
        have g1 := (cell_of_row _ w.heap.size 1 _ _ _ r2).trans (show _ = some (Value.int .i64 0) from rfl)
        have g2 := (cell_of_row _ w.heap.size 2 _ _ _ r2).trans (show _ = some (Value.int .i64 0) from rfl)
        have g3 := (cell_of_row _ w.heap.size 3 _ _ _ r2).trans (show _ = some (Value.int .i64 0) from rfl)
        have g4 := (cell_of_row _ w.heap.size 4 _ _ _ r2).trans (show _ = some (Value.bool false) from rfl)
        have g5 := (cell_of_row _ w.heap.size 5 _ _ _ r2).trans (show _ = some (Value.bool false) from rfl)
        have fz := fun j => frozen_of_row _ w.heap.size j _ _ r2
        clear hf hf2 hr r2 kw hg hb HD HR R3 R5 K3 C3 M3
        go_wp2_with fail
        by_cases E1 : h.types = 1
        · have d1 : ((h.types : Int) == 1) = true := by rw [E1]; rfl
          by_cases E2 : h.lengths = 1
          · have d2 : ((h.lengths : Int) == 1) = true := by rw [E2]; rfl
            by_cases E3 : h.conns ≤ 1
            · have d3 : decide ((h.conns : Int) ≤ 1) = true := by rw [decide_eq_true_eq]; omega
              have HQ1 := Lib.hid (HQ.out true (by rw [HE.out]; simp [E1, E2, E3]))
              clear HQ HE E1 E2 E3
              go_region
              have RF := Lib.hid (HRow.drew (HRow.set6 R2.out h))
              have HQ2 := Lib.hid (HQ1.out _ (Below.set6 KW.out h (Nat.le_refl _)))
              clear c0 c1 c2 c3 c4 c5 g0 g1 g2 g3 g4 g5 fz R5p HQ1
              go_wp2_with fail
              refine bodyPost_ret (v := .tuple #[.agg (hcells h), .bool true]) (results_hd (g := w.heap.size) rfl rfl RF.out rfl) rfl ?_
              exact HQ2.out
            · have d3 : decide ((h.conns : Int) ≤ 1) = false := by rw [decide_eq_false_iff_not]; omega
              have HQ1 := Lib.hid (HQ.out false (by rw [HE.out]; simp [E1, E2, E3]))
              clear HQ HE E1 E2 E3
              go_region
              have RF := Lib.hid (HRow.drew (HRow.set6 R2.out h))
              have HQ2 := Lib.hid (HQ1.out _ (Below.set6 KW.out h (Nat.le_refl _)))
              clear c0 c1 c2 c3 c4 c5 g0 g1 g2 g3 g4 g5 fz R5p HQ1
              go_wp2_with fail
              refine bodyPost_ret (v := .tuple #[.agg (hcells h), .bool false]) (results_hd (g := w.heap.size) rfl rfl RF.out rfl) rfl ?_
              exact HQ2.out
          · have d2 : ((h.lengths : Int) == 1) = false := by rw [beq_eq_false_iff_ne]; omega
            have HQ1 := Lib.hid (HQ.out false (by rw [HE.out]; simp [E1, E2]))
            clear HQ HE E1 E2
            go_region
            have RF := Lib.hid (HRow.drew (HRow.set6 R2.out h))
            have HQ2 := Lib.hid (HQ1.out _ (Below.set6 KW.out h (Nat.le_refl _)))
            clear c0 c1 c2 c3 c4 c5 g0 g1 g2 g3 g4 g5 fz R5p HQ1
            go_wp2_with fail
            refine bodyPost_ret (v := .tuple #[.agg (hcells h), .bool false]) (results_hd (g := w.heap.size) rfl rfl RF.out rfl) rfl ?_
            exact HQ2.out
        · have d1 : ((h.types : Int) == 1) = false := by rw [beq_eq_false_iff_ne]; omega
          have HQ1 := Lib.hid (HQ.out false (by rw [HE.out]; simp [E1]))
          clear HQ HE E1
          go_region
          have RF := Lib.hid (HRow.drew (HRow.set6 R2.out h))
          have HQ2 := Lib.hid (HQ1.out _ (Below.set6 KW.out h (Nat.le_refl _)))
          clear c0 c1 c2 c3 c4 c5 g0 g1 g2 g3 g4 g5 fz R5p HQ1
          go_wp2_with fail
          refine bodyPost_ret (v := .tuple #[.agg (hcells h), .bool false]) (results_hd (g := w.heap.size) rfl rfl RF.out rfl) rfl ?_
          exact HQ2.out
  · skip
    go_wp2_with fail
    rw [← HW3.out]
    clear c0 z2 HW3
    go_loopw [19] (fun i wr => ∃ (k : Nat) (h : Hd), i = .int .i64 k ∧ k ≤ m ∧ W3.grownBy wr (some (w.heap.size + 2)) ∧ HRow wr (w.heap.size + 2) h ∧ Hid (foldHd hd0 Ls = foldHd h (Ls.drop k)) ∧ (h.types ≤ k ∧ h.lengths ≤ k ∧ h.conns ≤ k)) (fun i _ => m - (intOf i).toNat)
    case atStart => exact ⟨0, hd0, rfl, by omega, grown_refl _ _, R5.out, Lib.hid rfl, by simp [hd0]⟩
    case round =>
      obtain ⟨k, h, rfl, hk, hg, hr, hf, hb⟩ := hrel
      have r2 : HRow wr w.heap.size hd0 := (hg.block _ (by have := (Array.getElem?_eq_some_iff.1 R3.out).1; exact this) (by simp)).trans R3.out
      have kw : Below w.heap.size w wr := K3.out.grown hg K3.out.size (fun j hj => by injection hj with hj; omega)
      have R2 := Lib.hid r2
      have KW := Lib.hid kw
      by_cases hlt : k < m
      · have hkl : k < Ls.length := by have := HMm.out; omega
        have cl : wr.cell? ⟨w.heap.size + 1, 1 + k, none⟩ = some (.string (bs Ls[k])) := by
          have := C3.out k hkl
          rw [World.cell?_of_block (a := ⟨w.heap.size + 1, 1 + k, none⟩) (hg.block _ (World.block_lt_of_cell? W3 _ this) (by simp))]
          exact this
        obtain ⟨l, hl⟩ : ∃ l, l = Ls[k] := ⟨_, rfl⟩
        have ho := HO.out l (by rw [hl]; exact List.getElem_mem _)
        have hd : Ls.drop k = l :: Ls.drop (k + 1) := by rw [hl]; exact List.drop_eq_getElem_cons hkl
        have hf1 : foldHd hd0 Ls = (lineF h l).bind fun h => foldHd h (Ls.drop (k + 1)) := by rw [hf.out, hd, foldHd_cons]
        rw [← hl] at cl
        have TK := Lib.hid (takeLine_any (w.heap.size + 2) h l wr hr (by omega) ho.2 ho.1 (M3.out.mod (Mod.grown (S := fun j => j = w.heap.size + 2) hg (fun j hj => by injection hj with hj; exact hj.symm)) (by have := ML.out; omega)))
        have HB := Lib.hid hb
        have HG := Lib.hid hg
        have HF1 := Lib.hid hf1
        have hlt' : (k : Int) < (m : Int) := by omega
        have HST : Hid (∀ e w', StepF wr (w.heap.size + 2) (lineF h l) e w' → (e = .returned (.bool false) ∧ lineF h l = none ∧ wr.grownBy w' (some (w.heap.size + 2))) ∨ ∃ h', lineF h l = some h' ∧ e = .returned (.bool true) ∧ wr.grownBy w' (some (w.heap.size + 2)) ∧ HRow w' (w.heap.size + 2) h') := Lib.hid (fun e w' ⟨q1, q2, q3⟩ => by
          cases hq : lineF h l with
          | none => rw [hq] at q1; exact .inl ⟨q1, rfl, q2⟩
          | some h' => rw [hq] at q1; exact .inr ⟨h', rfl, q1, q2, q3 h' hq⟩)
        generalize StepF wr (w.heap.size + 2) (lineF h l) = SQ at *
        clear hl ho hd hf hf1 hr hb hg r2 kw hkl M3 R3 R5
        go_wp2_with fail
        refine TK.out.mono ?_
        intro e w4 hq
        rcases HST.out e w4 hq with ⟨rfl, hn, g4⟩ | ⟨h', hs', rfl, g4, r4⟩
        · have hRL : RL = none := by rw [HR.out, HF1.out, hn]; rfl
          have r2 : HRow w4 w.heap.size hd0 := (g4.block _ (Array.getElem?_eq_some_iff.1 R2.out).1 (by simp)).trans R2.out
          have kw : Below w.heap.size w w4 := KW.out.grown g4 KW.out.size (fun j hj => by injection hj with hj; omega)
          have HQ := Lib.hid (HD.out _ hd0 false (Below.setRow kw (Nat.le_refl _) (hcells hd0)) hRL)
          have R4 := Lib.hid r2
          clear hn hRL r2 kw g4 hq HST HD HR HF1 R2 KW TK
          go_wp2_with (first
            | (refine wpList_store_row rfl 149 (.tmp 2) (.tmp 26) rfl w.heap.size (hcells hd0) rfl rfl 149 _ R4.out (info_hdc _) rfl (hcells_one _) ?_)
            | fail)
          refine bodyPost_ret (v := .tuple #[.agg (hcells hd0), .bool false]) (results_hd (g := w.heap.size) rfl rfl (R4.out.setRow hd0) rfl) rfl ?_
          exact HQ.out
        · have hf2 : Hid (foldHd hd0 Ls = foldHd h' (Ls.drop (k + 1))) := Lib.hid (by rw [HF1.out, hs']; rfl)
          have hb2 := Lib.hid (lineF_bd (n := k) hs' HB.out)
          have g2 := Lib.hid (grown_trans HG.out g4 (fun j hj => .inl hj))
          have R4 := Lib.hid r4
          clear hs' g4 r4 hq HST HF1 HB HG TK
          go_wp2_with fail
          go_roundw
          case rel => exact ⟨k + 1, h', by go_num, by omega, g2.out, R4.out, hf2, hb2.out⟩
          case measure => simp [intOf]; omega
      · obtain rfl : k = m := by omega
        have hf2 : foldHd hd0 Ls = some h := by rw [hf.out, HMm.out, List.drop_length]; rfl
        have HQ : Hid (∀ ok, ok = okHd h → ∀ w', Below w.heap.size w w' → Q (.returned (.tuple #[.agg (hcells h), .bool ok])) w') := Lib.hid (fun ok hk w' k => HD.out w' h ok k (by rw [HR.out, hf2, hk]; rfl))
        have HE := Lib.hid (okHd_eq h)
        have R5p := Lib.hid hr
        have c0 := (cell_of_row _ (w.heap.size + 2) 0 _ _ _ hr).trans (show _ = some (Value.int .i64 h.types) from rfl)
        have c1 := (cell_of_row _ (w.heap.size + 2) 1 _ _ _ hr).trans (show _ = some (Value.int .i64 h.lengths) from rfl)
        have c2 := (cell_of_row _ (w.heap.size + 2) 2 _ _ _ hr).trans (show _ = some (Value.int .i64 h.conns) from rfl)
        have c3 := (cell_of_row _ (w.heap.size + 2) 3 _ _ _ hr).trans (show _ = some (Value.int .i64 h.size) from rfl)
        have c4 := (cell_of_row _ (w.heap.size + 2) 4 _ _ _ hr).trans (show _ = some (Value.bool h.chunked) from rfl)
        have c5 := (cell_of_row _ (w.heap.size + 2) 5 _ _ _ hr).trans (show _ = some (Value.bool h.closes) from rfl)
        have g0 := (cell_of_row _ w.heap.size 0 _ _ _ r2).trans (show _ = some (Value.int .i64 0) from rfl)
        have g1 := (cell_of_row _ w.heap.size 1 _ _ _ r2).trans (show _ = some (Value.int .i64 0) from rfl)
        have g2 := (cell_of_row _ w.heap.size 2 _ _ _ r2).trans (show _ = some (Value.int .i64 0) from rfl)
        have g3 := (cell_of_row _ w.heap.size 3 _ _ _ r2).trans (show _ = some (Value.int .i64 0) from rfl)
        have g4 := (cell_of_row _ w.heap.size 4 _ _ _ r2).trans (show _ = some (Value.bool false) from rfl)
        have g5 := (cell_of_row _ w.heap.size 5 _ _ _ r2).trans (show _ = some (Value.bool false) from rfl)
        have fz := fun j => frozen_of_row _ w.heap.size j _ _ r2
        clear hf hf2 hr r2 kw hg hb HD HR R3 R5 K3 C3 M3
        go_wp2_with fail
        by_cases E1 : h.types = 1
        · have d1 : ((h.types : Int) == 1) = true := by rw [E1]; rfl
          by_cases E2 : h.lengths = 1
          · have d2 : ((h.lengths : Int) == 1) = true := by rw [E2]; rfl
            by_cases E3 : h.conns ≤ 1
            · have d3 : decide ((h.conns : Int) ≤ 1) = true := by rw [decide_eq_true_eq]; omega
              have HQ1 := Lib.hid (HQ.out true (by rw [HE.out]; simp [E1, E2, E3]))
              clear HQ HE E1 E2 E3
              go_region
              have RF := Lib.hid (HRow.drew (HRow.set6 R2.out h))
              have HQ2 := Lib.hid (HQ1.out _ (Below.set6 KW.out h (Nat.le_refl _)))
              clear c0 c1 c2 c3 c4 c5 g0 g1 g2 g3 g4 g5 fz R5p HQ1
              go_wp2_with fail
              refine bodyPost_ret (v := .tuple #[.agg (hcells h), .bool true]) (results_hd (g := w.heap.size) rfl rfl RF.out rfl) rfl ?_
              exact HQ2.out
            · have d3 : decide ((h.conns : Int) ≤ 1) = false := by rw [decide_eq_false_iff_not]; omega
              have HQ1 := Lib.hid (HQ.out false (by rw [HE.out]; simp [E1, E2, E3]))
              clear HQ HE E1 E2 E3
              go_region
              have RF := Lib.hid (HRow.drew (HRow.set6 R2.out h))
              have HQ2 := Lib.hid (HQ1.out _ (Below.set6 KW.out h (Nat.le_refl _)))
              clear c0 c1 c2 c3 c4 c5 g0 g1 g2 g3 g4 g5 fz R5p HQ1
              go_wp2_with fail
              refine bodyPost_ret (v := .tuple #[.agg (hcells h), .bool false]) (results_hd (g := w.heap.size) rfl rfl RF.out rfl) rfl ?_
              exact HQ2.out
          · have d2 : ((h.lengths : Int) == 1) = false := by rw [beq_eq_false_iff_ne]; omega
            have HQ1 := Lib.hid (HQ.out false (by rw [HE.out]; simp [E1, E2]))
            clear HQ HE E1 E2
            go_region
            have RF := Lib.hid (HRow.drew (HRow.set6 R2.out h))
            have HQ2 := Lib.hid (HQ1.out _ (Below.set6 KW.out h (Nat.le_refl _)))
            clear c0 c1 c2 c3 c4 c5 g0 g1 g2 g3 g4 g5 fz R5p HQ1
            go_wp2_with fail
            refine bodyPost_ret (v := .tuple #[.agg (hcells h), .bool false]) (results_hd (g := w.heap.size) rfl rfl RF.out rfl) rfl ?_
            exact HQ2.out
        · have d1 : ((h.types : Int) == 1) = false := by rw [beq_eq_false_iff_ne]; omega
          have HQ1 := Lib.hid (HQ.out false (by rw [HE.out]; simp [E1]))
          clear HQ HE E1
          go_region
          have RF := Lib.hid (HRow.drew (HRow.set6 R2.out h))
          have HQ2 := Lib.hid (HQ1.out _ (Below.set6 KW.out h (Nat.le_refl _)))
          clear c0 c1 c2 c3 c4 c5 g0 g1 g2 g3 g4 g5 fz R5p HQ1
          go_wp2_with fail
          refine bodyPost_ret (v := .tuple #[.agg (hcells h), .bool false]) (results_hd (g := w.heap.size) rfl rfl RF.out rfl) rfl ?_
          exact HQ2.out
end Go.Proofs.YtjhameebehkdjaaGreatDoor
namespace Go.Proofs.YtjhameebehkdjaaGreatDoor
open Go.RowKit Go.Shelf
set_option linter.unusedVariables false
set_option maxRecDepth 100000

theorem suffix_13 (h : Bs) : Lib.hasSuffix h [13] = decide (h.getLast? = some 13) := by
  unfold Lib.hasSuffix
  rw [Bool.eq_iff_iff, List.isSuffixOf_iff_suffix, decide_eq_true_eq]
  constructor
  · rintro ⟨t, rfl⟩; simp
  · intro e
    by_cases hn : h = []
    · subst hn; simp at e
    · rw [List.getLast?_eq_some_getLast hn] at e
      injection e with e
      exact ⟨h.dropLast, by rw [← e]; exact List.dropLast_concat_getLast hn⟩
theorem u8_beq (c d : UInt8) : (c == d) = ((c.toNat : Int) == (d.toNat : Int)) := by
  rw [Bool.eq_iff_iff, beq_iff_eq, beq_iff_eq]
  exact ⟨fun h => by rw [h], fun h => UInt8.toNat_inj.1 (by omega)⟩
theorem fit_cases (h : Bs) (c : UInt8) : fitH h c = if decide (h.getLast? = some 13) then decide (c.toNat = 10) else decide ((32 ≤ c.toNat ∧ c.toNat ≤ 126) ∨ c.toNat = 9 ∨ c.toNat = 13) := by
  have e : ∀ d : UInt8, (c == d) = decide (c.toNat = d.toNat) := fun d => by
    rw [Bool.eq_iff_iff, beq_iff_eq, decide_eq_true_eq]
    exact ⟨fun h => by rw [h], fun h => UInt8.toNat_inj.1 h⟩
  unfold fitH lineC
  by_cases hl : h.getLast? = some 13
  · simp only [hl, if_true, decide_true, e]
    rfl
  · simp only [hl, if_false, decide_false, Bool.false_eq_true, e]
    rw [Bool.eq_iff_iff]
    simp only [Bool.or_eq_true, decide_eq_true_eq]
    have h9 : (9 : UInt8).toNat = 9 := rfl
    have h13 : (13 : UInt8).toNat = 13 := rfl
    rw [h9, h13]
    omega
set_option maxHeartbeats 2000000 in
theorem fits_any (A : Option Addr) (h : Bs) (d : Nat) (c : UInt8) (w : World) (hs : Sl w A d h) : Calls Tryz.prog 99 #[.slice A h.length d, .int .u8 c.toNat] w fun e w' => e = .returned (.bool (fitH h c)) ∧ Below w.heap.size w w' := by
  have k1 : Below w.heap.size w (w.alloc (.cells #[.int .u8 13] 5)) := Below.alloc (Below.refl _ _) (Nat.le_refl _) _
  have s13 : Sl (w.alloc (.cells #[.int .u8 13] 5)) (some ⟨w.heap.size, 0, none⟩) 1 [13] := Sl.made (l := [13]) rfl (by simp)
  have HS := Lib.hid (hasSuffix_any A (some ⟨w.heap.size, 0, none⟩) h [13] d 1 _ (hs.on k1) s13)
  rw [suffix_13] at HS
  have HF := fit_cases h c
  have K1 := Lib.hid k1
  generalize decide (h.getLast? = some 13) = cr at *
  obtain ⟨n, hn⟩ : ∃ n, n = h.length := ⟨_, rfl⟩
  rw [← hn] at HS ⊢
  have hc := c.toNat_lt
  generalize c.toNat = b at *
  generalize fitH h c = R at *
  subst HF
  clear hs k1 s13 hn
  cases cr with
  | true =>
    by_cases hb : b = 10
    · subst hb
      go_enter Tryz.func99, Tryz.ntmps99
      go_wp2_with fail
      refine HS.out.mono ?_
      rintro e w2 ⟨rfl, hw⟩
      rw [hw]
      clear hw
      go_wp2_with fail
      go_ret
      exact ⟨rfl, K1.out⟩
    · have e1 : ((b : Int) == 10) = false := by rw [beq_eq_false_iff_ne]; omega
      have e2 : Hid (decide (b = 10) = false) := Lib.hid (by simpa using hb)
      clear hb
      go_enter Tryz.func99, Tryz.ntmps99
      go_wp2_with fail
      refine HS.out.mono ?_
      rintro e w2 ⟨rfl, hw⟩
      rw [hw]
      clear hw
      go_wp2_with fail
      go_ret
      exact ⟨by simp [e2.out], K1.out⟩
  | false =>
    have hx : b < 9 ∨ b = 9 ∨ b = 10 ∨ (11 ≤ b ∧ b ≤ 12) ∨ b = 13 ∨ (14 ≤ b ∧ b ≤ 31) ∨ (32 ≤ b ∧ b ≤ 126) ∨ 127 ≤ b := by omega
    have HR : Hid (∀ x, x = decide ((32 ≤ b ∧ b ≤ 126) ∨ b = 9 ∨ b = 13) → (if false = true then decide (b = 10) else decide ((32 ≤ b ∧ b ≤ 126) ∨ b = 9 ∨ b = 13)) = x) := Lib.hid (fun x h => by rw [h]; rfl)
    rcases hx with h1 | h1 | h1 | h1 | h1 | h1 | h1 | h1
    all_goals
      first
        | (have hv : Hid (decide ((32 ≤ b ∧ b ≤ 126) ∨ b = 9 ∨ b = 13) = true) := Lib.hid (by rw [decide_eq_true_eq]; omega))
        | (have hv : Hid (decide ((32 ≤ b ∧ b ≤ 126) ∨ b = 9 ∨ b = 13) = false) := Lib.hid (by rw [decide_eq_false_iff_not]; omega))
      have e9 : ((b : Int) == 9) = decide (b = 9) := by rw [Bool.eq_iff_iff, beq_iff_eq, decide_eq_true_eq]; omega
      have e10 : ((b : Int) == 10) = decide (b = 10) := by rw [Bool.eq_iff_iff, beq_iff_eq, decide_eq_true_eq]; omega
      have e13 : ((b : Int) == 13) = decide (b = 13) := by rw [Bool.eq_iff_iff, beq_iff_eq, decide_eq_true_eq]; omega
      first | (have d9 : decide (b = 9) = false := by rw [decide_eq_false_iff_not]; omega) | (have d9 : decide (b = 9) = true := by rw [decide_eq_true_eq]; omega)
      first | (have d10 : decide (b = 10) = false := by rw [decide_eq_false_iff_not]; omega) | (have d10 : decide (b = 10) = true := by rw [decide_eq_true_eq]; omega)
      first | (have d13 : decide (b = 13) = false := by rw [decide_eq_false_iff_not]; omega) | (have d13 : decide (b = 13) = true := by rw [decide_eq_true_eq]; omega)
      rw [d9] at e9
      rw [d10] at e10
      rw [d13] at e13
      first | (have q126 : decide ((b : Int) ≤ 126) = true := by rw [decide_eq_true_eq]; omega) | (have q126 : decide ((b : Int) ≤ 126) = false := by rw [decide_eq_false_iff_not]; omega)
      rw [HR.out _ hv.out.symm]
      clear hv HR d9 d10 d13
      try subst h1
      go_enter Tryz.func99, Tryz.ntmps99
      go_wp2_with fail
      refine HS.out.mono ?_
      rintro e w2 ⟨rfl, hw⟩
      rw [hw]
      clear hw
      go_wp2_with fail
      go_ret
      exact ⟨rfl, K1.out⟩
set_option maxHeartbeats 1000000 in
theorem isHead_any (A : Option Addr) (h : Bs) (d : Nat) (w : World) (hs : Sl w A d h) : Calls Tryz.prog 100 #[.slice A h.length d] w fun e w' => e = .returned (.bool (endH h)) ∧ Below w.heap.size w w' := by
  have k1 : Below w.heap.size w (w.alloc (.cells #[.int .u8 13, .int .u8 10, .int .u8 13, .int .u8 10] 5 (4, 5))) := Below.alloc (Below.refl _ _) (Nat.le_refl _) _
  have s4 : Sl (w.alloc (.cells #[.int .u8 13, .int .u8 10, .int .u8 13, .int .u8 10] 5 (4, 5))) (some ⟨w.heap.size, 0, none⟩) 4 [13, 10, 13, 10] := Sl.madeF (l := [13, 10, 13, 10]) (4, 5) rfl (by simp)
  have HS := Lib.hid (hasSuffix_any A (some ⟨w.heap.size, 0, none⟩) h [13, 10, 13, 10] d 4 _ (hs.on k1) s4)
  have cv := string_bys A h d w hs.bys
  have kc := fun (w : World) (C : Array Value) (n c : Nat) => Lib.run_convert_bytes_const (P := Tryz.prog) w 29 5 C n c Tryz.underlying29 Tryz.underlying5
  have HE : endH h = ((h == [13, 10]) || Lib.hasSuffix h [13, 10, 13, 10]) := rfl
  generalize Lib.hasSuffix h [13, 10, 13, 10] = sf at *
  have K1 := Lib.hid k1
  obtain ⟨n, hn⟩ : ∃ n, n = h.length := ⟨_, rfl⟩
  rw [← hn] at HS cv ⊢
  cases h2 : (h == [13, 10]) with
  | true =>
    rw [h2, Bool.true_or] at HE
    rw [HE]
    have h2' : h = [13, 10] := by simpa using h2
    subst h2'
    clear hs k1 s4 hn HE h2
    go_enter Tryz.func100, Tryz.ntmps100
    go_wp2_with fail
    go_ret
    exact ⟨rfl, Below.refl _ _⟩
  | false =>
    rw [h2, Bool.false_or] at HE
    rw [HE]
    clear hs k1 s4 hn HE
    go_enter Tryz.func100, Tryz.ntmps100
    go_wp2_with fail
    refine HS.out.mono ?_
    rintro e w2 ⟨rfl, hw⟩
    rw [hw]
    clear hw
    go_wp2_with fail
    go_ret
    exact ⟨rfl, K1.out⟩
theorem catL_len_le {L : List Bs} {l : Bs} (h : l ∈ L) : l.length ≤ (catL L).length := by
  induction L with
  | nil => cases h
  | cons x L ih =>
    have e : (catL (x :: L)).length = x.length + 2 + (catL L).length := by simp [catL]; omega
    rcases List.mem_cons.1 h with rfl | h
    · omega
    · have := ih h; omega
theorem catL_count (L : List Bs) : L.length * 2 ≤ (catL L).length := by
  induction L with
  | nil => simp
  | cons x L ih =>
    have e : (catL (x :: L)).length = x.length + 2 + (catL L).length := by simp [catL]; omega
    simp
    omega
theorem readHead_any (L : List Bs) (w : World) (hM : MaxL w) (hl : (catL L ++ [13, 10]).length ≤ 2000) (hok : ∀ l ∈ L, okLine l) : Calls Tryz.prog 103 #[.string (bs (catL L ++ [13, 10]))] w (ReadP w L) := by
  rw [List.length_append] at hl
  cases L with
  | nil => exact readHead_bad [13, 10] [13, 10] [] [] [[]] w hM (by decide) (by decide) (by decide) (by decide) (by decide) rfl
  | cons l Ls =>
    have hj := joinL_cat (l :: Ls) (by simp)
    have ht : Lib.trimSuffix (catL (l :: Ls) ++ [13, 10]) [13, 10, 13, 10] = joinL (l :: Ls) := by
      rw [hj]
      unfold Lib.trimSuffix Lib.hasSuffix
      rw [if_pos (by rw [List.append_assoc, suf4]; exact ⟨joinL (l :: Ls), rfl⟩)]
      simp
    have hs := split_lines (L := l :: Ls) (by simp) hok
    rw [ht] at hs
    have hjl : (joinL (l :: Ls)).length ≤ 4000 := by have := congrArg List.length hj; rw [List.length_append] at this; omega
    by_cases hq : l = reqL
    · subst hq
      refine readHead_good _ _ Ls w hM (by rw [List.length_append]; simp at hl ⊢; omega) ht hjl hs ?_ (fun x hx => ⟨hok x (by simp [hx]), ?_⟩)
      · have := catL_count (reqL :: Ls); simp at this hl; omega
      · have := catL_len_le (L := reqL :: Ls) (l := x) (by simp [hx]); omega
    · exact readHead_bad _ _ (l :: Ls) l Ls w hM (by rw [List.length_append]; simp at hl ⊢; omega) ht hjl hs hq (by show (if l = reqL then _ else none) = none; rw [if_neg hq])
end Go.Proofs.YtjhameebehkdjaaGreatDoor
