/-
  name.split: a name's places.
-/
import Derived.Test.YtkihlcecjcjmlaaNmW
namespace Go.Proofs.Ytkihlcecjcjmlaa
open Go.RowKit

/-- A name's places: where each label begins, and how many there are. -/
structure Pl (C : Array Value) (L : List Bs) : Prop where
  count : C[128]? = some (.int .i64 L.length)
  at' : ∀ i : Nat, i ≤ L.length → C[i]? = some (.int .u8 (st L i))

/-- What the loop keeps. -/
structure Sp (l : Bs) (n : Nat) (C : Array Value) (D : List Bs) : Prop where
  len : n = (enc D).length
  le : n ≤ l.length
  lab : ∀ x ∈ D, Lab x
  rest : labs l = (labs (l.drop n)).map (D ++ ·)
  count : C[128]? = some (.int .i64 D.length)
  at' : ∀ i : Nat, i < D.length → C[i]? = some (.int .u8 (st D i))

structure Rw (B : Nat) (wr : World) (C : Array Value) : Prop where
  r2 : wr.heap[B]? = some (.cells zeroPl 76 (0, 0))
  r4 : wr.heap[B + 1]? = some (.cells C 76 (0, 0))
  size : C.size = 129
  one : C.all (·.oneCell') = true

theorem zero_one : zeroPl.all (·.oneCell') = true := by kernel_rfl
theorem zero_size : zeroPl.size = 129 := by kernel_rfl
theorem pl_size {n : Nat} (h : n = 129) : (Try.prog.info? 76).map (·.size) = some n := by
  obtain ⟨ip, hi, _, hs⟩ := info_pl
  rw [hi, h]; exact congrArg some hs

theorem results_split {c : Value} {tmps : Array Value} {W : World} {g : Nat} {cs : Array Value} (h2 : tmps.getD 2 undef = .pointer (some ⟨g, 0, none⟩)) (h3 : tmps.getD 3 undef = c)
    (r2 : W.heap[g]? = some (.cells cs 76 (0, 0))) (hs : cs.size = 129) :
    (results Try.f26 tmps).run Try.prog W = .ok (.tuple #[.agg cs, c]) W := by
  have q0 : (loadVar 76 ⟨g, 0, none⟩).run Try.prog W = .ok (.agg cs) W := run_loadVar_row W g 76 76 cs (0, 0) _ r2 Try.underlying76 rfl (pl_size hs)
  subst h3
  have h2' : tmps[2]?.getD undef = .pointer (some ⟨g, 0, none⟩) := by simpa using h2
  simp [results, Try.results26, asAddr, h2', q0]

theorem rows_pl (w : World) : ((w.alloc (Obj.cells zeroPl 76 (0, 0))).alloc (Obj.cells zeroPl 76 (0, 0))).heap[w.heap.size]? = some (.cells zeroPl 76 (0, 0)) ∧ ((w.alloc (Obj.cells zeroPl 76 (0, 0))).alloc (Obj.cells zeroPl 76 (0, 0))).heap[w.heap.size + 1]? = some (.cells zeroPl 76 (0, 0)) :=
  ⟨row_old _ (row_new _ rfl), row_new _ (by simp)⟩

/-- What the call answers. -/
abbrev SplitPost (l : Bs) (w : World) (e : Ending) (w' : World) : Prop := ∃ C : Array Value, e = .returned (.tuple #[.agg C, .bool (can l)]) ∧ C.size = 129 ∧ C.all (·.oneCell') = true ∧ (can l = true → Pl C (labels l)) ∧ Below w.heap.size w w'

set_option maxHeartbeats 1000000 in
set_option maxRecDepth 100000 in
theorem split_long (l : Bs) (w : World) (h : 255 < (l.length : Int)) :
    Calls Try.prog 26 #[.string (bs l)] w (SplitPost l w) := by
  obtain ⟨ip, hi, hz, hs⟩ := info_pl
  have hsz := bs_size l
  obtain ⟨r2, r4⟩ := rows_pl w
  go_enter Try.func26, Try.ntmps26
  go_wp2_with (refine wpList_alloc_at rfl 76 rfl ip zeroPl hi hz ?_)
  go_step3
  go_wp2_with (first
    | (refine wpList_alloc_at rfl 76 rfl ip zeroPl hi hz ?_)
    | (refine wpList_load_row rfl 76 (.tmp 4) rfl (w.heap.size + 1) rfl 76 zeroPl (0, 0) _ r4 Try.underlying76 rfl (pl_size zero_size) ?_)
    | (refine wpList_store_row rfl 76 (.tmp 2) (.tmp 10) rfl w.heap.size zeroPl rfl rfl 76 zeroPl r2 (pl_size zero_size) rfl zero_one ?_))
  rw [Exit.noGoto_ret]
  try simp only [Exit.inBlock, Exit.then]
  refine bodyPost_ret (v := .tuple #[.agg zeroPl, .bool false]) ?_ rfl ?_
  · exact results_split (g := w.heap.size) rfl rfl (setRow_heap _ _ _ _ _ _ r2) zero_size
  · refine ⟨zeroPl, by rw [can_long (by omega)], zero_size, zero_one, fun hc => ?_, Below.setRow (by (repeat first | (with_reducible exact Below.refl _ _) | (with_reducible assumption) | (with_reducible refine below_drewN ?_ _) | (with_reducible refine Below.drew ?_) | (with_reducible refine Below.alloc ?_ (by go_size) _) | (with_reducible refine Below.setCell ?_ (by go_size) _))) (Nat.le_refl _) _⟩
    rw [can_long (by omega)] at hc; cases hc

theorem byte_lt (l : Bs) (n : Nat) (h : n < l.length) : (l[n]).toNat ≤ 255 := by have := (l[n]).toNat_lt; omega

theorem labs_at {l : Bs} {n : Nat} (hn : n < l.length) : labs (l.drop n) = if (l[n]).toNat = 0 then (if l.drop (n + 1) = [] then some [] else none) else if 63 < (l[n]).toNat then none else (labs (l.drop (n + 1 + (l[n]).toNat))).map ((l.drop (n + 1)).take (l[n]).toNat :: ·) := by
  rw [List.drop_eq_getElem_cons hn, labs, List.drop_drop]

theorem labs_short {l : Bs} {n : Nat} (h : l.length ≤ n) : labs (l.drop n) = none := by
  rw [List.drop_eq_nil_of_le h, labs]

theorem enc_snoc (D : List Bs) (x : Bs) : (enc (D ++ [x])).length = (enc D).length + 1 + x.length := by
  rw [enc_append]; simp [enc]; omega

theorem st_old {D : List Bs} {x : Bs} {i : Nat} (h : i ≤ D.length) : st (D ++ [x]) i = st D i := by
  unfold st; rw [List.take_append_of_le_length h]
theorem st_all (D : List Bs) : st D D.length = (enc D).length := by unfold st; rw [List.take_length]

theorem Sp.small {l : Bs} {n : Nat} {C : Array Value} {D : List Bs} (h : Sp l n C D) (hn : n < l.length) (hl : l.length ≤ 255) : D.length ≤ 127 := by
  have := enc_ge h.lab
  have := h.len
  omega

/-- At the byte 0. -/
theorem Sp.stop {l : Bs} {n : Nat} {C : Array Value} {D : List Bs} (h : Sp l n C D) (hn : n < l.length) (hl : l.length ≤ 255) (hC : C.size = 129) (h0 : (l[n]).toNat = 0) :
    can l = decide (n = l.length - 1) ∧ (can l = true → Pl (C.setIfInBounds D.length (.int .u8 n)) (labels l)) := by
  have hr := h.rest
  rw [labs_at hn, if_pos h0] at hr
  have hD := h.small hn hl
  by_cases he : n = l.length - 1
  · have hd : l.drop (n + 1) = [] := List.drop_eq_nil_of_le (by omega)
    rw [if_pos hd] at hr
    simp at hr
    have hc : can l = true := by unfold can; simp [hr, hl]
    have hL : labels l = D := by unfold labels; rw [if_pos hc, hr]; rfl
    refine ⟨by simp [hc, ← he], fun _ => ?_⟩
    rw [hL]
    refine ⟨?_, fun i hi => ?_⟩
    · rw [Array.getElem?_setIfInBounds_ne (by omega)]; exact h.count
    · by_cases hi' : i = D.length
      · subst hi'
        rw [Array.getElem?_setIfInBounds_self_of_lt (by omega), st_all, h.len]
      · rw [Array.getElem?_setIfInBounds_ne (by omega)]
        exact h.at' i (by omega)
  · have hd : l.drop (n + 1) ≠ [] := fun e => by have := List.drop_eq_nil_iff.1 e; omega
    rw [if_neg hd] at hr
    simp at hr
    have hc : can l = false := by unfold can; simp [hr]
    refine ⟨by simp [hc, he], fun h => ?_⟩
    rw [hc] at h; cases h

theorem can_none {l : Bs} (h : labs l = none) : can l = false := by unfold can; simp [h]
theorem Sp.over {l : Bs} {n : Nat} {C : Array Value} {D : List Bs} (h : Sp l n C D) (hn : l.length ≤ n) : labs l = none := by
  have hr := h.rest
  rw [labs_short hn] at hr; exact hr
theorem Sp.big {l : Bs} {n : Nat} {C : Array Value} {D : List Bs} (h : Sp l n C D) (hn : n < l.length) (h6 : 63 < (l[n]).toNat) : labs l = none := by
  have hr := h.rest
  rw [labs_at hn, if_neg (by omega), if_pos h6] at hr; exact hr

theorem Sp.step {l : Bs} {n : Nat} {C : Array Value} {D : List Bs} (h : Sp l n C D) (hn : n < l.length) (hl : l.length ≤ 255) (hC : C.size = 129) (h0 : (l[n]).toNat ≠ 0) (h6 : (l[n]).toNat ≤ 63) :
    (l.length < n + 1 + (l[n]).toNat ∧ labs l = none) ∨ (Sp l (n + 1 + (l[n]).toNat) ((C.setIfInBounds D.length (.int .u8 n)).setIfInBounds 128 (.int .i64 (D.length + 1))) (D ++ [(l.drop (n + 1)).take (l[n]).toNat])) := by
  have hr := h.rest
  rw [labs_at hn, if_neg h0, if_neg (by omega)] at hr
  have hD := h.small hn hl
  by_cases hs : l.length < n + 1 + (l[n]).toNat
  · left
    rw [labs_short (by omega)] at hr
    exact ⟨hs, hr⟩
  · right
    have hx : ((l.drop (n + 1)).take (l[n]).toNat).length = (l[n]).toNat := by simp; omega
    refine ⟨?_, by omega, ?_, ?_, ?_, ?_⟩
    · rw [enc_snoc, hx, ← h.len]
    · intro y hy
      rcases List.mem_append.1 hy with hy | hy
      · exact h.lab y hy
      · simp only [List.mem_singleton] at hy
        subst hy
        exact ⟨by omega, by omega⟩
    · rw [hr]
      cases labs (l.drop (n + 1 + (l[n]).toNat)) <;> simp
    · rw [Array.getElem?_setIfInBounds_self_of_lt (by simp; omega)]; simp
    · intro i hi
      simp at hi
      rw [Array.getElem?_setIfInBounds_ne (by omega), st_old (by omega)]
      by_cases hi' : i = D.length
      · subst hi'
        rw [Array.getElem?_setIfInBounds_self_of_lt (by omega), st_all, h.len]
      · rw [Array.getElem?_setIfInBounds_ne (by omega)]
        exact h.at' i (by omega)

structure Lp (B : Nat) (wr : World) (C : Array Value) : Prop where
  r2 : wr.heap[B]? = some (.cells zeroPl 76 (0, 0))
  r4 : wr.heap[B + 1]? = some (.cells C 76 (0, 0))
  size : C.size = 129
  one : C.all (·.oneCell') = true

theorem all_set {C : Array Value} {i : Nat} {v : Value} (h : C.all (·.oneCell') = true) (hv : v.oneCell' = true) : (C.setIfInBounds i v).all (·.oneCell') = true := by
  rw [Array.all_eq_true] at h ⊢
  intro j hj
  simp only [Array.size_setIfInBounds] at hj
  rw [Array.getElem_setIfInBounds hj]
  split
  · exact hv
  · exact h j hj

theorem Lp.set {B : Nat} {wr : World} {C : Array Value} (h : Lp B wr C) (i : Nat) (v : Value) (hv : v.oneCell' = true) : Lp B (wr.setCell ⟨B + 1, i, none⟩ v) (C.setIfInBounds i v) :=
  ⟨row_other _ h.r2 (by omega), row_set _ h.r4, by rw [Array.size_setIfInBounds]; exact h.size, all_set h.one hv⟩
theorem Lp.cell {B : Nat} {wr : World} {C : Array Value} (h : Lp B wr C) (i : Nat) : wr.cell? ⟨B + 1, i, none⟩ = C[i]? := cell_of_row _ _ _ _ _ _ h.r4
theorem Lp.free {B : Nat} {wr : World} {C : Array Value} (h : Lp B wr C) (i : Nat) : wr.frozen? ⟨B + 1, i, none⟩ = false := frozen_of_row _ _ _ _ _ h.r4

set_option maxHeartbeats 1000000 in
set_option maxRecDepth 100000 in
theorem split_short (l : Bs) (w : World) (h : (l.length : Int) ≤ 255) :
    Calls Try.prog 26 #[.string (bs l)] w (SplitPost l w) := by
  obtain ⟨ip, hi, hz, hs⟩ := info_pl
  have hsz := bs_size l
  obtain ⟨r2, r4⟩ := rows_pl w
  have L0 : Lp w.heap.size _ zeroPl := ⟨r2, r4, zero_size, zero_one⟩
  go_enter Try.func26, Try.ntmps26
  go_wp2_with (refine wpList_alloc_at rfl 76 rfl ip zeroPl hi hz ?_)
  go_step3
  go_wp2_with (refine wpList_alloc_at rfl 76 rfl ip zeroPl hi hz ?_)
  go_step3
  go_wp2_with fail
  go_loopw [5] (fun v wr => ∃ n : Nat, v = .int .i64 n ∧ n ≤ 400 ∧ Below w.heap.size w wr ∧ ∃ C, Lp w.heap.size wr C ∧ ((l.length < n ∧ labs l = none) ∨ ∃ D, Sp l n C D)) (fun v _ => 400 - (intOf v).toNat)
  case atStart => exact ⟨0, rfl, by omega, by (repeat first | (with_reducible exact Below.refl _ _) | (with_reducible assumption) | (with_reducible refine below_drewN ?_ _) | (with_reducible refine Below.drew ?_) | (with_reducible refine Below.alloc ?_ (by go_size) _) | (with_reducible refine Below.setCell ?_ (by go_size) _)), zeroPl, L0, .inr ⟨[], rfl, by simp, by simp, by simp, by kernel_rfl, by simp⟩⟩
  case round =>
    obtain ⟨n, rfl, hn, hB, C, hL, hcase⟩ := hrel
    rcases hcase with ⟨hgt, hnone⟩ | ⟨D, hS⟩
    · go_wp2_with (first
        | (refine wpList_load_row rfl 76 (.tmp 4) rfl (w.heap.size + 1) rfl 76 C (0, 0) _ hL.r4 Try.underlying76 rfl (pl_size hL.size) ?_)
        | (refine wpList_store_row rfl 76 (.tmp 2) (.tmp 40) rfl w.heap.size C rfl rfl 76 zeroPl hL.r2 (pl_size hL.size) (zero_size.trans hL.size.symm) hL.one ?_))
      rw [Exit.noGoto_ret]
      try simp only [Exit.inBlock, Exit.then]
      refine bodyPost_ret (v := .tuple #[.agg C, .bool ((n : Int) == (l.length : Int) - 1)]) ?_ rfl ?_
      · exact results_split (g := w.heap.size) rfl rfl (setRow_heap _ _ _ _ _ _ hL.r2) hL.size
      · have hc := can_none hnone
        refine ⟨C, ?_, hL.size, hL.one, fun h => ?_, Below.setRow hB (Nat.le_refl _) _⟩
        · rw [hc]; congr 5; simp; omega
        · rw [hc] at h; cases h
    · by_cases hlt : n < l.length
      · have hk := byte_lt l n hlt
        obtain ⟨k, hkd⟩ : ∃ k, k = (l[n]).toNat := ⟨_, rfl⟩
        have hix : ∀ wx : World, (Instr.index 9 (.string (bs l)) (.int .i64 n)).run Try.prog wx = .ok (.int .u8 k) wx := fun wx => by
          rw [run_index_string _ _ _ _ _ Try.underlying9, dif_pos (by rw [bs_size]; omega), hkd]
          rfl
        have hD := hS.small hlt (by omega)
        have c1 := (hL.cell 128).trans hS.count
        have f1 := hL.free 128
        have f2 := hL.free D.length
        obtain ⟨u, c2⟩ : ∃ u, C[D.length]? = some u := ⟨_, Array.getElem?_eq_getElem (by rw [hL.size]; omega)⟩
        have c2 := (hL.cell D.length).trans c2
        have hL1 := hL.set D.length (.int .u8 n) rfl
        have c3 : (wr.setCell ⟨w.heap.size + 1, D.length, none⟩ (.int .u8 n)).cell? ⟨w.heap.size + 1, 128, none⟩ = some (.int .i64 D.length) := (hL1.cell 128).trans ((Array.getElem?_setIfInBounds_ne (by omega)).trans hS.count)
        have f3 := hL1.free 128
        rw [← hkd] at hk
        have HK := Lib.hid hkd
        clear hkd
        go_wp2_with (first
          | (refine wpList_load_row rfl 76 (.tmp 4) rfl (w.heap.size + 1) rfl 76 _ (0, 0) _ hL1.r4 Try.underlying76 rfl (pl_size hL1.size) ?_)
          | (refine wpList_store_row rfl 76 (.tmp 2) (.tmp 40) rfl w.heap.size _ rfl rfl 76 zeroPl hL1.r2 (pl_size hL1.size) (zero_size.trans hL1.size.symm) hL1.one ?_)
          | (refine wpList_store_row rfl 76 (.tmp 2) (.tmp 31) rfl w.heap.size _ rfl rfl 76 zeroPl hL1.r2 (pl_size hL1.size) (zero_size.trans hL1.size.symm) hL1.one ?_))
        · rename_i h0
          have h0 : (l[n]).toNat = 0 := by rw [← HK.out]; have := eq_of_beq h0; omega
          obtain ⟨hc, hP⟩ := hS.stop hlt (by omega) hL.size h0
          rw [Exit.noGoto_ret]
          try simp only [Exit.inBlock, Exit.then]
          refine bodyPost_ret (v := .tuple #[.agg (C.setIfInBounds D.length (.int .u8 n)), .bool ((n : Int) == (l.length : Int) - 1)]) ?_ rfl ?_
          · exact results_split (g := w.heap.size) rfl rfl (setRow_heap _ _ _ _ _ _ hL1.r2) hL1.size
          · refine ⟨_, ?_, hL1.size, hL1.one, hP, Below.setRow (Below.setCell hB (by simp) _) (Nat.le_refl _) _⟩
            rw [hc]; congr 6; rw [Bool.eq_iff_iff]; simp; omega
        · rename_i h0 h6
          have hnone := hS.big hlt (by rw [← HK.out]; omega)
          have hc := can_none hnone
          rw [Exit.noGoto_ret]
          try simp only [Exit.inBlock, Exit.then]
          refine bodyPost_ret (v := .tuple #[.agg (C.setIfInBounds D.length (.int .u8 n)), .bool false]) ?_ rfl ?_
          · exact results_split (g := w.heap.size) rfl rfl (setRow_heap _ _ _ _ _ _ hL1.r2) hL1.size
          · refine ⟨_, by rw [hc], hL1.size, hL1.one, fun h => ?_, Below.setRow (Below.setCell hB (by simp) _) (Nat.le_refl _) _⟩
            rw [hc] at h; cases h
        · rename_i h0 h6
          have h0 : (l[n]).toNat ≠ 0 := by rw [← HK.out]; intro e; simp [e] at h0
          have hst := hS.step hlt (by omega) hL.size h0 (by rw [← HK.out]; omega)
          have hL2 := hL1.set 128 (.int .i64 (D.length + 1)) rfl
          rw [← HK.out] at hst
          refine ⟨⟨n + 1 + k, by congr 1; omega, by omega, Below.setCell (Below.setCell hB (by simp) _) (by simp) _, _, hL2, ?_⟩, ?_⟩
          · rcases hst with hb | hg
            · exact .inl hb
            · exact .inr ⟨_, hg⟩
          · simp [intOf]; omega
      · have hnone := hS.over (by omega)
        have hc := can_none hnone
        go_wp2_with (first
          | (refine wpList_load_row rfl 76 (.tmp 4) rfl (w.heap.size + 1) rfl 76 C (0, 0) _ hL.r4 Try.underlying76 rfl (pl_size hL.size) ?_)
          | (refine wpList_store_row rfl 76 (.tmp 2) (.tmp 40) rfl w.heap.size C rfl rfl 76 zeroPl hL.r2 (pl_size hL.size) (zero_size.trans hL.size.symm) hL.one ?_))
        rw [Exit.noGoto_ret]
        try simp only [Exit.inBlock, Exit.then]
        refine bodyPost_ret (v := .tuple #[.agg C, .bool ((n : Int) == (l.length : Int) - 1)]) ?_ rfl ?_
        · exact results_split (g := w.heap.size) rfl rfl (setRow_heap _ _ _ _ _ _ hL.r2) hL.size
        · refine ⟨C, ?_, hL.size, hL.one, fun h => ?_, Below.setRow hB (Nat.le_refl _) _⟩
          · rw [hc]; congr 5; simp; omega
          · rw [hc] at h; cases h

theorem split_any (l : Bs) (w : World) : Calls Try.prog 26 #[.string (bs l)] w (SplitPost l w) := by
  by_cases h : 255 < l.length
  · exact split_long l w (by omega)
  · exact split_short l w (by omega)
end Go.Proofs.Ytkihlcecjcjmlaa
