/-
  A message copied: the statements' own Message.
-/
import Derived.Test.YtknpkifhkefikaaDoorWi
import Derived.Test.YtknpkifhkefikaaDoorWh
import Derived.Test.YtknpkifhkefikaaDoorWb
import Derived.Laws.ResultCell
namespace Go.Proofs.YtknpkifhkefikaaDoor
open Go.RowKit
set_option linter.unusedVariables false
set_option maxRecDepth 100000

/-- A slice of records that is there. -/
def Got (L : List Rr) (x : Value) (w : World) : Prop := ∃ A c, x = .slice A L.length c ∧ RsT w A L ∧ L.length ≤ c ∧ c ≤ 9223372036854775807
theorem Got.on {L : List Rr} {x : Value} {w w' : World} (h : Got L x w) (hB : Below w.heap.size w w') : Got L x w' := by
  obtain ⟨A, c, h1, h2, h3⟩ := h
  exact ⟨A, c, h1, h2.below hB, h3⟩
/-- What the operations of the drawn head yield. -/
def RM (g : Nat) (m : Msg) (u : MV) : Nat → Value → World → Prop
  | 0, x, _ => x = .pointer (some ⟨g, 9, none⟩)
  | 1, x, _ => x = .slice u.a1 m.an.length u.c1
  | 2, x, w => Got m.an x w
  | 3, x, _ => x = .pointer (some ⟨g, 10, none⟩)
  | 4, x, _ => x = .slice u.a2 m.au.length u.c2
  | 5, x, w => Got m.au x w
  | 6, x, _ => x = .pointer (some ⟨g, 11, none⟩)
  | 7, x, _ => x = .slice u.a3 m.ad.length u.c3
  | 8, x, w => Got m.ad x w
  | 9, x, _ => x = .pointer (some ⟨g, 9, none⟩)
  | _, _, _ => True
theorem RM_on {g : Nat} {m : Msg} {u : MV} (i : Nat) (v : Value) (w w' : World) (h : RM g m u i v w) (hB : Below w.heap.size w w') : RM g m u i v w' := by
  match i, h with
  | 0, h => exact h
  | 1, h => exact h
  | 2, h => exact Got.on h hB
  | 3, h => exact h
  | 4, h => exact h
  | 5, h => exact Got.on h hB
  | 6, h => exact h
  | 7, h => exact h
  | 8, h => exact Got.on h hB
  | 9, h => exact h
  | _ + 10, _ => trivial

def dM (i : Nat) : Nat := if i = 9 then 16 else 7 + i
theorem getD_both_true {b : Array Bool} {k : Nat} (h : b.getD k false = true) : b.getD k true = true := by
  rcases Nat.lt_or_ge k b.size with h' | h'
  · simp [h'] at h ⊢; exact h
  · simp [Array.getElem?_eq_none h'] at h
theorem grownBy_setRowM {w : World} {g : Nat} (cs : Array Value) : w.grownBy (w.setRow g cs) (some g) := ⟨rfl, rfl, rfl, by rw [size_setRow]; exact Nat.le_refl _, fun k hk hne => setRow_other w g k cs (fun e => hne (by rw [e]))⟩
theorem slot_of {a : Act} {j : Nat} {v : Value} (h : a.tmps[j]? = some v) : (a.tmps[j]?).getD undef = v := by rw [h]; rfl

set_option maxHeartbeats 1000000 in
set_option maxRecDepth 100000 in
theorem Message_any (m : Msg) (u : MV) (w : World) (hM : Ms w m u) (h1 : m.q.length * 32 ≤ 140737488351232) (h2 : ∀ L, L = m.an ∨ L = m.au ∨ L = m.ad → L.length * 64 ≤ 140737488351232 ∧ ∀ x ∈ L, x.d.length ≤ 140737488351232) :
    Calls Tryd.prog 8 #[.agg (msL m u).toArray] w fun e w' => ∃ u', e = .returned (.agg (msL m u').toArray) ∧ Ms w' m u' ∧ Below w.heap.size w w' := by
  have CQ := Lib.hid (fun W (hW : Qs W u.aq m.q) => CloneQ_any u.aq m.q u.cq W hW h1)
  have C1 := Lib.hid (fun W (hW : Rs W u.a1 m.an) => RRs_any u.a1 m.an u.c1 W hW (h2 _ (.inl rfl)).1 (h2 _ (.inl rfl)).2)
  have C2 := Lib.hid (fun W (hW : Rs W u.a2 m.au) => RRs_any u.a2 m.au u.c2 W hW (h2 _ (.inr (.inl rfl))).1 (h2 _ (.inr (.inl rfl))).2)
  have C3 := Lib.hid (fun W (hW : Rs W u.a3 m.ad) => RRs_any u.a3 m.ad u.c3 W hW (h2 _ (.inr (.inr rfl))).1 (h2 _ (.inr (.inr rfl))).2)
  clear h1 h2
  have r1 := row_old (.cells #[.int .i64 0, .bool false, .int .i64 0, .bool false, .bool false, .bool false, .bool false, .int .i64 0, .slice none 0 0, .slice none 0 0, .slice none 0 0, .slice none 0 0] 27 (0, 0)) (row_new (w := w) (k := w.heap.size) (.cells (msL m u).toArray 27 (0, 0)) rfl)
  have r2 := row_new (w := w.alloc (.cells (msL m u).toArray 27 (0, 0))) (k := w.heap.size + 1) (.cells #[.int .i64 0, .bool false, .int .i64 0, .bool false, .bool false, .bool false, .bool false, .int .i64 0, .slice none 0 0, .slice none 0 0, .slice none 0 0, .slice none 0 0] 27 (0, 0)) (by simp)
  have b0 : Below w.heap.size w ((w.alloc (.cells (msL m u).toArray 27 (0, 0))).alloc (.cells #[.int .i64 0, .bool false, .int .i64 0, .bool false, .bool false, .bool false, .bool false, .int .i64 0, .slice none 0 0, .slice none 0 0, .slice none 0 0, .slice none 0 0] 27 (0, 0))) := Below.alloc (Below.alloc (Below.refl _ _) (Nat.le_refl _) _) (by simp) _
  have s0 : w.heap.size + 1 < ((w.alloc (.cells (msL m u).toArray 27 (0, 0))).alloc (.cells #[.int .i64 0, .bool false, .int .i64 0, .bool false, .bool false, .bool false, .bool false, .int .i64 0, .slice none 0 0, .slice none 0 0, .slice none 0 0, .slice none 0 0] 27 (0, 0))).heap.size := by simp
  have hM0 := hM.on b0
  have c8 := (ms_cell r1).1
  have R1 := Lib.hid r1
  have R2 := Lib.hid r2
  have HM := Lib.hid hM
  clear r1 r2 hM
  go_enter Tryd.func8, Tryd.ntmps8
  go_wp2_with fail
  generalize (w.alloc (.cells (msL m u).toArray 27 (0, 0))).alloc (.cells #[.int .i64 0, .bool false, .int .i64 0, .bool false, .bool false, .bool false, .bool false, .int .i64 0, .slice none 0 0, .slice none 0 0, .slice none 0 0, .slice none 0 0] 27 (0, 0)) = W0 at *
  refine (CQ.out _ hM0.q).mono ?_
  rintro e w1 ⟨A', c', rfl, hQ, hq1, hq2, b1⟩
  have r1 := (b1.block _ (by omega)).trans R1.out
  have r2 := (b1.block _ (by omega)).trans R2.out
  have hM1 := hM0.on b1
  have s1 : w.heap.size + 1 < w1.heap.size := Nat.lt_of_lt_of_le s0 b1.size
  have bw1 : Below w.heap.size w w1 := Below.trans b0 (b1.mono (by omega))
  have there := cell_on c8 b1
  have fz : w1.frozen? ⟨w.heap.size, 8, none⟩ = false := frozen_of_row _ _ 8 _ _ r1
  have gs : w1.grownBy (w1.setCell ⟨w.heap.size, 8, none⟩ (.slice A' m.q.length c')) (some w.heap.size) := by
    have := grownBy_setCells w.heap.size [.slice A' m.q.length c'] 8 w1
    simpa [World.setCells] using this
  have r1' := row_set (w := w1) (g := w.heap.size) (i := 8) (.slice A' m.q.length c') r1
  rw [show (msL m u).toArray.setIfInBounds 8 (.slice A' m.q.length c') = (msL m { u with aq := A', cq := c' }).toArray from rfl] at r1'
  have r2' := (gs.block (w.heap.size + 1) (by omega) (by simp)).trans r2
  have bw2 : Below w.heap.size w (w1.setCell ⟨w.heap.size, 8, none⟩ (.slice A' m.q.length c')) := Below.setCell bw1 (Nat.le_refl _) _
  have s2 : w.heap.size + 1 < (w1.setCell ⟨w.heap.size, 8, none⟩ (.slice A' m.q.length c')).heap.size := by simpa using s1
  have hM2 := HM.out.on bw2
  have hk1 : ∀ g, some w.heap.size = some g → ∃ cs fz, w1.heap[g]? = some (.cells cs 27 fz) := fun g e => by
    injection e with e
    subst e
    exact ⟨_, _, r1⟩
  have HQ := Lib.hid (hQ.keptT (by decide) gs hk1)
  clear hk1 hQ
  have GR1 := Lib.hid r1'
  have GR2 := Lib.hid r2'
  clear r1 r2 r1' r2' R1 R2 c8 b0 b1 CQ bw1
  go_wp2_with fail
  generalize hW1 : w1.setCell ⟨w.heap.size, 8, none⟩ (.slice A' m.q.length c') = W1 at *
  refine wp_region_under 10 (by kernel_rfl) (by kernel_rfl) (by kernel_rfl) rfl (d := dM) (R := RM w.heap.size m u) (B := W1.heap.size) (Nat.le_refl _) (fun i j hi hj e => ?_) (fun i hi => ?_) RM_on (fun i hi b a' w' un hr => ?_) (fun V w' hV hB hs => ?_)
  · unfold dM at e
    split at e <;> split at e <;> omega
  · unfold dM
    split <;> simp <;> omega
  · obtain ⟨_, o, ho, hall⟩ := mem_ready.1 hr
    have t1 : (a'.tmps[1]?).getD undef = .pointer (some ⟨w.heap.size, 0, none⟩) := slot_of ((un.old 1 (fun i _ => by unfold dM; split <;> omega)).trans rfl)
    have hrow := (un.bel.block _ (by omega)).trans GR1.out
    obtain ⟨_, c9, c10, c11⟩ := ms_cell hrow
    clear hrow
    match i, hi with
    | 0, _ =>
      refine ⟨_, rfl, rfl, ?_⟩
      clear ho hall hr un
      unfold Oper.wp
      go_simp
      exact ⟨_, rfl, rfl, Below.refl _ _⟩
    | 1, _ =>
      obtain rfl := Option.some.inj ho
      have h0 := getD_both_true (hall ⟨0, .data⟩ (by simp) rfl)
      obtain ⟨v, hv, rfl⟩ := un.got 0 (by simp) h0
      have t7 := slot_of (j := 7) hv
      refine ⟨_, rfl, rfl, ?_⟩
      clear ho hall hr hv
      unfold Oper.wp
      go_simp
      exact ⟨_, rfl, rfl, Below.refl _ _⟩
    | 2, _ =>
      obtain rfl := Option.some.inj ho
      have h0 := getD_both_true (hall ⟨1, .data⟩ (by simp) rfl)
      obtain ⟨v, hv, rfl⟩ := un.got 1 (by simp) h0
      have t7 := slot_of (j := 8) hv
      have hL := hM2.an.on (un.bel)
      refine ⟨_, rfl, rfl, ?_⟩
      clear ho hall hr hv
      unfold Oper.wp
      go_simp
      refine (C1.out _ hL).mono ?_
      rintro e w2 ⟨A2, c2, rfl, k1, k2, k3, k4⟩
      exact ⟨_, rfl, ⟨A2, c2, rfl, k1, k2, k3⟩, k4⟩
    | 3, _ =>
      refine ⟨_, rfl, rfl, ?_⟩
      clear ho hall hr un
      unfold Oper.wp
      go_simp
      exact ⟨_, rfl, rfl, Below.refl _ _⟩
    | 4, _ =>
      obtain rfl := Option.some.inj ho
      have h0 := getD_both_true (hall ⟨3, .data⟩ (by simp) rfl)
      obtain ⟨v, hv, rfl⟩ := un.got 3 (by simp) h0
      have t7 := slot_of (j := 10) hv
      refine ⟨_, rfl, rfl, ?_⟩
      clear ho hall hr hv
      unfold Oper.wp
      go_simp
      exact ⟨_, rfl, rfl, Below.refl _ _⟩
    | 5, _ =>
      obtain rfl := Option.some.inj ho
      have h0 := getD_both_true (hall ⟨4, .data⟩ (by simp) rfl)
      obtain ⟨v, hv, rfl⟩ := un.got 4 (by simp) h0
      have t7 := slot_of (j := 11) hv
      have hL := hM2.au.on (un.bel)
      refine ⟨_, rfl, rfl, ?_⟩
      clear ho hall hr hv
      unfold Oper.wp
      go_simp
      refine (C2.out _ hL).mono ?_
      rintro e w2 ⟨A2, c2, rfl, k1, k2, k3, k4⟩
      exact ⟨_, rfl, ⟨A2, c2, rfl, k1, k2, k3⟩, k4⟩
    | 6, _ =>
      refine ⟨_, rfl, rfl, ?_⟩
      clear ho hall hr un
      unfold Oper.wp
      go_simp
      exact ⟨_, rfl, rfl, Below.refl _ _⟩
    | 7, _ =>
      obtain rfl := Option.some.inj ho
      have h0 := getD_both_true (hall ⟨6, .data⟩ (by simp) rfl)
      obtain ⟨v, hv, rfl⟩ := un.got 6 (by simp) h0
      have t7 := slot_of (j := 13) hv
      refine ⟨_, rfl, rfl, ?_⟩
      clear ho hall hr hv
      unfold Oper.wp
      go_simp
      exact ⟨_, rfl, rfl, Below.refl _ _⟩
    | 8, _ =>
      obtain rfl := Option.some.inj ho
      have h0 := getD_both_true (hall ⟨7, .data⟩ (by simp) rfl)
      obtain ⟨v, hv, rfl⟩ := un.got 7 (by simp) h0
      have t7 := slot_of (j := 14) hv
      have hL := hM2.ad.on (un.bel)
      refine ⟨_, rfl, rfl, ?_⟩
      clear ho hall hr hv
      unfold Oper.wp
      go_simp
      refine (C3.out _ hL).mono ?_
      rintro e w2 ⟨A2, c2, rfl, k1, k2, k3, k4⟩
      exact ⟨_, rfl, ⟨A2, c2, rfl, k1, k2, k3⟩, k4⟩
    | 9, _ =>
      refine ⟨_, rfl, rfl, ?_⟩
      clear ho hall hr un
      unfold Oper.wp
      go_simp
      exact ⟨_, rfl, rfl, Below.refl _ _⟩
  · have v0 : V 0 = .pointer (some ⟨w.heap.size, 9, none⟩) := hV 0 (by omega)
    have v1 : V 1 = .slice u.a1 m.an.length u.c1 := hV 1 (by omega)
    obtain ⟨A2, c2, v2, k2, l2⟩ : Got m.an (V 2) w' := hV 2 (by omega)
    have v3 : V 3 = .pointer (some ⟨w.heap.size, 10, none⟩) := hV 3 (by omega)
    have v4 : V 4 = .slice u.a2 m.au.length u.c2 := hV 4 (by omega)
    obtain ⟨A3, c3, v5, k3, l3⟩ : Got m.au (V 5) w' := hV 5 (by omega)
    have v6 : V 6 = .pointer (some ⟨w.heap.size, 11, none⟩) := hV 6 (by omega)
    have v7 : V 7 = .slice u.a3 m.ad.length u.c3 := hV 7 (by omega)
    obtain ⟨A4, c4, v8, k4, l4⟩ : Got m.ad (V 8) w' := hV 8 (by omega)
    have v9 : V 9 = .pointer (some ⟨w.heap.size, 9, none⟩) := hV 9 (by omega)
    have r1 := (hB.block _ (by omega)).trans GR1.out
    have r2 := (hB.block _ (by omega)).trans GR2.out
    have hq := HQ.out.below hB
    have bw' : Below w.heap.size w w' := Below.trans bw2 (hB.mono (by omega))
    obtain ⟨_, c9, c10, c11⟩ := ms_cell r1
    have f9 : w'.frozen? ⟨w.heap.size, 9, none⟩ = false := frozen_of_row _ _ 9 _ _ r1
    have f10 : w'.frozen? ⟨w.heap.size, 10, none⟩ = false := frozen_of_row _ _ 10 _ _ r1
    have f11 : w'.frozen? ⟨w.heap.size, 11, none⟩ = false := frozen_of_row _ _ 11 _ _ r1
    simp only [putAll, dM, Act.put, v0, v1, v2, v3, v4, v5, v6, v7, v8, v9, Nat.reduceEqDiff, Nat.reduceAdd, if_false, if_true, List.setIfInBounds_toArray, List.set_cons_succ, List.set_cons_zero, List.drop_succ_cons, List.drop_zero]
    have g3 : w'.grownBy (((w'.setCell ⟨w.heap.size, 9, none⟩ (.slice A2 m.an.length c2)).setCell ⟨w.heap.size, 10, none⟩ (.slice A3 m.au.length c3)).setCell ⟨w.heap.size, 11, none⟩ (.slice A4 m.ad.length c4)) (some w.heap.size) := by
      have := grownBy_setCells w.heap.size [.slice A2 m.an.length c2, .slice A3 m.au.length c3, .slice A4 m.ad.length c4] 9 w'
      simpa [World.setCells] using this
    have hk2 : ∀ g, some w.heap.size = some g → ∃ cs fz, w'.heap[g]? = some (.cells cs 27 fz) := fun g e => by
      injection e with e
      subst e
      exact ⟨_, _, r1⟩
    have rr := row_set (i := 11) (.slice A4 m.ad.length c4) (row_set (i := 10) (.slice A3 m.au.length c3) (row_set (w := w') (g := w.heap.size) (i := 9) (.slice A2 m.an.length c2) r1))
    rw [show (((msL m { u with aq := A', cq := c' }).toArray.setIfInBounds 9 (.slice A2 m.an.length c2)).setIfInBounds 10 (.slice A3 m.au.length c3)).setIfInBounds 11 (.slice A4 m.ad.length c4) = (msL m ⟨A', A2, A3, A4, c', c2, c3, c4⟩).toArray from rfl] at rr
    have rz := (g3.block (w.heap.size + 1) (by omega) (by simp)).trans r2
    have q3 := hq.keptT (by decide) g3 hk2
    have a3 := k2.keptT (by decide) (by decide) g3 hk2
    have u3 := k3.keptT (by decide) (by decide) g3 hk2
    have d3 := k4.keptT (by decide) (by decide) g3 hk2
    have b3 : Below w.heap.size w (((w'.setCell ⟨w.heap.size, 9, none⟩ (.slice A2 m.an.length c2)).setCell ⟨w.heap.size, 10, none⟩ (.slice A3 m.au.length c3)).setCell ⟨w.heap.size, 11, none⟩ (.slice A4 m.ad.length c4)) := Below.setCell (Below.setCell (Below.setCell bw' (Nat.le_refl _) _) (Nat.le_refl _) _) (Nat.le_refl _) _
    have g4 := grownBy_setRowM (w := (((w'.setCell ⟨w.heap.size, 9, none⟩ (.slice A2 m.an.length c2)).setCell ⟨w.heap.size, 10, none⟩ (.slice A3 m.au.length c3)).setCell ⟨w.heap.size, 11, none⟩ (.slice A4 m.ad.length c4))) (g := w.heap.size + 1) (msL m ⟨A', A2, A3, A4, c', c2, c3, c4⟩).toArray
    have hk3 : ∀ g, some (w.heap.size + 1) = some g → ∃ cs fz, (((w'.setCell ⟨w.heap.size, 9, none⟩ (.slice A2 m.an.length c2)).setCell ⟨w.heap.size, 10, none⟩ (.slice A3 m.au.length c3)).setCell ⟨w.heap.size, 11, none⟩ (.slice A4 m.ad.length c4)).heap[g]? = some (.cells cs 27 fz) := fun g e => by
      injection e with e
      subst e
      exact ⟨_, _, rz⟩
    have hMf : Hid (Ms ((((w'.setCell ⟨w.heap.size, 9, none⟩ (.slice A2 m.an.length c2)).setCell ⟨w.heap.size, 10, none⟩ (.slice A3 m.au.length c3)).setCell ⟨w.heap.size, 11, none⟩ (.slice A4 m.ad.length c4)).setRow (w.heap.size + 1) (msL m ⟨A', A2, A3, A4, c', c2, c3, c4⟩).toArray) m ⟨A', A2, A3, A4, c', c2, c3, c4⟩) :=
      Lib.hid ⟨(q3.keptT (by decide) g4 hk3).qs, (a3.keptT (by decide) (by decide) g4 hk3).rs, (u3.keptT (by decide) (by decide) g4 hk3).rs, (d3.keptT (by decide) (by decide) g4 hk3).rs, ⟨hq1, hq2⟩, l2, l3, l4⟩
    have b4 : Below w.heap.size w ((((w'.setCell ⟨w.heap.size, 9, none⟩ (.slice A2 m.an.length c2)).setCell ⟨w.heap.size, 10, none⟩ (.slice A3 m.au.length c3)).setCell ⟨w.heap.size, 11, none⟩ (.slice A4 m.ad.length c4)).setRow (w.heap.size + 1) (msL m ⟨A', A2, A3, A4, c', c2, c3, c4⟩).toArray) := Below.setRow b3 (by omega) _
    have iM : Hid ((Tryd.prog.info? 27).map (·.size) = some (msL m ⟨A', A2, A3, A4, c', c2, c3, c4⟩).toArray.size) := Lib.hid info_ms
    have oM := Lib.hid (ms_one m ⟨A', A2, A3, A4, c', c2, c3, c4⟩)
    have zM : Hid ((#[.int .i64 0, .bool false, .int .i64 0, .bool false, .bool false, .bool false, .bool false, .int .i64 0, .slice none 0 0, .slice none 0 0, .slice none 0 0, .slice none 0 0] : Array Value).size = (msL m ⟨A', A2, A3, A4, c', c2, c3, c4⟩).toArray.size) := Lib.hid rfl
    have rF := setRow_heap _ _ _ (msL m ⟨A', A2, A3, A4, c', c2, c3, c4⟩).toArray _ _ rz
    clear hV v0 v1 v2 v3 v4 v5 v6 v7 v8 v9 C1 C2 C3 GR1 GR2 HQ HM g3 hk2 hk3 q3 a3 u3 d3 b3 g4 k2 k3 k4 l2 l3 l4 hq r1 r2 hB hs bw' bw2 s2 hW1 gs fz there hM1 hM0 hM2
    generalize hlm : (msL m ⟨A', A2, A3, A4, c', c2, c3, c4⟩).toArray = lm at *
    go_wp2_with (first
      | (refine wpList_load_row rfl 27 (.tmp 1) rfl w.heap.size rfl 27 lm (0, 0) _ rr Tryd.underlying27 rfl iM.out ?_)
      | (refine wpList_store_row rfl 27 (.tmp 2) (.tmp 19) rfl (w.heap.size + 1) lm rfl rfl 27 _ rz iM.out (by first | exact zM.out | exact zM.out.symm) oM.out ?_)
      | fail)
    refine bodyPost_ret (v := .agg lm) (results_cell_row (by rfl) _ _ (w.heap.size + 1) 27 lm (0, 0) _ rfl rF Tryd.underlying27 rfl iM.out) rfl ?_
    exact ⟨_, by rw [← hlm], hMf.out, b4⟩
end Go.Proofs.YtknpkifhkefikaaDoor
