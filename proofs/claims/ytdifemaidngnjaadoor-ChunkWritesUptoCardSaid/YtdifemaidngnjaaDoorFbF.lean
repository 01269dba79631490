/-
  The landed Encode of a body in chunks.
-/
import Derived.Test.YtdifemaidngnjaaDoorFbE
namespace Go.Proofs.YtdifemaidngnjaaDoor
open Go.RowKit
set_option linter.unusedVariables false
set_option maxRecDepth 100000
attribute [local go_sem] Oper.semAt_some

theorem chunkC_le {d : Bs} (h : d.length < 16 ^ 6) : (chunkC d).length ≤ d.length + 10 := by
  have h2 := (hexC_len 6 d.length (by omega) h).2
  simp [chunkC]
  omega
theorem catP_len {w : World} {sz : Nat} (hs : sz < 16 ^ 6) : ∀ (xs : List (Part w sz)), (catP xs).length ≤ xs.length * (sz + 10)
  | [] => by simp [catP]
  | x :: xs => by
    have h1 := catP_len hs xs
    have h2 := x.2.2.1
    have h3 := chunkC_le (d := x.1.2.2) (by omega)
    have e : catP (x :: xs) = chunkC x.1.2.2 ++ catP xs := by simp [catP]
    rw [e, List.length_append, List.length_cons, Nat.add_mul]
    omega
/-- What holds between two rounds: the bytes so far lie in the variable's box. -/
def EncI0 (w W2 : World) (sz bb base : Nat) (pre : List (Part w sz)) (W : World) : Prop := ∃ v, W.heap[bb]? = some (.cells #[v] 22 (0, 0)) ∧ OwnR W base v (catP pre) ∧ KpB bb base W2 W ∧ Below w.heap.size w W ∧ base ≤ W.heap.size
theorem OwnR.notCells {w w' : World} {base : Nat} {v : Value} {l : Bs} {row : Option Nat} (h : OwnR w base v l) (hg : w.grownBy w' row) (hr : ∀ r, row = some r → ∃ o : Obj, w.heap[r]? = some o ∧ o.isCells = false) : OwnR w' base v l := by
  refine ⟨h.1, ?_⟩
  rcases h.2 with h | ⟨g, cap, cur, hv, hb, hh, r⟩
  · exact .inl h
  · refine .inr ⟨g, cap, cur, hv, hb, (hg.block g (Array.getElem?_eq_some_iff.1 hh).1 (fun e => ?_)).trans hh, r⟩
    obtain ⟨o, ho, hc⟩ := hr g e.symm
    rw [hh] at ho
    injection ho with ho
    subst ho
    cases hc
theorem EncI0.own {w W2 : World} {sz bb base B : Nat} (hbb : bb < B) (hb : base ≤ B) (hw : w.heap.size ≤ base) : OwnFrom B (EncI0 w W2 sz bb base) := fun s W W' row h hg hr => by
  obtain ⟨v, h1, h2, h3, h4, h5⟩ := h
  have hlt := (Array.getElem?_eq_some_iff.1 h1).1
  refine ⟨v, (hg.block bb hlt (fun e => by have := (hr bb e.symm).1; omega)).trans h1, h2.notCells hg (fun r e => (hr r e).2), fun k hk hn => ?_, h4.grown hg h4.size (fun k e => by have := (hr k e).1; omega), Nat.le_trans h5 hg.size⟩
  rw [← h3 k hk hn]
  exact hg.block k (by omega) (fun e => by have := (hr k e.symm).1; omega)

set_option maxHeartbeats 4000000 in
theorem encL_good (A : Option Addr) (b : Bs) (c sz : Nat) (w : World) (hb : Sl w A c b) (hT : TabC w) (hl : b.length ≤ 1099511627776) (hs : 0 < sz) (hs6 : sz < 16 ^ 6) : Calls Tryd.prog 7 #[.slice A b.length c, .int .i64 sz] w fun e w' => ∃ v, e = .returned (.tuple #[v, .int .i64 0]) ∧ OwnB w' w.heap.size v (encK sz b) ∧ Below w.heap.size w w' := by
  obtain ⟨n, hn⟩ : ∃ n, n = b.length := ⟨_, rfl⟩
  rw [← hn]
  have CF := Lib.hid (fun W => chunkFn_any A n c sz hs W)
  have z1 : ¬ (sz : Int) < 1 := by omega
  have z2 : ¬ (16777215 : Int) < (sz : Int) := by omega
  have HN := Lib.hid hn
  have HB := Lib.hid hb
  have HT := Lib.hid hT
  clear hn hb hT
  refine (callsIn_wide (n := 3)).1 ?_
  refine callsIn_of_wp_marks Tryd.func7 rfl trivial ?_ rfl
  simp only [Tryd.ntmps7, List.size_toArray, List.length_cons, List.length_nil, Nat.reduceAdd, Nat.reduceSub, Array.replicate_succ, Array.replicate_zero, List.push_toArray, List.append_toArray, List.nil_append, List.cons_append]
  gi_wp2_with (refine ⟨trivial, ?_⟩; gi_at_call 15; refine (callsIn_wide.2 (CF.out _)).mono ?_; rintro e w' ⟨rfl, rfl⟩)
  obtain ⟨W2, hW2⟩ : ∃ W2, W2 = ((w.alloc (.cells #[.slice none 0 0] 22)).alloc (.cells #[.slice A n c] 22)).alloc (.cells #[.int .i64 sz] 3) := ⟨_, rfl⟩
  rw [← hW2]
  have hsz : W2.heap.size = w.heap.size + 3 := by rw [hW2]; simp
  have b2 : Below w.heap.size w W2 := by rw [hW2]; exact Below.alloc (Below.alloc (Below.alloc (Below.refl _ _) (Nat.le_refl _) _) (by simp) _) (by simp; omega) _
  have rb : W2.heap[w.heap.size]? = some (.cells #[.slice none 0 0] 22 (0, 0)) := by rw [hW2]; exact row_old _ (row_old _ (row_new _ rfl))
  have c1 : W2.cell? ⟨w.heap.size + 1, 0, none⟩ = some (.slice A n c) := (cell_of_row _ _ 0 _ _ _ (show W2.heap[w.heap.size + 1]? = some (.cells #[.slice A n c] 22 (0, 0)) by rw [hW2]; exact row_old _ (row_new _ (by simp)))).trans rfl
  have c2 : W2.cell? ⟨w.heap.size + 1 + 1, 0, none⟩ = some (.int .i64 sz) := (cell_of_row _ _ 0 _ _ _ (show W2.heap[w.heap.size + 1 + 1]? = some (.cells #[.int .i64 sz] 3 (0, 0)) by rw [hW2]; exact row_new _ (by simp))).trans rfl
  have I0 : EncI0 w W2 sz w.heap.size W2.heap.size [] W2 := ⟨_, rb, World.ownsRow_nil _ _ _ _, fun _ _ _ => rfl, b2, Nat.le_refl _⟩
  have hAb : b ≠ [] → ∀ p, A = some p → p.block < w.heap.size := fun hb p hp => HB.out.inside p hp (List.length_pos_iff.2 hb)
  have hT2 : (2 : Nat) < w.heap.size := World.block_lt_of_cell? w _ HT.out
  have ST := chunk_stops w A b c sz HB.out hs hs6 hAb hl w.heap.size W2.heap.size (w.heap.size + 1) (w.heap.size + 1 + 1) ⟨by omega, by omega⟩ ⟨by omega, by omega⟩ W2 (by rw [← HN.out]; exact c1) c2 (Nat.le_refl _)
  have HI0 := Lib.hid I0
  have hmx : ∀ (pre : List (Part w sz)), pre.length ≤ b.length / sz + 1 → (catP pre).length ≤ 12094627905536 + 16777225 := fun pre hp => by
    have h1 := catP_len hs6 pre
    have h2 : pre.length * (sz + 10) ≤ (b.length / sz + 1) * (sz + 10) := Nat.mul_le_mul_right _ hp
    have h3 : (b.length / sz + 1) * (sz + 10) = b.length / sz * sz + b.length / sz * 10 + (sz + 10) := by rw [Nat.add_mul, Nat.mul_add]; omega
    have h4 := Nat.div_mul_le_self b.length sz
    have h5 := Nat.div_le_self b.length sz
    omega
  have HMX := Lib.hid hmx
  clear CF HB hW2 b2 rb c1 c2 I0 hAb hmx
  refine wpIn_rangeFunc_ownF rfl (by omega) (gf := 20) (lb := #[.pointer (some ⟨w.heap.size + 1, 0, none⟩), .pointer (some ⟨w.heap.size + 1 + 1, 0, none⟩)]) rfl trivial (enters_of Tryd.func20 (by kernel_rfl) rfl)
    ST KpB.t (fun W l o o' hl' _ _ _ k hk hn => World.putObj_heap_other (by omega)) (Below.refl _ _) (fun _ => rfl) (EncI0 w W2 sz w.heap.size W2.heap.size) (fun _ _ _ => False) (EncI0.own (by omega) (Nat.le_refl _) (by omega)) (fun _ _ _ _ _ h _ _ => h.elim) HI0.out
    (fun x => { tmps := #[.slice A n c, .int .i64 sz, undef, undef, .slice none 0 0, .int .i64 0, .pointer (some ⟨w.heap.size, 0, none⟩), .slice x.1.1 x.1.2.2.length x.1.2.1, .int .i64 sz, .bool false, .bool false, .int .i64 sz, .bool false, .bool false, .slice A n c, .int .i64 sz, .func (.func 20) #[] #[.pointer (some ⟨w.heap.size + 1, 0, none⟩), .pointer (some ⟨w.heap.size + 1 + 1, 0, none⟩)], .slice x.1.1 x.1.2.2.length x.1.2.1, undef, undef, undef, undef, undef], defers := [] }) ?assign ?body ?done ?stop
  case assign =>
    intro l x W K hK
    unfold encPart
    gi_wp2
    exact hK
  case stop =>
    rintro D c pre W _ _ h _
    exact h.elim
  case body =>
    rintro l pre x W hI hlen
    obtain ⟨v, hr, ho, hk, hB, hbs⟩ := hI
    have hTW : TabC W := HT.out.on hB
    have hxl : x.1.2.2.length < 16 ^ 6 := by have := x.2.2.1; omega
    have hxs : Sl W x.1.1 x.1.2.1 x.1.2.2 := x.2.1.under x.2.2.2 hB
    have hlt2 := HMX.out (pre ++ [x]) (by simp; omega)
    rw [catP_snoc, List.length_append] at hlt2
    have AC := Lib.hid (appChunk_any v (catP pre) x.1.2.2 x.1.1 x.1.2.1 W2.heap.size W hxl ho hTW hxs (fun h p hp => by have := x.2.2.2 h p hp; omega) hbs (by omega))
    have HR := Lib.hid hr
    have HK := Lib.hid hk
    have HBW := Lib.hid hB
    have HE : Hid (catP (pre ++ [x]) = catP pre ++ chunkC x.1.2.2) := Lib.hid (catP_snoc _ _)
    have cb : W.cell? ⟨w.heap.size, 0, none⟩ = some v := (cell_of_row _ _ 0 _ _ _ hr).trans rfl
    obtain ⟨Av, cv, rfl⟩ := ho.slice
    generalize (catP pre).length = nv at *
    clear hr ho hk hB hTW hxs hlt2 HI0 HMX hxl
    have hbb : w.heap.size < W2.heap.size := by omega
    have FIN : Hid (∀ v3 w3, OwnR w3 W2.heap.size v3 (catP pre ++ chunkC x.1.2.2) → Below W2.heap.size W w3 → KeepsOthers W w3 → w3.cell? ⟨w.heap.size, 0, none⟩ = some (.slice Av nv cv) ∧ w3.frozen? ⟨w.heap.size, 0, none⟩ = false ∧ (KeepsOthers W (w3.setCell ⟨w.heap.size, 0, none⟩ v3) ∧ KpB w.heap.size W2.heap.size W (w3.setCell ⟨w.heap.size, 0, none⟩ v3) ∧ EncI0 w W2 sz w.heap.size W2.heap.size (pre ++ [x]) (w3.setCell ⟨w.heap.size, 0, none⟩ v3))) := Lib.hid (fun v3 w3 o3 b3 k3 => by
      have r3 := (b3.block w.heap.size hbb).trans HR.out
      have gs : w3.grownBy (w3.setCell ⟨w.heap.size, 0, none⟩ v3) (some w.heap.size) := by
        have := grownBy_setCells w.heap.size [v3] 0 w3
        simpa [World.setCells] using this
      have kb : KpB w.heap.size W2.heap.size W (w3.setCell ⟨w.heap.size, 0, none⟩ v3) := fun k hk hn => (gs.block k (by have := b3.size; omega) (fun e => by injection e with e; exact hn e)).trans (b3.block k hk)
      refine ⟨(cell_of_row _ _ 0 _ _ _ r3).trans rfl, frozen_of_row _ _ 0 _ _ r3, k3.trans (KeepsOthers.of_grownBy gs (fun j o hj hw => by injection hj with hj; subst hj; rw [r3] at hw; injection hw with hw; subst hw; rfl)), kb, v3, row_set (i := 0) v3 r3, ?_, fun k hk hn => (kb k hk hn).trans (HK.out k hk hn), ?_, ?_⟩
      · rw [HE.out]
        exact o3.kept gs (by cases hv : v3.ownBlock with | none => exact .inl rfl | some k => exact .inr (fun e => by injection e with e; have := (World.ownsRow.lt o3 k hv).1; omega))
      · exact (Below.trans HBW.out (b3.mono (by omega))).grown gs (by have := HBW.out.size; have := b3.size; omega) (fun k e => by injection e with e; omega)
      · have := b3.size; have := gs.size; omega)
    gi_wp2_with (refine ⟨trivial, ?_⟩; gi_at_call 16; refine (CallsIn.inRound l (callsIn_wide.2 AC.out)).mono ?_; rintro e w3 ⟨v3, rfl, o3, b3, k3⟩; obtain ⟨c3, f3, hfin⟩ := FIN.out v3 w3 o3 b3 k3; have HF3 := Lib.hid hfin; obtain ⟨A3, cc3, hv3⟩ := o3.slice; obtain ⟨n3, hn3⟩ : ∃ n3, n3 = (catP pre ++ chunkC x.1.2.2).length := ⟨_, rfl⟩; rw [← hn3] at hv3; subst hv3; clear hn3 o3 b3 k3 hfin FIN AC)
    exact HF3.out
  case done =>
    rintro D xs W hD hS hI hK
    obtain ⟨v, hr, ho, hk, hB, hbs⟩ := hI
    have hTW : TabC W := HT.out.on hB
    have hlen : (catP xs).length ≤ 6597069766661 := by
      have h1 := congrArg List.length hS
      rw [List.length_append] at h1
      have h2 := encC_len b.length sz b hs hs6
      omega
    have e5 : (chunkC []).length = 5 := by rw [chunkC]; simp [hexC]
    have AC : Hid (Calls Tryd.prog 16 #[v, .slice none 0 0] W (AppX W W2.heap.size (catP xs ++ chunkC []))) := Lib.hid (appChunk_any v (catP xs) [] none 0 W2.heap.size W (by simp) ho hTW (Sl.none W) (fun h => absurd rfl h) hbs (by omega))
    have cb : W.cell? ⟨w.heap.size, 0, none⟩ = some v := (cell_of_row _ _ 0 _ _ _ hr).trans rfl
    have hend : catP xs ++ chunkC [] = encK sz b := by rw [← show endC = chunkC [] by simp [endC, chunkC, hexC, hexd]]; exact hS
    have FIN : Hid (∀ v3 w3, OwnR w3 W2.heap.size v3 (catP xs ++ chunkC []) → Below W2.heap.size W w3 → KeepsOthers W w3 → w3.heap[D]? = some (.deferred (some [])) ∧ (OwnB (w3.putObj D (.deferred none)) w.heap.size v3 (encK sz b) ∧ Below w.heap.size w (w3.putObj D (.deferred none)))) := Lib.hid (fun v3 w3 o3 b3 k3 => by
      have hd3 := k3.same D _ hK rfl
      have hg := grownBy_putObj' w3 D (.deferred none)
      refine ⟨hd3, ?_, (Below.trans hB (b3.mono (by omega))).grown hg (by have := hB.size; have := b3.size; omega) (fun k e => by injection e with e; omega)⟩
      rw [← hend]
      exact ((o3.notCells hg (fun r e => by injection e with e; subst e; exact ⟨_, hd3, rfl⟩)).ownB).mono (by omega))
    obtain ⟨Av, cv, rfl⟩ := ho.slice
    generalize (catP xs).length = nv at *
    clear hr ho hk hB hTW HI0 HMX hend hS hK
    gi_wp2_with (refine ⟨trivial, ?_⟩; gi_at_call 16; refine (callsIn_wide.2 AC.out).mono ?_; rintro e w3 ⟨v3, rfl, o3, b3, k3⟩; obtain ⟨hd3, hfin⟩ := FIN.out v3 w3 o3 b3 k3; have HF3 := Lib.hid hfin; have HD3 := Lib.hid hd3; obtain ⟨A3, cc3, hv3⟩ := o3.slice; obtain ⟨n3, hn3⟩ : ∃ n3, n3 = (catP xs ++ chunkC []).length := ⟨_, rfl⟩; rw [← hn3] at hv3; subst hv3; clear hn3 o3 b3 k3 hfin FIN AC hd3)
    refine ⟨by simp, .inl ⟨_, _, rfl, run_takeDeferred HD3.out, ?_⟩⟩
    refine ⟨_, results_tmp2 rfl _ _ _, _, rfl, HF3.out⟩
set_option maxHeartbeats 1000000 in
theorem encL_any (A : Option Addr) (b : Bs) (c : Nat) (size : Int) (w : World) (hb : Sl w A c b) (hT : TabC w) (hl : b.length ≤ 1099511627776) : Calls Tryd.prog 7 #[.slice A b.length c, .int .i64 size] w (EncK w b size) := by
  by_cases hs : size < 1 ∨ 16777215 < size
  · have HF : Hid (EncK w b size (.returned (.tuple #[.slice none 0 0, .int .i64 1])) w) := Lib.hid ⟨Below.refl _ _, .inl ⟨hs, rfl⟩⟩
    generalize EncK w b size = Q at *
    generalize b.length = n at *
    clear hb hT hl
    by_cases h1 : size < 1
    · clear hs
      go_enter Tryd.func7, Tryd.ntmps7
      go_wp2_with fail
      exact HF.out
    · have h2 : 16777215 < size := hs.resolve_left h1
      clear hs
      go_enter Tryd.func7, Tryd.ntmps7
      go_wp2_with fail
      exact HF.out
  · obtain ⟨sz, rfl⟩ : ∃ sz : Nat, size = sz := ⟨size.toNat, by omega⟩
    refine (encL_good A b c sz w hb hT hl (by omega) (by omega)).mono ?_
    rintro e w' ⟨v, rfl, ho, hB⟩
    exact ⟨hB, .inr ⟨by omega, by omega, v, rfl, by simpa using ho⟩⟩
end Go.Proofs.YtdifemaidngnjaaDoor
