/-
  The document's Copy of a set, and what kinds of blocks it leaves.
-/
import Derived.Test.YtocbcobaodefgaaEnN
namespace Go.Proofs.Ytocbcobaodefgaa
open Go.RowKit
set_option linter.unusedVariables false
set_option maxRecDepth 100000

theorem OwnR.kept {w w' : World} {base : Nat} {v : Value} {l : Bs} {r : Option Nat} (h : OwnR w base v l) (hg : w.grownBy w' r) (hne : v.ownBlock = none ∨ v.ownBlock ≠ r) : OwnR w' base v l := World.ownsRow.kept h hg hne
theorem OwnR.lt {w : World} {base : Nat} {v : Value} {l : Bs} (h : OwnR w base v l) : ∀ k, v.ownBlock = some k → base ≤ k ∧ k < w.heap.size := h.ownB.lt
theorem OwnR.mono {w : World} {base base' : Nat} {v : Value} {l : Bs} (h : OwnR w base v l) (hb : base' ≤ base) : OwnR w base' v l := by
  refine ⟨h.1, ?_⟩
  rcases h.2 with h | ⟨g, cap, cur, hv, hg, r⟩
  · exact .inl h
  · exact .inr ⟨g, cap, cur, hv, by omega, r⟩
/-- Bytes in a block of bytes. -/
def BysT (w : World) (A : Option Addr) (l : Bs) : Prop := Bys w A l ∧ (0 < l.length → ∃ g off cs, A = some ⟨g, off, none⟩ ∧ w.heap[g]? = some (.cells cs 5 (0, 0)))
theorem OwnR.bysT {w : World} {base : Nat} {v : Value} {l : Bs} (h : OwnR w base v l) : ∃ A c, v = .slice A l.length c ∧ BysT w A l ∧ l.length ≤ c ∧ c ≤ maxLen ∧ (A = none → c = 0) := by
  obtain ⟨A, c, hv, hB, hle, hm⟩ := h.ownB.bys
  refine ⟨A, c, hv, ⟨hB, fun hn => ?_⟩, hle, hm, fun hA => ?_⟩
  · rcases h.2 with ⟨hv2, h0⟩ | ⟨g, cap, cur, hv2, hg, hh, _⟩
    · omega
    · rw [hv] at hv2
      injection hv2 with e1
      exact ⟨g, 0, cur, e1, hh⟩
  · rcases h.2 with ⟨hv2, h0⟩ | ⟨g, cap, cur, hv2, _⟩
    · rw [hv] at hv2
      injection hv2
    · rw [hv] at hv2
      injection hv2 with e1
      rw [hA] at e1
      cases e1
/-- Slices of bytes in a block of slices, each in a block of bytes. -/
def ByssT (w : World) (A : Option Addr) (L : List Bs) : Prop := 0 < L.length → ∃ g off cs, A = some ⟨g, off, none⟩ ∧ w.heap[g]? = some (.cells cs 22 (0, 0)) ∧ ∀ j (h : j < L.length), ∃ a c, w.cell? ⟨g, off + j, none⟩ = some (.slice a (L[j]).length c) ∧ BysT w a L[j] ∧ (L[j]).length ≤ c ∧ c ≤ 9223372036854775807 ∧ (a = none → c = 0)
theorem ByssT.byss {w : World} {A : Option Addr} {L : List Bs} (h : ByssT w A L) : Byss w A L := fun hn => by
  obtain ⟨g, off, cs, h1, h2, h3⟩ := h hn
  refine ⟨g, off, h1, fun j hj => ?_⟩
  obtain ⟨a, c, h4, h5, h6⟩ := h3 j hj
  exact ⟨a, c, h4, h5.1, h6⟩
theorem BysT.kept {w w' : World} {A : Option Addr} {l : Bs} (h : BysT w A l) (hk : ∀ (g : Nat) (cs : Array Value), w.heap[g]? = some (.cells cs 5 (0, 0)) → w'.heap[g]? = w.heap[g]?) : BysT w' A l := by
  refine ⟨fun hn => ?_, fun hn => ?_⟩
  · obtain ⟨g, off, cs, hA, hh⟩ := h.2 hn
    obtain ⟨g2, off2, hA2, hc⟩ := h.1 hn
    rw [hA] at hA2
    injection hA2 with hA2
    injection hA2 with e1 e2
    subst e1 e2
    exact ⟨g, off, hA, fun j hj => (World.cell?_of_block (a := ⟨g, off + j, none⟩) (hk g cs hh)).trans (hc j hj)⟩
  · obtain ⟨g, off, cs, hA, hh⟩ := h.2 hn
    exact ⟨g, off, cs, hA, (hk g cs hh).trans hh⟩
theorem ByssT.kept {w w' : World} {A : Option Addr} {L : List Bs} (h : ByssT w A L) (hk : ∀ (g : Nat) (cs : Array Value) (t : TypeId), t = 5 ∨ t = 22 → w.heap[g]? = some (.cells cs t (0, 0)) → w'.heap[g]? = w.heap[g]?) : ByssT w' A L := fun hn => by
  obtain ⟨g, off, cs, h1, h2, h3⟩ := h hn
  refine ⟨g, off, cs, h1, (hk g cs _ (.inr rfl) h2).trans h2, fun j hj => ?_⟩
  obtain ⟨a, c, h4, h5, h6⟩ := h3 j hj
  exact ⟨a, c, (World.cell?_of_block (a := ⟨g, off + j, none⟩) (hk g cs _ (.inr rfl) h2)).trans h4, h5.kept (fun g cs => hk g cs _ (.inl rfl)), h6⟩
theorem ByssT.on {w w' : World} {A : Option Addr} {L : List Bs} (h : ByssT w A L) (hB : Below w.heap.size w w') : ByssT w' A L := h.kept (fun g cs t _ hh => hB.block _ (Array.getElem?_eq_some_iff.1 hh).1)
theorem ByssT.setRow {w : World} {A : Option Addr} {L : List Bs} {p : Nat} {C C' : Array Value} (h : ByssT w A L) (hp : w.heap[p]? = some (.cells C 28 (0, 0))) : ByssT (w.setRow p C') A L := h.kept (fun g cs t ht hh => setRow_other w p g C' (fun e => by
  subst e
  rw [hp] at hh
  injection hh with hh
  injection hh with _ hh _
  rcases ht with ht | ht <;> (rw [ht] at hh; revert hh; decide)))

/-- Slices of bytes that the call made, none in the block u. -/
def RowsR (w : World) (base : Nat) (u : Option Nat) (xs : List Value) (M : List Bs) : Prop := xs.length = M.length ∧ ∀ j (h : j < M.length), ∃ v, xs[j]? = some v ∧ OwnR w base v M[j] ∧ (v.ownBlock = none ∨ v.ownBlock ≠ u)
theorem RowsR.nil {w : World} {base : Nat} {u : Option Nat} : RowsR w base u [] [] := ⟨rfl, fun j h => absurd h (by simp)⟩
theorem RowsR.kept {w w' : World} {base : Nat} {u : Option Nat} {xs : List Value} {M : List Bs} (h : RowsR w base u xs M) (hg : w.grownBy w' u) : RowsR w' base u xs M :=
  ⟨h.1, fun j hj => by
    obtain ⟨v, h1, h2, h3⟩ := h.2 j hj
    exact ⟨v, h1, OwnR.kept h2 hg h3, h3⟩⟩
theorem RowsR.far {w w' : World} {base : Nat} {u r : Option Nat} {xs : List Value} {M : List Bs} (h : RowsR w base u xs M) (hg : w.grownBy w' r) (hr : ∀ k, r = some k → k < base) : RowsR w' base u xs M :=
  ⟨h.1, fun j hj => by
    obtain ⟨v, h1, h2, h3⟩ := h.2 j hj
    refine ⟨v, h1, OwnR.kept h2 hg ?_, h3⟩
    cases hv : v.ownBlock with
    | none => exact .inl rfl
    | some k =>
      refine .inr fun e => ?_
      have := hr k e.symm
      have := (OwnR.lt h2 k hv).1
      omega⟩
theorem RowsR.below {w w' : World} {base : Nat} {u : Option Nat} {xs : List Value} {M : List Bs} (h : RowsR w base u xs M) (hB : Below w.heap.size w w') : RowsR w' base u xs M := h.kept (grown_of_below hB u)
theorem RowsR.step {w w' : World} {base : Nat} {u u' : Option Nat} {xs : List Value} {M : List Bs} (h : RowsR w base u xs M) (hg : w.grownBy w' u) (hu : u' = u ∨ u' = some w.heap.size) : RowsR w' base u' xs M := by
  refine ⟨h.1, fun j hj => ?_⟩
  obtain ⟨v, h1, h2, h3⟩ := h.2 j hj
  refine ⟨v, h1, OwnR.kept h2 hg h3, ?_⟩
  rcases hu with rfl | rfl
  · exact h3
  · refine .inr fun he => ?_
    have := (OwnR.lt h2 _ he).2
    omega
theorem RowsR.snoc {w : World} {base : Nat} {u : Option Nat} {xs : List Value} {M : List Bs} {x : Bs} {v : Value} (h : RowsR w base u xs M) (hv : OwnR w base v x) (hn : v.ownBlock = none ∨ v.ownBlock ≠ u) : RowsR w base u (xs ++ [v]) (M ++ [x]) := by
  refine ⟨by simp [h.1], fun j hj => ?_⟩
  by_cases hjl : j < M.length
  · obtain ⟨v', h1, h2, h3⟩ := h.2 j hjl
    refine ⟨v', ?_, by rw [List.getElem_append_left hjl]; exact h2, h3⟩
    rw [List.getElem?_append_left (by rw [h.1]; exact hjl)]
    exact h1
  · have : j = M.length := by simp at hj; omega
    subst this
    refine ⟨v, ?_, by rw [List.getElem_append_right (Nat.le_refl _)]; simpa using hv, hn⟩
    rw [List.getElem?_append_right (by rw [h.1]; exact Nat.le_refl _), h.1]
    simp
/-- Slices of bytes in a row, all in memory that the call made. -/
theorem RowsR.byss {w : World} {base B n : Nat} {u : Option Nat} {v : Value} {xs : List Value} {M : List Bs} (ho : w.ownsRow B 22 1 v n xs) (h : RowsR w base u xs M) : n = M.length ∧ ∃ A c, v = .slice A M.length c ∧ ByssT w A M ∧ M.length ≤ c ∧ c ≤ 9223372036854775807 ∧ (A = none → c = 0) := by
  have hl : n = M.length := by have := ho.1; rw [h.1] at this; omega
  refine ⟨hl, ?_⟩
  rcases ho.2 with ⟨hv, h0⟩ | ⟨g, cap, cur, hv, hb, hh, hc, hm2, hsz, ht⟩
  · exact ⟨none, 0, by rw [hv, ← hl, h0], fun hn => by omega, by omega, by omega, fun _ => rfl⟩
  · refine ⟨_, cap, by rw [hv, hl], fun hn => ⟨g, 0, cur, rfl, hh, fun j hj => ?_⟩, by omega, by unfold maxLen at hm2; omega, fun h => by cases h⟩
    obtain ⟨v', h1, h2, h3⟩ := h.2 j hj
    obtain ⟨A, c, rfl, hB, hle, hmx, hnn⟩ := h2.bysT
    refine ⟨A, c, ?_, hB, hle, by unfold maxLen at hmx; omega, hnn⟩
    rw [cell_of_row _ g (0 + j) _ _ _ hh]
    rw [← ht, List.getElem?_take_of_lt (by omega)] at h1
    rw [Nat.zero_add]
    simpa using h1
theorem OwnR.empty (w : World) (base : Nat) (hb : base ≤ w.heap.size) : OwnR (w.alloc (.cells #[] 5)) base (.slice (some ⟨w.heap.size, 0, none⟩) 0 0) [] := OwnR.made (l := []) hb rfl (by simp [maxLen])

set_option maxHeartbeats 2000000 in
set_option maxRecDepth 100000 in
theorem dCopyT_any (s : St) (A : Option Addr) (c : Nat) (w : World) (hS : Byss w A s.ds) (hl : s.ds.length * 24 ≤ 140737488351232) (hd : ∀ x ∈ s.ds, x.length ≤ 140737488351232) :
    Calls Try.prog 23 #[.agg (stC s A c)] w fun e w' => ∃ A' c', e = .returned (.agg (stC s A' c')) ∧ ByssT w' A' s.ds ∧ s.ds.length ≤ c' ∧ c' ≤ 9223372036854775807 ∧ (A' = none → c' = 0) ∧ Below w.heap.size w w' := by
  obtain ⟨i0, hi, hz0, hz1, hz2⟩ := info_parts info_slb
  obtain ⟨sn, st, sc, sr, sk, se, sz, L⟩ := s
  simp only [stC, stL] at *
  obtain ⟨n, hn⟩ : ∃ n, n = L.length := ⟨_, rfl⟩
  rw [← hn]
  rw [← hn] at hl
  have HN := Lib.hid hn
  have HD := Lib.hid hd
  clear hn hd
  have r1 := row_old (.cells #[.string ⟨#[]⟩, .int .i64 0, .int .i64 0, .int .i64 0, .int .i64 0, .int .i64 0, .string ⟨#[]⟩, .slice none 0 0] 26 (0, 0)) (row_new (w := w) (k := w.heap.size) (.cells #[.string (bs sn), .int .i64 st, .int .i64 sc, .int .i64 sr, .int .i64 sk, .int .i64 se, .string (bs sz), .slice A n c] 26 (0, 0)) rfl)
  have r2 := row_new (w := w.alloc (.cells #[.string (bs sn), .int .i64 st, .int .i64 sc, .int .i64 sr, .int .i64 sk, .int .i64 se, .string (bs sz), .slice A n c] 26 (0, 0))) (k := w.heap.size + 1) (.cells #[.string ⟨#[]⟩, .int .i64 0, .int .i64 0, .int .i64 0, .int .i64 0, .int .i64 0, .string ⟨#[]⟩, .slice none 0 0] 26 (0, 0)) (by simp)
  have b0 : Below w.heap.size w ((w.alloc (.cells #[.string (bs sn), .int .i64 st, .int .i64 sc, .int .i64 sr, .int .i64 sk, .int .i64 se, .string (bs sz), .slice A n c] 26 (0, 0))).alloc (.cells #[.string ⟨#[]⟩, .int .i64 0, .int .i64 0, .int .i64 0, .int .i64 0, .int .i64 0, .string ⟨#[]⟩, .slice none 0 0] 26 (0, 0))) := Below.alloc (Below.alloc (Below.refl _ _) (Nat.le_refl _) _) (by simp) _
  have s0 : w.heap.size + 1 < ((w.alloc (.cells #[.string (bs sn), .int .i64 st, .int .i64 sc, .int .i64 sr, .int .i64 sk, .int .i64 se, .string (bs sz), .slice A n c] 26 (0, 0))).alloc (.cells #[.string ⟨#[]⟩, .int .i64 0, .int .i64 0, .int .i64 0, .int .i64 0, .int .i64 0, .string ⟨#[]⟩, .slice none 0 0] 26 (0, 0))).heap.size := by simp
  have c7 := (cell_of_row _ _ 7 _ _ _ r1).trans (show _ = some (.slice A n c) from rfl)
  have hS0 := hS.on b0
  have R1 := Lib.hid r1
  have R2 := Lib.hid r2
  clear r1 r2 hS
  go_enter Try.func23, Try.ntmps23
  go_wp2_with fail
  generalize (w.alloc (.cells #[.string (bs sn), .int .i64 st, .int .i64 sc, .int .i64 sr, .int .i64 sk, .int .i64 se, .string (bs sz), .slice A n c] 26 (0, 0))).alloc (.cells #[.string ⟨#[]⟩, .int .i64 0, .int .i64 0, .int .i64 0, .int .i64 0, .int .i64 0, .string ⟨#[]⟩, .slice none 0 0] 26 (0, 0)) = W0 at *
  clear c7
  go_loopw [3, 9] (fun v3 v9 wr => ∃ (k : Nat) (xs : List Value), v9 = .int .i64 k ∧ k ≤ n ∧ wr.ownsRow W0.heap.size 22 1 v3 k xs ∧ RowsR wr W0.heap.size v3.ownBlock xs (L.take k) ∧ Below W0.heap.size W0 wr) (fun _ v9 _ => n - (intOf v9).toNat)
  case atStart => exact ⟨0, [], rfl, by omega, World.ownsRow_nil _ _ _ _, RowsR.nil, Below.refl _ _⟩
  case round =>
    obtain ⟨k, xs, rfl, hk, hown, hrows, hB⟩ := hrel
    by_cases hlt : k < n
    · have hlt' : (k : Int) < (n : Int) := by omega
      have kL : k < L.length := by have := HN.out; omega
      obtain ⟨g1, o1, rfl, hc1⟩ := id hS0 (by omega)
      obtain ⟨a1, d1, C1, D1, hd1, hm1, hn1⟩ := hc1 k kL
      have C1' := cell_on C1 hB
      have D1' := D1.on hB
      have hxd := HD.out L[k] (List.getElem_mem kL)
      have htk : L.take (k + 1) = L.take k ++ [L[k]] := List.take_succ_eq_append_getElem kL
      generalize L[k] = x at *
      have HT := Lib.hid htk
      have hsz := hB.size
      have D2 := Lib.hid (D1'.on (Below.alloc (Below.refl wr.heap.size wr) (Nat.le_refl _) (.cells #[] 5)))
      have E2 := Lib.hid (OwnR.empty wr wr.heap.size (Nat.le_refl _))
      have HM1 := Lib.hid hn1
      have HO := Lib.hid hown
      have HR := Lib.hid hrows
      have HB := Lib.hid hB
      have HX : Hid (0 + x.length ≤ 140737488355328) := Lib.hid (by omega)
      clear htk C1 D1 D1' hc1 hS0 hown hrows hB hn1 hd1 hm1 hxd
      go_wp2_with (first
        | (at_builtin; refine wpList_appR rfl _ _ rfl wr.heap.size _ [] rfl E2.out a1 x.length d1 rfl x rfl D2.out HM1.out HX.out (by simp) ?_)
        | fail)
      intro v' w1 ho1 hg1
      obtain ⟨A9, c9, rfl, Y9, Y8, Y7⟩ := ho1.ownB.bys
      clear Y9 Y8 Y7
      have g01 : wr.grownBy w1 none := grown_trans (grown_alloc wr _ none) hg1 (fun k hk => by simp [Value.ownBlock] at hk; exact .inr (by omega))
      have hown1 := HO.out.kept g01 (by cases hv : u3.ownBlock <;> simp)
      have hrows1 := HR.out.below (w' := w1) ⟨g01.os, g01.tape, g01.output, g01.size, fun k hk => g01.block k hk (by simp)⟩
      have hB1 : Below W0.heap.size W0 w1 := Below.trans HB.out (Below.mono ⟨g01.os, g01.tape, g01.output, g01.size, fun k hk => g01.block k hk (by simp)⟩ hsz)
      have hlt3 := fun g e => (HO.out.lt g e).2
      have hge1 := fun g e => (OwnR.lt ho1 g e).1
      have sz1 := g01.size
      have ho1' : OwnR w1 W0.heap.size (Value.slice A9 x.length c9) x := ho1.mono hsz
      have hne : (Value.slice A9 x.length c9).ownBlock = none ∨ (Value.slice A9 x.length c9).ownBlock ≠ u3.ownBlock := by
        cases hv : (Value.slice A9 x.length c9).ownBlock with
        | none => exact .inl rfl
        | some g => exact .inr (fun e => by have h1 := hge1 g hv; have h2 := hlt3 g e.symm; omega)
      have H1 := Lib.hid hown1
      have HR1 := Lib.hid hrows1
      have HO1 := Lib.hid ho1'
      have HNE := Lib.hid hne
      have HB1 := Lib.hid hB1
      have sw1 := hB1.size
      clear ho1 hg1 g01 hown1 hrows1 hB1 hlt3 hge1 ho1' hne HO HR HB E2 D2 HX HM1
      go_wp2_with (first
        | (at_builtin; refine wpList_append_at rfl _ _ 24 rfl W0.heap.size 22 i0 (.slice none 0 0) 1 24 Try.underlying24 hi hz0 hz1 hz2 rfl (by decide) _ k xs rfl (ownsRow_below H1.out (Below.alloc (Below.refl w1.heap.size w1) (Nat.le_refl _) _) (Nat.le_refl _)) ⟨w1.heap.size, 0, none⟩ 1 1 [(Value.slice A9 x.length c9)] rfl rfl (World.news_of_block (cs := #[(Value.slice A9 x.length c9)]) (t := 22) (fr := (0, 0)) (row_new _ rfl)) (by intro u hu; rw [List.mem_singleton.1 hu]; rfl) (by unfold maxLen; omega) (by omega) (by simp; omega) ?_)
        | fail)
      intro v2 w2 hown2 hg2 hf2
      have ba := Below.alloc (Below.refl w1.heap.size w1) (Nat.le_refl _) (.cells #[(Value.slice A9 x.length c9)] 22 (0, 0))
      have hr2 := ((HR1.out.below ba).snoc (OwnR.below HO1.out ba) HNE.out).step (u' := v2.ownBlock) hg2 (by simpa using hf2)
      have hlt2 := fun g e => (H1.out.lt g e).1
      have hB2 : Below W0.heap.size W0 w2 := Below.grown (Below.alloc HB1.out sw1 _) hg2 (by simp; omega) hlt2
      have HH := Lib.hid hown2
      rw [← HT.out] at hr2
      have HRR := Lib.hid hr2
      clear hown2 hg2 hf2 hr2 ba H1 HR1 HO1 HNE HB1 hlt2
      go_wp2_with fail
      go_roundw
      case rel => exact ⟨k + 1, _, by go_num, by omega, HH.out, HRR.out, hB2⟩
      case measure => simp [intOf]; omega
    · have hlt' : ¬ (k : Int) < (n : Int) := by omega
      obtain rfl : k = n := by omega
      have htk : L.take k = L := by rw [HN.out, List.take_length]
      rw [htk] at hrows
      have szr := hB.size
      have hlt3 := fun g e => (hown.lt g e).1
      obtain ⟨-, A', c', hv3, -, hc1, hc2, hc3⟩ := RowsR.byss hown hrows
      rw [← HN.out] at hv3
      subst hv3
      have r1 := (hB.block _ (by omega)).trans R1.out
      have r2 := (hB.block _ (by omega)).trans R2.out
      rw [← HN.out] at hc1
      have there : wr.cell? ⟨w.heap.size, 7, none⟩ = some (.slice A k c) := (cell_of_row _ _ 7 _ _ _ r1).trans rfl
      have fz : wr.frozen? ⟨w.heap.size, 7, none⟩ = false := frozen_of_row _ _ 7 _ _ r1
      have gs : wr.grownBy (wr.setCell ⟨w.heap.size, 7, none⟩ (.slice A' k c')) (some w.heap.size) := by
        have := grownBy_setCells w.heap.size [.slice A' k c'] 7 wr
        simpa [World.setCells] using this
      have r1' := row_set (w := wr) (g := w.heap.size) (i := 7) (.slice A' k c') r1
      rw [show (#[.string (bs sn), .int .i64 st, .int .i64 sc, .int .i64 sr, .int .i64 sk, .int .i64 se, .string (bs sz), .slice A k c] : Array Value).setIfInBounds 7 (.slice A' k c') = #[.string (bs sn), .int .i64 st, .int .i64 sc, .int .i64 sr, .int .i64 sk, .int .i64 se, .string (bs sz), .slice A' k c'] from rfl] at r1'
      have r2' := (gs.block (w.heap.size + 1) (by omega) (by simp)).trans r2
      have hown2 := hown.kept gs (by
        cases hv : (Value.slice A' k c').ownBlock with
        | none => exact .inl rfl
        | some g => exact .inr (fun e => by injection e with e; have := hlt3 g hv; omega))
      have hrows2 := hrows.far gs (fun g e => by injection e with e; omega)
      have bw0 : Below w.heap.size w wr := Below.trans b0 (hB.mono (by omega))
      have bw1 : Below w.heap.size w (wr.setCell ⟨w.heap.size, 7, none⟩ (.slice A' k c')) := Below.setCell bw0 (Nat.le_refl _) _
      have sz1 : (wr.setCell ⟨w.heap.size, 7, none⟩ (.slice A' k c')).heap.size = wr.heap.size := by simp
      obtain ⟨l1, hl1⟩ : ∃ l : Array Value, l = #[.string (bs sn), .int .i64 st, .int .i64 sc, .int .i64 sr, .int .i64 sk, .int .i64 se, .string (bs sz), .slice A' k c'] := ⟨_, rfl⟩
      have I1 : Hid ((Try.prog.info? 26).map (·.size) = some l1.size) := Lib.hid (by rw [hl1]; exact info_st)
      have O1 : Hid (l1.all (·.oneCell') = true) := Lib.hid (by rw [hl1]; simp [Value.oneCell'])
      have Z1 : Hid ((#[.string ⟨#[]⟩, .int .i64 0, .int .i64 0, .int .i64 0, .int .i64 0, .int .i64 0, .string ⟨#[]⟩, .slice none 0 0] : Array Value).size = l1.size) := Lib.hid (by rw [hl1]; rfl)
      rw [← hl1] at r1'
      have HL1 := Lib.hid hl1
      obtain ⟨W1, hW1⟩ : ∃ W1, W1 = wr.setCell ⟨w.heap.size, 7, none⟩ (.slice A' k c') := ⟨_, rfl⟩
      rw [← hW1] at r1' r2' hown2 hrows2 bw1 sz1
      have HW1 := Lib.hid hW1
      have g2 := grownBy_setRow (w := W1) (g := w.heap.size + 1) l1
      have hown3 := hown2.kept g2 (by
        cases hv : (Value.slice A' k c').ownBlock with
        | none => exact .inl rfl
        | some g => exact .inr (fun e => by injection e with e; have := hlt3 g hv; omega))
      have hrows3 := hrows2.far g2 (fun g e => by injection e with e; omega)
      have bw2 : Below w.heap.size w (W1.setRow (w.heap.size + 1) l1) := Below.setRow bw1 (by omega) _
      have HF : Hid (ByssT (W1.setRow (w.heap.size + 1) l1) A' L) := Lib.hid (by
        obtain ⟨_, A2, c2, he, hby, _⟩ := RowsR.byss hown3 hrows3
        injection he with e1
        subst e1
        exact hby)
      have rF := setRow_heap _ _ _ l1 _ _ r2'
      have R1' := Lib.hid r1'
      have HC := Lib.hid hc3
      clear hown hrows hown2 hrows2 hown3 hrows3 gs g2 hlt3 hB hS0 htk r1 r2 bw0 bw1 hW1 hl1 r1' hc3
      go_wp2_with (first
        | (refine wpList_load_row rfl 26 (.tmp 1) rfl w.heap.size rfl 26 l1 (0, 0) _ (by rw [← HW1.out]; exact R1'.out) Try.underlying26 rfl I1.out ?_; rw [← HW1.out])
        | (refine wpList_store_row rfl 26 (.tmp 2) (.tmp 22) rfl (w.heap.size + 1) l1 rfl rfl 26 _ r2' I1.out (by first | exact Z1.out | exact Z1.out.symm) O1.out ?_)
        | fail)
      refine bodyPost_ret (v := .agg l1) (results_cell_row (fn := Try.f23) (p := 2) (ty := 26) (by kernel_rfl) _ _ (w.heap.size + 1) 26 l1 (0, 0) _ rfl rF Try.underlying26 rfl I1.out) rfl ?_
      exact ⟨A', c', by rw [HL1.out], HF.out, hc1, hc2, HC.out, bw2⟩
end Go.Proofs.Ytocbcobaodefgaa
