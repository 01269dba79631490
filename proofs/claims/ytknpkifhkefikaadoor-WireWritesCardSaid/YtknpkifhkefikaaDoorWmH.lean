/-
  Records copied: the walk of the statements' own RRs.
-/
import Derived.Test.YtknpkifhkefikaaDoorWmG
namespace Go.Proofs.YtknpkifhkefikaaDoor
open Go.RowKit
set_option linter.unusedVariables false
set_option maxRecDepth 100000

theorem info_r5 : (Tryd.prog.info? 72).map (fun i => (i.zero, i.size, i.bytes)) = some (some (.agg #[.string ⟨#[]⟩, .int .i64 0, .int .i64 0, .int .i64 0, .slice none 0 0]), 5, 64) := by kernel_rfl

theorem own_kind {w : World} {B size n : Nat} {e : TypeId} {v : Value} {xs : List Value} (h : w.ownsRow B e size v n xs) : ∀ g, v.ownBlock = some g → ∃ cs fz, w.heap[g]? = some (.cells cs e fz) := by
  intro g hg
  rcases h.2 with ⟨rfl, _⟩ | ⟨g', cap, cur, rfl, _, hh, _⟩
  · simp [Value.ownBlock] at hg
  · simp [Value.ownBlock] at hg
    subst hg
    exact ⟨_, _, hh⟩

set_option maxHeartbeats 1000000 in
set_option maxRecDepth 100000 in
theorem RRs_any (A : Option Addr) (L : List Rr) (c : Nat) (w : World) (hS : Rs w A L) (hl : L.length * 64 ≤ 140737488351232) (hd : ∀ x ∈ L, x.d.length ≤ 140737488351232) :
    Calls Tryd.prog 27 #[.slice A L.length c] w fun e w' => ∃ A' c', e = .returned (.slice A' L.length c') ∧ RsT w' A' L ∧ L.length ≤ c' ∧ c' ≤ 9223372036854775807 ∧ Below w.heap.size w w' := by
  obtain ⟨i0, hi, hz0, hz1, hz2⟩ := info_parts info_r5
  obtain ⟨n, hn⟩ : ∃ n, n = L.length := ⟨_, rfl⟩
  rw [← hn]
  rw [← hn] at hl
  have HN := Lib.hid hn
  have HD := Lib.hid hd
  clear hn hd
  go_enter Tryd.func27, Tryd.ntmps27
  go_wp2_with fail
  go_loopw [3, 8] (fun v3 v8 wr => ∃ (k : Nat) (xs : List Value), v8 = .int .i64 k ∧ k ≤ n ∧ wr.ownsRow w.heap.size 72 5 v3 k xs ∧ Rows5 wr xs (L.take k) ∧ Below w.heap.size w wr) (fun _ v8 _ => n - (intOf v8).toNat)
  case atStart => exact ⟨0, [], rfl, by omega, World.ownsRow_nil _ _ _ _, ⟨rfl, fun j hj => absurd hj (by simp)⟩, Below.refl _ _⟩
  case round =>
    obtain ⟨k, xs, rfl, hk, hown, hrows, hB⟩ := hrel
    by_cases hlt : k < n
    · have hlt' : (k : Int) < (n : Int) := by omega
      have kL : k < L.length := by have := HN.out; omega
      obtain ⟨g1, o1, rfl, hc1⟩ := id hS (by omega)
      obtain ⟨a1, d1, D1, R1⟩ := hc1 k kL
      have R1' := range_on R1 hB
      have hxd := HD.out L[k] (List.getElem_mem kL)
      have htk : L.take (k + 1) = L.take k ++ [L[k]] := List.take_succ_eq_append_getElem kL
      have D1' := D1.bys.on hB
      generalize L[k] = x at *
      have HT := Lib.hid htk
      have hsz := hB.size
      have i1 : Hid ((Tryd.prog.info? 72).map (·.size) = some (rrL x a1 d1).toArray.size) := Lib.hid info_rr
      have j1 : Hid ((Tryd.prog.info? 72).map (·.size) = some (rrL x a1 d1).length) := Lib.hid info_rr
      have one1 := Lib.hid (rr_one x a1 d1)
      unfold rrC at one1
      have z1 : Hid ((rrZ).size = (rrL x a1 d1).toArray.size) := Lib.hid rfl
      have rZ := row_new (w := wr) (k := wr.heap.size) (.cells rrZ 72 (0, 0)) rfl
      have r5 := setRow_heap _ _ _ (rrL x a1 d1).toArray _ _ rZ
      have q1 : Below wr.heap.size wr ((wr.alloc (.cells rrZ 72)).setRow wr.heap.size (rrL x a1 d1).toArray) := Below.setRow (Below.alloc (Below.refl _ _) (Nat.le_refl _) _) (Nat.le_refl _) _
      have sz1 : ((wr.alloc (.cells rrZ 72)).setRow wr.heap.size (rrL x a1 d1).toArray).heap.size = wr.heap.size + 1 := by rw [size_setRow]; simp
      rw [rrZ_lit] at rZ r5 q1 sz1
      obtain ⟨W1, hW1⟩ : ∃ W1, W1 = (wr.alloc (.cells #[.string ⟨#[]⟩, .int .i64 0, .int .i64 0, .int .i64 0, .slice none 0 0] 72)).setRow wr.heap.size (rrL x a1 d1).toArray := ⟨_, rfl⟩
      rw [← hW1] at r5 q1 sz1
      have HW1 := Lib.hid hW1
      have hown1 := ownsRow_below hown q1 (Nat.le_refl _)
      have hrows1 := hrows.below q1
      have D1'' := D1'.on q1
      have hB1 := Below.trans hB (q1.mono hsz)
      have c4 : W1.cell? ⟨wr.heap.size, 4, none⟩ = some (.slice a1 x.d.length d1) := (cell_of_row _ _ 4 _ _ _ r5).trans rfl
      have CL := Lib.hid (CloneT_any a1 x.d x.d.length d1 W1 D1'' rfl hxd D1''.inside)
      have R5 := Lib.hid r5
      have HO := Lib.hid hown1
      have HLT := Lib.hid (fun g e => (hown.lt g e).2)
      have HR := Lib.hid hrows1
      clear hW1 hc1 D1 R1 hxd htk hown hrows D1' D1'' hB q1 r5 hown1 hrows1
      have hl5 : (rrL x a1 d1) = rrL x a1 d1 := rfl
      clear hl5
      obtain ⟨l1, hl1⟩ : ∃ l1, l1 = rrL x a1 d1 := ⟨_, rfl⟩
      have HL1 := Lib.hid hl1
      rw [← hl1] at R1' i1 j1 one1 z1 HW1 R5
      clear hl1
      go_wp2_with (first
        | (refine wpList_load_mid rfl 72 (.tmp 10) rfl g1 (o1 + k * 5) rfl l1 _ R1' Tryd.underlying72 rfl j1.out ?_)
        | (refine wpList_store_row rfl 72 (.tmp 5) (.tmp 11) rfl wr.heap.size l1.toArray rfl rfl 72 _ rZ i1.out (by first | exact z1.out | exact z1.out.symm) one1.out ?_; rw [← HW1.out])
        | fail)
      refine CL.out.mono ?_
      rintro e w2 ⟨v, rfl, hv, _, b2⟩
      obtain ⟨B, d, rfl⟩ : ∃ B d, v = .slice B x.d.length d := by
        rcases hv.2 with ⟨h1, h0⟩ | ⟨g, cap, cur, h1, _⟩
        · exact ⟨none, 0, by rw [h1, h0]⟩
        · exact ⟨_, _, h1⟩
      obtain ⟨_, T2⟩ := DatT.of hv
      have r5 := (b2.block _ (Array.getElem?_eq_some_iff.1 R5.out).1).trans R5.out
      have hown2 := ownsRow_below HO.out b2 (Nat.le_refl _)
      have hrows2 := HR.out.below b2
      have hB2 := Below.trans hB1 (b2.mono hB1.size)
      have there : w2.cell? ⟨wr.heap.size, 4, none⟩ = some (.slice a1 x.d.length d1) := cell_on c4 b2
      have fz : w2.frozen? ⟨wr.heap.size, 4, none⟩ = false := frozen_of_row _ _ 4 _ _ r5
      have gs : w2.grownBy (w2.setCell ⟨wr.heap.size, 4, none⟩ (.slice B x.d.length d)) (some wr.heap.size) := by
        have := grownBy_setCells wr.heap.size [.slice B x.d.length d] 4 w2
        simpa [World.setCells] using this
      have r5' := row_set (w := w2) (g := wr.heap.size) (i := 4) (.slice B x.d.length d) r5
      rw [HL1.out, show (rrL x a1 d1).toArray.setIfInBounds 4 (.slice B x.d.length d) = #[.string (bs x.n), .int .i64 x.t, .int .i64 x.c, .int .i64 x.ttl, .slice B x.d.length d] from rfl] at r5'
      have hkind : ∀ g, some wr.heap.size = some g → ∃ cs fz, w2.heap[g]? = some (.cells cs 72 fz) := fun g e => by
        injection e with e
        subst e
        exact ⟨_, _, r5⟩
      have hown3 := hown2.kept gs (.inr (fun e => by have := HLT.out _ e; omega))
      have hrows3 := hrows2.kept gs hkind
      have T3 := T2.kept gs hkind
      have hB3 : Below w.heap.size w (w2.setCell ⟨wr.heap.size, 4, none⟩ (.slice B x.d.length d)) := Below.setCell hB2 hsz _
      have s3 := hB3.size
      have IL := Lib.hid (show (Tryd.prog.info? 72).map (·.size) = some (#[.string (bs x.n), .int .i64 x.t, .int .i64 x.c, .int .i64 x.ttl, .slice B x.d.length d] : Array Value).size from info_rr)
      have H3 := Lib.hid hown3
      have HR3 := Lib.hid hrows3
      have HT3 := Lib.hid T3
      have GR := Lib.hid r5'
      have HB3 := Lib.hid hB3
      clear hv T2 hown2 hrows2 hB2 gs r5 hkind hown3 hrows3 T3 hB3 HO HR R5 HW1 c4 b2 hB1 r5' R1' rZ CL
      obtain ⟨W3, hW3⟩ : ∃ W3, W3 = w2.setCell ⟨wr.heap.size, 4, none⟩ (.slice B x.d.length d) := ⟨_, rfl⟩
      rw [← hW3] at H3 HR3 HT3 GR HB3 s3
      have HW3 := Lib.hid hW3
      clear hW3
      go_wp2_with (first
        | (refine wpList_load_row rfl 72 (.tmp 5) rfl wr.heap.size rfl 72 _ (0, 0) _ (by rw [← HW3.out]; exact GR.out) Tryd.underlying72 rfl IL.out ?_; rw [← HW3.out])
        | (at_builtin; refine wpList_append_own _ rfl _ _ 25 rfl w.heap.size 72 i0 (.agg #[.string ⟨#[]⟩, .int .i64 0, .int .i64 0, .int .i64 0, .slice none 0 0]) 5 64 Tryd.underlying25 hi hz0 hz1 hz2 rfl (by decide) _ _ _ rfl (H3.out.alloc _) ⟨W3.heap.size, 0, none⟩ 1 1 [.string (bs x.n), .int .i64 x.t, .int .i64 x.c, .int .i64 x.ttl, .slice B x.d.length d] rfl rfl ?c1 ?c2 ?c3 ?c4 ?c5 ?_)
        | fail)
      case c1 => exact World.news_of_block (cs := #[.string (bs x.n), .int .i64 x.t, .int .i64 x.c, .int .i64 x.ttl, .slice B x.d.length d]) (t := 72) (fr := (0, 0)) (row_new _ rfl)
      case c2 => simp [Value.oneCell']
      case c3 => unfold maxLen; omega
      case c4 => omega
      case c5 => simp; omega
      intro v' w5 hown5 hgrow _
      have b4 : Below W3.heap.size W3 (W3.alloc (.cells #[.string (bs x.n), .int .i64 x.t, .int .i64 x.c, .int .i64 x.ttl, .slice B x.d.length d] 72)) := Below.alloc (Below.refl _ _) (Nat.le_refl _) _
      have hk2 := own_kind (H3.out.alloc (.cells #[.string (bs x.n), .int .i64 x.t, .int .i64 x.c, .int .i64 x.ttl, .slice B x.d.length d] 72))
      have hr5 := ((HR3.out.below b4).kept hgrow hk2).snoc (x := x) ((HT3.out.below b4).kept hgrow hk2)
      rw [← HT.out] at hr5
      have hB5 : Below w.heap.size w w5 := Below.grown (Below.alloc HB3.out s3 _) hgrow (by simp; omega) (fun g e => (H3.out.lt g e).1)
      have HH5 := Lib.hid hr5
      have HO5 := Lib.hid hown5
      clear hgrow hk2 b4 hown5 hr5 H3 HR3 HT3 GR HB3 HW3 IL
      go_wp2_with fail
      go_roundw
      case rel => exact ⟨k + 1, _, by go_num, by omega, HO5.out, HH5.out, hB5⟩
      case measure => simp [intOf]; omega
    · have hlt' : ¬ (k : Int) < (n : Int) := by omega
      obtain rfl : k = n := by omega
      have htk : L.take k = L := by rw [HN.out, List.take_length]
      rw [htk] at hrows
      obtain ⟨A', c', rfl⟩ : ∃ A' c', u3 = .slice A' k c' := by
        rcases hown.2 with ⟨h1, h0⟩ | ⟨g, cap, cur, h1, _⟩
        · exact ⟨none, 0, by rw [h1, h0]⟩
        · exact ⟨_, _, h1⟩
      obtain ⟨_, h1, h2, h3⟩ := Rows5.rs hown hrows
      clear hown hrows hS htk
      go_wp2_with fail
      go_ret
      exact ⟨A', c', rfl, h1, by rw [← HN.out]; exact h2, h3, hB⟩
end Go.Proofs.YtknpkifhkefikaaDoor
