/-
  The document's reader of frames.
-/
import Derived.Test.YtdifemaidngnjaaPfB
import Derived.Deep.QuietTactic
import Derived.BigQuiet
namespace Go.Proofs.Ytdifemaidngnjaa
open Go.RowKit
set_option linter.unusedVariables false
set_option maxRecDepth 100000

theorem fr_eq (h l : UInt8) (t : Bs) : fr (h :: l :: t) = if t.length < h.toNat * 256 + l.toNat then none else some (t.take (h.toNat * 256 + l.toNat), t.drop (h.toNat * 256 + l.toNat)) := rfl
/-- The reader at block g. -/
def PX (w : World) (g : Nat) (v : Value) (x : Bs) : Prop := w.heap[g]? = some (.cells #[v] 28 (0, 0)) ∧ OwnB w 0 v x ∧ v.ownBlock ≠ some g
/-- How many bytes wait. -/
def lenAt (w : World) (g : Nat) : Nat := match w.cell? ⟨g, 0, none⟩ with | some (.slice _ n _) => n | _ => 0
theorem lenAt_of {w : World} {g n : Nat} {A : Option Addr} {c : Nat} (h : w.cell? ⟨g, 0, none⟩ = some (.slice A n c)) : lenAt w g = n := by unfold lenAt; rw [h]
/-- What Feed answers. -/
def FeedX (w : World) (g : Nat) (x b : Bs) (e : Ending) (w' : World) : Prop := ∃ v v', e = .returned v ∧ Txts w' w.heap.size v (feedP (x ++ b)).1 ∧ PX w' g v' (feedP (x ++ b)).2 ∧ w.grownBy w' (some g) ∧ (∀ k, v'.ownBlock = some k → w.heap.size ≤ k)

set_option maxHeartbeats 4000000 in
set_option maxRecDepth 100000 in
theorem feed_ref (g : Nat) (v : Value) (x b : Bs) (A : Option Addr) (c : Nat) (w : World) (hx : PX w g v x) (hb : Sl w A c b) (hl : x.length + b.length ≤ 4398046511104) :
    Calls Try.prog 13 #[.pointer (some ⟨g, 0, none⟩), .slice A b.length c] w (FeedX w g x b) := by
  obtain ⟨hrow, hxo, hvg⟩ := hx
  have HR := Lib.hid hrow
  have glt := (Array.getElem?_eq_some_iff.1 hrow).1
  obtain ⟨Ax, cx, rfl, hxs⟩ := hxo.bysN
  have c0 : (w.alloc (.cells #[] 5)).cell? ⟨g, 0, none⟩ = some (.slice Ax x.length cx) := cell_on ((cell_of_row _ g 0 _ _ _ hrow).trans rfl) (Below.alloc (Below.refl _ _) (Nat.le_refl _) _)
  have q0 : Below w.heap.size w (w.alloc (.cells #[] 5)) := Below.alloc (Below.refl _ _) (Nat.le_refl _) _
  have O0 := Lib.hid (OwnB.empty w w.heap.size (Nat.le_refl _))
  have HX := Lib.hid (hxs.on q0)
  have HB := Lib.hid hb
  have HL := Lib.hid hl
  obtain ⟨nx, hnx⟩ : ∃ n, n = x.length := ⟨_, rfl⟩
  obtain ⟨nb, hnb⟩ : ∃ n, n = b.length := ⟨_, rfl⟩
  rw [← hnx] at c0
  rw [← hnb]
  have HNX := Lib.hid hnx
  have HNB := Lib.hid hnb
  have HQ := Lib.hid q0
  clear hrow hxo hxs hb hl hnx hnb q0
  go_enter Try.func13, Try.ntmps13
  go_wp2_with (first
    | (at_builtin; refine wpList_append_bys rfl (.tmp 8) (.tmp 12) rfl w.heap.size _ [] rfl O0.out Ax cx nx x rfl HNX.out HX.out.bys HX.out.nil (by have := HL.out; simp; omega) (by simp) ?_)
    | fail)
  intro v1 w1 o1 g1 _
  have b1 : Below w.heap.size w w1 := HQ.out.grown g1 (by simp) (fun k hk => by simp [Value.ownBlock] at hk; omega)
  have B1 := Lib.hid b1
  have O1 := Lib.hid o1
  have HB1 := Lib.hid (HB.out.on b1)
  have big1 := b1.size
  clear o1 g1 HX O0 HQ b1 c0
  go_wp2_with (first
    | (at_builtin; refine wpList_append_bys rfl (.tmp 13) (.tmp 14) rfl w.heap.size _ x rfl O1.out A c nb b rfl HNB.out HB1.out.bys HB1.out.nil (by have := HL.out; omega) big1 ?_)
    | fail)
  intro v2 w2 o2 g2 _
  obtain ⟨y, hy⟩ : ∃ y, y = x ++ b := ⟨_, rfl⟩
  rw [← hy] at o2
  obtain ⟨A2, c2, rfl, -⟩ := o2.bysN
  have b2 : Below w.heap.size w w2 := B1.out.grown g2 big1 (fun k hk => (O1.out.lt k hk).1)
  have r2 := (b2.block g glt).trans HR.out
  have there : w2.cell? ⟨g, 0, none⟩ = some (.slice Ax x.length cx) := (cell_of_row _ g 0 _ _ _ r2).trans rfl
  have fz : w2.frozen? ⟨g, 0, none⟩ = false := frozen_of_row _ _ 0 _ _ r2
  have gs : w2.grownBy (w2.setCell ⟨g, 0, none⟩ (.slice A2 y.length c2)) (some g) := by
    have := grownBy_setCells g [.slice A2 y.length c2] 0 w2
    simpa [World.setCells] using this
  have r3 := row_set (w := w2) (g := g) (i := 0) (.slice A2 y.length c2) r2
  have hne2 : (Value.slice A2 y.length c2).ownBlock ≠ some g := fun e => by have := (o2.lt _ e).1; omega
  have O3 := Lib.hid (o2.kept gs (by cases hv : (Value.slice A2 y.length c2).ownBlock with | none => exact .inl rfl | some k => exact .inr (fun e => hne2 (hv.trans e))))
  have R3 : Hid ((w2.setCell ⟨g, 0, none⟩ (.slice A2 y.length c2)).heap[g]? = some (.cells #[.slice A2 y.length c2] 28 (0, 0))) := Lib.hid r3
  have G3 := Lib.hid (grown_trans (grown_of_below b2 (some g)) gs (fun k hk => .inl hk))
  have HF : Hid (feedP y = ([] ++ (feedP y).1, (feedP y).2)) := Lib.hid (by simp)
  have hyl : y.length ≤ 4398046511104 := by rw [hy]; simp; exact HL.out
  have HD : Hid (∀ e w', FeedX w g x b e w' ↔ ∃ v v', e = .returned v ∧ Txts w' w.heap.size v (feedP y).1 ∧ PX w' g v' (feedP y).2 ∧ w.grownBy w' (some g) ∧ (∀ k, v'.ownBlock = some k → w.heap.size ≤ k)) := Lib.hid (fun e w' => by rw [hy]; exact Iff.rfl)
  generalize FeedX w g x b = Q at *
  obtain ⟨i0, hi, hz0, hz1, hz2⟩ := info_parts info_slb
  obtain ⟨ny, hny⟩ : ∃ n, n = y.length := ⟨_, rfl⟩
  rw [← hny] at O3 R3 G3 hne2
  rw [← hny]
  have HNY := Lib.hid hny
  have hne3 : (Value.slice A2 ny c2).ownBlock = none ∨ (Value.slice A2 ny c2).ownBlock ≠ (Value.slice none 0 0).ownBlock := by cases A2 <;> simp [Value.ownBlock]
  have H3 := Lib.hid hne3
  clear hny hne3 o2 g2 gs r2 r3 hne2 b2 O1 B1 HB1 HB HNX HNB HL HR hy
  go_wp2_with fail
  go_loopw [5] (fun vo wr => ∃ (rest : Bs) (Av : Option Addr) (cv : Nat) (F : List Bs) (xs : List Value), wr.heap[g]? = some (.cells #[.slice Av rest.length cv] 28 (0, 0)) ∧ OwnB wr w.heap.size (.slice Av rest.length cv) rest ∧ ((Value.slice Av rest.length cv).ownBlock = none ∨ (Value.slice Av rest.length cv).ownBlock ≠ vo.ownBlock) ∧ wr.ownsRow w.heap.size 26 1 vo F.length xs ∧ RowsO wr w.heap.size vo.ownBlock xs F ∧ w.grownBy wr (some g) ∧ Hid (feedP y = (F ++ (feedP rest).1, (feedP rest).2)) ∧ rest.length + 2 * F.length ≤ y.length) (fun _ wr => lenAt wr g)
  case atStart => exact ⟨y, A2, c2, [], [], by rw [← HNY.out]; exact R3.out, by rw [← HNY.out]; exact O3.out, by rw [← HNY.out]; exact H3.out, World.ownsRow_nil _ _ _ _, RowsO.nil, G3.out, HF, by simp⟩
  case round =>
    obtain ⟨rest, Av, cv, F, xs, hr, ho, hvo, hown, hrows, hG, hT, hlen⟩ := hrel
    clear HF R3 O3 H3 G3 there fz
    have hcell : wr.cell? ⟨g, 0, none⟩ = some (.slice Av rest.length cv) := (cell_of_row _ g 0 _ _ _ hr).trans rfl
    have glt2 : g < wr.heap.size := (Array.getElem?_eq_some_iff.1 hr).1
    have hWr : w.heap.size ≤ wr.heap.size := hG.size
    have hvg2 : (Value.slice Av rest.length cv).ownBlock ≠ some g := fun e => by have := (ho.lt _ e).1; omega
    have FIN : Hid (fr rest = none → ∀ W, Below wr.heap.size wr W → Q (.returned u5) W) := Lib.hid (fun h W k => (HD.out _ _).2 ⟨u5, .slice Av rest.length cv, rfl, by
      have e := hT.out
      rw [feed_none h, List.append_nil] at e
      rw [e]
      exact ⟨xs, ownsRow_below hown k (Nat.le_refl _), hrows.below k⟩, by
      have e := hT.out
      rw [feed_none h] at e
      rw [e]
      exact ⟨(k.block _ glt2).trans hr, (ho.below k (Nat.le_refl _)).mono (Nat.zero_le _), hvg2⟩, grown_trans hG (grown_of_below k none) (fun k hk => by cases hk), fun k hk => (ho.lt k hk).1⟩)
    by_cases h2 : rest.length < 2
    · have h2' : ¬ (2 : Int) ≤ (rest.length : Int) := by omega
      have HF := Lib.hid (FIN.out (fr_short h2) wr (Below.refl _ _))
      generalize rest.length = n at *
      clear hr ho hvo hown hrows hG hT FIN hvg2
      go_wp2_with fail
      exact HF.out
    · obtain ⟨h, l, t, rfl⟩ := fr_none_iff (x := rest) (by omega)
      have h2' : (2 : Int) ≤ ((h :: l :: t).length : Int) := by omega
      have hS := ho.bysN
      rcases ho with ⟨_, hn⟩ | ⟨bk, cap, hv, hbk, hblt, hcap, hcm, hcs, hsp⟩
      · cases hn
      injection hv with e1 e2 e3
      subst e1 e3
      have hcs0 : wr.cell? ⟨bk, 0, none⟩ = some (.int .u8 h.toNat) := hcs 0 (by simp)
      have hcs1 : wr.cell? ⟨bk, 1, none⟩ = some (.int .u8 l.toNat) := hcs 1 (by simp)
      have hfr := fr_eq h l t
      have hh := h.toNat_lt
      have hl := l.toNat_lt
      have HM : Hid ((h :: l :: t).length = t.length + 2) := Lib.hid (by simp)
      have HS := Lib.hid hS
      have HR := Lib.hid hr
      have HO := Lib.hid hown
      have HW := Lib.hid hrows
      have HFR := Lib.hid hfr
      have HG := Lib.hid hG
      have HVO := Lib.hid hvo
      have hcellR := Lib.hid hcell
      have HT := hT
      clear hcs hsp hS hr hown hrows hG hT hvo
      have HRT : Hid ((h :: l :: t).drop 2 = t) := Lib.hid rfl
      generalize hrest : h :: l :: t = rest at *
      generalize hm : rest.length = m at *
      have HMR := Lib.hid hm
      generalize h.toNat = hn at *
      generalize l.toNat = ln at *
      obtain ⟨tn, htn⟩ : ∃ n, n = t.length := ⟨_, rfl⟩
      have hmt : m = tn + 2 := by have := HM.out; omega
      obtain ⟨N, hN⟩ : ∃ N, N = hn * 256 + ln := ⟨_, rfl⟩
      have hN2 : (hn : Int) * 256 + (ln : Int) = (N : Int) := by omega
      have hN3 : N < 65536 := by omega
      have wrA : IntKind.i64.wrap (hn : Int) = hn := IntWalk.i64_in _ (by omega)
      have wrB : IntKind.i64.wrap (ln : Int) = ln := IntWalk.i64_in _ (by omega)
      have wrC : IntKind.i64.wrap ((hn : Int) * 256) = (hn : Int) * 256 := IntWalk.i64_in _ (by omega)
      have wrD : IntKind.i64.wrap ((hn : Int) * 256 + (ln : Int)) = (N : Int) := by rw [hN2]; exact IntWalk.i64_in _ (by omega)
      have j0 : (0 : Int) < (m : Int) := by omega
      have j1 : (1 : Int) < (m : Int) := by omega
      have HN := Lib.hid hN
      have HTN := Lib.hid htn
      have HMT := Lib.hid hmt
      clear h2 hfr hvg2 hN hN2 htn hmt hh hl hrest hm
      go_wp2_with fail
      go_quiet (fail)
      clear wrA wrB wrC wrD j0 j1 hcs0 hcs1 hcell
      have kq : Below wr.heap.size wr (wr.drewN nq) := below_drewN (Below.refl _ _) _
      generalize wr.drewN nq = W at *
      have hWW := kq.size
      have rW := (kq.block g glt2).trans HR.out
      have hcell : W.cell? ⟨g, 0, none⟩ = some (.slice (some ⟨bk, 0, none⟩) m cv) := (cell_of_row _ g 0 _ _ _ rW).trans rfl
      by_cases hs : tn < N
      · have hs' : (m : Int) < 2 + (N : Int) := by have := HMT.out; omega
        have HF := Lib.hid (FIN.out (by rw [HFR.out, if_pos (by have := HN.out; have := HTN.out; omega)]) W kq)
        clear FIN kq rW HD HT
        go_wp2_with fail
        exact HF.out
      · have hs' : ¬ (m : Int) < 2 + (N : Int) := by have := HMT.out; omega
        obtain ⟨Ar, cr, hvr, S0⟩ := HS.out
        injection hvr with f1 f2 f3
        subst f1 f3
        have hmr : m = rest.length := HMR.out.symm
        have SW := S0.on kq
        have hm2 : 2 + N ≤ rest.length := by have := HMT.out; omega
        obtain ⟨A3, mid, S3⟩ := SW.mid 2 N 2 (2 + N) hm2 (by rfl) (by omega)
        obtain ⟨A4, lo, S4, pl4⟩ := SW.rest (2 + N) (2 + N) hm2 (by omega)
        rw [← hmr] at mid lo
        rw [HRT.out] at mid S3
        obtain ⟨fa, hfa⟩ : ∃ z, z = t.take N := ⟨_, rfl⟩
        obtain ⟨fr', hfr'⟩ : ∃ z, z = rest.drop (2 + N) := ⟨_, rfl⟩
        have hfr2 : fr' = t.drop N := by rw [hfr', ← HRT.out, List.drop_drop]
        rw [← hfa] at mid S3
        rw [← hfr'] at lo S4
        have HT2 : Hid (feedP y = (F ++ [fa] ++ (feedP fr').1, (feedP fr').2)) := Lib.hid (by
          have e1 : fr rest = some (fa, fr') := by rw [HFR.out, if_neg (by have := HN.out; have := HTN.out; omega), ← HN.out, hfa, hfr2]
          rw [HT.out, feed_some e1]
          simp)
        have lfa : fa.length = N := by rw [hfa, List.length_take]; have := HTN.out; omega
        have lfr : fr'.length + 2 + N = m := by rw [hfr', List.length_drop]; omega
        have hlen2 : fr'.length + 2 * (F ++ [fa]).length ≤ y.length := by simp; omega
        have hFl : F.length ≤ 2199023255552 := by omega
        have HS3 := Lib.hid S3
        have HB4 := Lib.hid S4
        have HP4 := Lib.hid pl4
        have HLF := Lib.hid lfa
        have HLR := Lib.hid lfr
        have HMID := Lib.hid mid
        have HLO := Lib.hid lo
        have HL2 := Lib.hid hlen2
        have E6 := Lib.hid (OwnB.empty W W.heap.size (Nat.le_refl _))
        have D6 := Lib.hid ((S3.on (Below.alloc (Below.refl W.heap.size W) (Nat.le_refl _) (.cells #[] 5))))
        have OW := Lib.hid (ownsRow_below HO.out kq (Nat.le_refl _))
        have RW := Lib.hid (HW.out.below kq)
        have GW := Lib.hid (grown_trans HG.out (grown_of_below kq none) (fun k hk => by cases hk))
        have mid' := HMID.out
        have hcellZ : (W.alloc (.cells #[] 5)).cell? ⟨g, 0, none⟩ = some (.slice (some ⟨bk, 0, none⟩) m cv) := cell_on hcell (Below.alloc (Below.refl _ _) (Nat.le_refl _) _)
        have hcellL := Lib.hid hcell
        have RWg := Lib.hid rW
        obtain ⟨na, hna⟩ : ∃ n, n = fa.length := ⟨_, rfl⟩
        obtain ⟨nr, hnr⟩ : ∃ n, n = fr'.length := ⟨_, rfl⟩
        rw [← hna] at mid'
        have HNA := Lib.hid hna
        have HNR := Lib.hid hnr
        have hxN : (0 : Int) ≤ (N : Int) := by omega
        have hX : Hid (0 + na ≤ 140737488355328) := Lib.hid (by omega)
        clear hs S0 SW hm2 mid lo S3 S4 pl4 hfa hfr' hfr2 lfa lfr hlen2 HS hmr hna hnr HT HFR HM HN HTN HR FIN kq HO HW HG rW
        go_wp2_with (first
          | (at_builtin; refine wpList_append_bys rfl (.tmp 49) (.tmp 56) rfl W.heap.size _ [] rfl E6.out A3 (cv - 2) na fa rfl HNA.out D6.out.bys D6.out.nil (by have := HNA.out; have := hX.out; simp; omega) (by simp) ?_)
          | fail)
        intro v3 wa ho1 hg1 hf1
        obtain ⟨A9, c9, rfl, -⟩ := ho1.bysN
        have g01 : W.grownBy wa none := grown_trans (grown_alloc W _ none) hg1 (fun k hk => by simp [Value.ownBlock] at hk; exact .inr (by omega))
        have ba : Below W.heap.size W wa := ⟨g01.os, g01.tape, g01.output, g01.size, fun k hk => g01.block k hk (by simp)⟩
        have hne : (Value.slice A9 fa.length c9).ownBlock = none ∨ (Value.slice A9 fa.length c9).ownBlock ≠ u5.ownBlock := by
          cases hv : (Value.slice A9 fa.length c9).ownBlock with
          | none => exact .inl rfl
          | some j => exact .inr (fun e => by have h1 := (ho1.lt j hv).1; have h2 := (OW.out.lt j e.symm).2; omega)
        have OA := Lib.hid (ownsRow_below OW.out ba (Nat.le_refl _))
        have RA := Lib.hid (RW.out.below ba)
        have GA := Lib.hid (grown_trans GW.out (grown_of_below ba none) (fun k hk => by cases hk))
        have VA := Lib.hid (ho1.mono (show w.heap.size ≤ W.heap.size by omega))
        have HNE := Lib.hid hne
        have RgA := Lib.hid ((ba.block g (Array.getElem?_eq_some_iff.1 RWg.out).1).trans RWg.out)
        have SA := Lib.hid (HB4.out.on ba)
        have hWA := ba.size
        have hcellA : wa.cell? ⟨g, 0, none⟩ = some (.slice (some ⟨bk, 0, none⟩) m cv) := (cell_of_row _ g 0 _ _ _ RgA.out).trans rfl
        rw [← HNA.out] at VA HNE
        rw [← HNA.out]
        have bk2 : bk < wa.heap.size := by omega
        clear ho1 hg1 hf1 g01 ba hne OW RW GW RWg HB4 HS3 D6 E6 hX mid' HMID hcell hcellZ
        go_wp2_with (first
          | (at_builtin; refine wpList_append_at rfl (.tmp 48) (.tmp 58) 22 rfl w.heap.size 26 i0 (.slice none 0 0) 1 24 Try.underlying22 hi hz0 hz1 hz2 rfl (by decide) _ F.length xs rfl (ownsRow_below OA.out (Below.alloc (Below.refl wa.heap.size wa) (Nat.le_refl _) _) (Nat.le_refl _)) ⟨wa.heap.size, 0, none⟩ 1 1 [(Value.slice A9 na c9)] rfl rfl (World.news_of_block (cs := #[(Value.slice A9 na c9)]) (t := 26) (fr := (0, 0)) (row_new _ rfl)) (by intro u hu; rw [List.mem_singleton.1 hu]; rfl) (by unfold maxLen; omega) (by omega) (by simp; omega) ?_)
          | fail)
        intro v5 wb hown5 hg5 hf5
        have bq := Below.alloc (Below.refl wa.heap.size wa) (Nat.le_refl _) (.cells #[(Value.slice A9 na c9)] 26 (0, 0))
        have hr5 := ((RA.out.below bq).snoc (VA.out.below bq (Nat.le_refl _)) HNE.out).step (u' := v5.ownBlock) hg5 (by simpa using hf5)
        have hu5 : ∀ k, u5.ownBlock = some k → w.heap.size ≤ k ∧ k < wa.heap.size := fun k e => OA.out.lt k e
        have Rgb : wb.heap[g]? = some (.cells #[.slice (some ⟨bk, 0, none⟩) m cv] 28 (0, 0)) := (hg5.block g (by simp; omega) (fun e => by have := (hu5 g e.symm).1; omega)).trans ((bq.block g (Array.getElem?_eq_some_iff.1 RgA.out).1).trans RgA.out)
        have GB : w.grownBy wb (some g) := grown_trans (grown_trans GA.out (grown_of_below bq none) (fun k hk => by cases hk)) hg5 (fun k hk => .inr (hu5 k hk).1)
        have vbk : u5.ownBlock ≠ some bk := fun e => by
          rcases HVO.out with h | h
          · simp [Value.ownBlock] at h
          · exact h (by simp [Value.ownBlock]; exact e.symm)
        have SB : Sl wb A4 (cv - (2 + N)) fr' := ⟨(SA.out.bys.on bq).mod (Mod.grown (S := fun k => u5.ownBlock = some k) hg5 (fun k hk => hk)) (fun p hp hk => by
          obtain ⟨a, ha, hpa⟩ := HP4.out p hp
          injection ha with ha
          subst ha
          rw [hpa] at hk
          exact vbk hk), SA.out.le, SA.out.max, SA.out.nil⟩
        have hcellB : (wb.alloc (.cells #[] 5)).cell? ⟨g, 0, none⟩ = some (.slice (some ⟨bk, 0, none⟩) m cv) := cell_on ((cell_of_row _ g 0 _ _ _ Rgb).trans rfl) (Below.alloc (Below.refl _ _) (Nat.le_refl _) _)
        have lo' := HLO.out
        rw [← HNR.out] at lo'
        have D7 := Lib.hid (SB.on (Below.alloc (Below.refl wb.heap.size wb) (Nat.le_refl _) (.cells #[] 5)))
        have E7 := Lib.hid (OwnB.empty wb wb.heap.size (Nat.le_refl _))
        have O5 := Lib.hid hown5
        have R5 := Lib.hid hr5
        have GBh := Lib.hid GB
        have RGB := Lib.hid Rgb
        have hwb : wa.heap.size ≤ wb.heap.size := by have := hg5.size; simp at this; omega
        have hX7 : Hid (0 + nr ≤ 140737488355328) := Lib.hid (by have := HLR.out; have := HNR.out; omega)
        clear hown5 hr5 hg5 hf5 bq hu5 Rgb GB SB vbk OA RA GA VA HNE RgA SA hcellA HLO HP4
        go_wp2_with (first
          | (at_builtin; refine wpList_append_bys rfl (.tmp 61) (.tmp 68) rfl wb.heap.size _ [] rfl E7.out A4 (cv - (2 + N)) nr fr' rfl HNR.out D7.out.bys D7.out.nil (by have := HNR.out; have := hX7.out; simp; omega) (by simp) ?_)
          | fail)
        intro v8 wc ho8 hg8 hf8
        obtain ⟨A8, c8, rfl, -⟩ := ho8.bysN
        have g08 : wb.grownBy wc none := grown_trans (grown_alloc wb _ none) hg8 (fun k hk => by simp [Value.ownBlock] at hk; exact .inr (by omega))
        have bc : Below wb.heap.size wb wc := ⟨g08.os, g08.tape, g08.output, g08.size, fun k hk => g08.block k hk (by simp)⟩
        have rc := (bc.block g (Array.getElem?_eq_some_iff.1 RGB.out).1).trans RGB.out
        have there : wc.cell? ⟨g, 0, none⟩ = some (.slice (some ⟨bk, 0, none⟩) m cv) := (cell_of_row _ g 0 _ _ _ rc).trans rfl
        have fz : wc.frozen? ⟨g, 0, none⟩ = false := frozen_of_row _ _ 0 _ _ rc
        have gs : wc.grownBy (wc.setCell ⟨g, 0, none⟩ (.slice A8 fr'.length c8)) (some g) := by
          have := grownBy_setCells g [.slice A8 fr'.length c8] 0 wc
          simpa [World.setCells] using this
        have rd := row_set (w := wc) (g := g) (i := 0) (.slice A8 fr'.length c8) rc
        have h8lt := fun k e => ho8.lt k e
        have o5b := O5.out
        have u5b := fun k e => o5b.lt k e
        have hs1 : (Value.slice A8 fr'.length c8).ownBlock = none ∨ (Value.slice A8 fr'.length c8).ownBlock ≠ some g := by
          cases hv : (Value.slice A8 fr'.length c8).ownBlock with
          | none => exact .inl rfl
          | some k => exact .inr (fun e => by injection e with e; have := (h8lt k hv).1; omega)
        have hs2 : v5.ownBlock = none ∨ v5.ownBlock ≠ some g := by
          cases hv : v5.ownBlock with
          | none => exact .inl rfl
          | some k => exact .inr (fun e => by injection e with e; have := (u5b k hv).1; omega)
        have hs3 : (Value.slice A8 fr'.length c8).ownBlock = none ∨ (Value.slice A8 fr'.length c8).ownBlock ≠ v5.ownBlock := by
          cases hv : (Value.slice A8 fr'.length c8).ownBlock with
          | none => exact .inl rfl
          | some k => exact .inr (fun e => by have := (h8lt k hv).1; have := (u5b k e.symm).2; omega)
        have K1 := Lib.hid ((ho8.mono (show w.heap.size ≤ wb.heap.size by omega)).kept gs hs1)
        have K2 := Lib.hid ((ownsRow_below o5b bc (Nat.le_refl _)).kept gs hs2)
        have K3 := Lib.hid ((R5.out.below bc).far gs (fun k e => by injection e with e; omega))
        have K4 := Lib.hid (grown_trans (grown_trans GBh.out (grown_of_below bc none) (fun k hk => by cases hk)) gs (fun k hk => .inl hk))
        have K5 : Hid ((wc.setCell ⟨g, 0, none⟩ (.slice A8 fr'.length c8)).heap[g]? = some (.cells #[.slice A8 fr'.length c8] 28 (0, 0))) := Lib.hid rd
        have K6 := Lib.hid hs3
        have K7 : Hid ((wc.setCell ⟨g, 0, none⟩ (.slice A8 fr'.length c8)).cell? ⟨g, 0, none⟩ = some (.slice A8 fr'.length c8)) := Lib.hid ((cell_of_row _ g 0 _ _ _ rd).trans rfl)
        have hnr2 : nr + 2 + N = m := by rw [HNR.out]; exact HLR.out
        have hl0 : lenAt wr g = m := lenAt_of hcellR.out
        rw [← HNR.out] at K1 K2 K3 K4 K5 K6 K7
        rw [← HNR.out]
        clear ho8 hg8 hf8 g08 bc rc gs rd h8lt o5b u5b hs1 hs2 hs3 O5 R5 GBh RGB D7 E7 hcellB lo' hX7
        go_wp2_with fail
        go_roundw
        case rel => exact ⟨fr', A8, c8, F ++ [fa], _, by rw [← HNR.out]; exact K5.out, by rw [← HNR.out]; exact K1.out, by rw [← HNR.out]; exact K6.out, by rw [List.length_append]; exact K2.out, K3.out, K4.out, HT2, HL2.out⟩
        case measure => rw [hl0, lenAt_of K7.out]; omega
end Go.Proofs.Ytdifemaidngnjaa
