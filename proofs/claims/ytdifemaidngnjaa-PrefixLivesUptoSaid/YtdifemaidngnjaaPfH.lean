/-
  The walk of PrefixBack.
-/
import Derived.Test.YtdifemaidngnjaaPfG
import Derived.Test.YtdifemaidngnjaaNt
import Derived.Deep.CutBlock
import Derived.Deep.DeepCutAuto
namespace Go.Proofs.Ytdifemaidngnjaa
open Go.RowKit
set_option linter.unusedVariables false
set_option maxRecDepth 100000

/-- The first k texts, each cut. -/
def cutT (L : List Bs) (k : Nat) : List Bs := (L.take k).map (·.take 300)
def encs (W : List Bs) : Bs := (W.map encP).flatten
theorem cutT_len (L : List Bs) (k : Nat) (h : k ≤ L.length) : (cutT L k).length = k := by simp [cutT]; omega
theorem cutT_snoc (L : List Bs) (k : Nat) (h : k < L.length) : cutT L (k + 1) = cutT L k ++ [L[k].take 300] := by
  unfold cutT
  rw [List.take_succ_eq_append_getElem h, List.map_append]
  rfl
theorem encs_snoc (W : List Bs) (y : Bs) : encs (W ++ [y]) = encs W ++ encP y := by simp [encs]
theorem cutT_all (L : List Bs) (k : Nat) (h : L.length ≤ k) : cutT L k = cutT L L.length := by unfold cutT; rw [List.take_of_length_le h, List.take_length]
theorem encs_len : ∀ (W : List Bs), (∀ y ∈ W, y.length ≤ 300) → (encs W).length ≤ W.length * 302
  | [], _ => by simp [encs]
  | y :: W, h => by
    have := encs_len W (fun z hz => h z (by simp [hz]))
    have h0 := h y (by simp)
    have e : encs (y :: W) = encP y ++ encs W := by simp [encs]
    rw [e, List.length_append, encP_len, List.length_cons, Nat.add_mul]
    omega
theorem cutT_le (L : List Bs) (k : Nat) : ∀ y ∈ cutT L k, y.length ≤ 300 := fun y hy => by
  obtain ⟨z, _, rfl⟩ := List.mem_map.1 hy
  rw [List.length_take]
  omega
theorem feed_W (W : List Bs) (h : ∀ y ∈ W, y.length ≤ 300) : feedP (encs W) = (W, []) := by
  have := feed_encs W (fun b hb => by have := h b hb; omega) []
  simpa [encs, feed_none (show fr [] = none from rfl)] using this
/-- One more feed. -/
theorem feed_step {G W : List Bs} {st x : Bs} (N : Nat) (h1 : G ++ (feedP (st ++ x)).1 = W) (h2 : (feedP (st ++ x)).2 = []) : G ++ (feedP (st ++ x.take N)).1 ++ (feedP ((feedP (st ++ x.take N)).2 ++ x.drop N)).1 = W ∧ (feedP ((feedP (st ++ x.take N)).2 ++ x.drop N)).2 = [] := by
  have e : st ++ x = (st ++ x.take N) ++ x.drop N := by rw [List.append_assoc, List.take_append_drop]
  rw [e, feed_cut] at h1 h2
  exact ⟨by rw [List.append_assoc]; exact h1, h2⟩
theorem frF_len : ∀ (f : Nat) (x : Bs), (frF f x).2.length ≤ x.length
  | 0, x => Nat.le_refl _
  | f + 1, x => by
    unfold frF
    cases h : fr x with
    | none => exact Nat.le_refl _
    | some p =>
      obtain ⟨a, r⟩ := p
      have := fr_len h
      have := frF_len f r
      simp only
      omega
theorem feed_len (x : Bs) : (feedP x).2.length ≤ x.length := frF_len _ _
/-- Behind the first loop: all bytes, and the texts that are wanted. -/
def Gath (w : World) (W : List Bs) (s5 s6 : Value) (wx : World) : Prop := ∃ xs, OwnB wx w.heap.size s5 (encs W) ∧ wx.ownsRow w.heap.size 26 1 s6 W.length xs ∧ RowsA w xs W ∧ (s5.ownBlock = none ∨ s5.ownBlock ≠ s6.ownBlock) ∧ Below w.heap.size w wx

set_option maxHeartbeats 4000000 in
set_option maxRecDepth 100000 in
theorem PrefixBack_any {PR : RdrP} (I : PfI PR) (A : Option Addr) (L : List Bs) (c : Nat) (Ac : Option Addr) (cuts : List Int) (cc : Nat) (w : World) (hL : Byss w A L) (hm : L.length ≤ 9223372036854775807) (hC : Nts w Ac cuts) (hcm : cuts.length ≤ 9223372036854775807) : Calls Try.prog 5 #[.slice A L.length c, .slice Ac cuts.length cc] w fun e w' => e = .returned (.bool true) ∧ Below w.heap.size w w' := by
  have HL := Lib.hid hL
  have HC := Lib.hid hC
  obtain ⟨n, hn⟩ : ∃ n, n = L.length := ⟨_, rfl⟩
  obtain ⟨nc, hnc⟩ : ∃ n, n = cuts.length := ⟨_, rfl⟩
  rw [← hn, ← hnc]
  rw [← hn] at hm
  rw [← hnc] at hcm
  have HN := Lib.hid hn
  have HNC := Lib.hid hnc
  obtain ⟨i0, hi, hz0, hz1, hz2⟩ := info_parts info_slb
  clear hL hC hn hnc
  go_enter Try.func5, Try.ntmps5
  go_upto_block 0 with fail
  go_cut [5, 6] (fun s5 s6 wx => Gath w (cutT L 21) s5 s6 wx)
  case first =>
    go_wp2_with fail
    go_loopw [5, 6, 18] (fun v5 v6 v18 wr => ∃ (k : Nat) (A5 : Option Addr) (c5 : Nat) (xs : List Value), v18 = .int .i64 k ∧ k ≤ n ∧ k ≤ 21 ∧ v5 = .slice A5 (encs (cutT L k)).length c5 ∧ OwnB wr w.heap.size v5 (encs (cutT L k)) ∧ wr.ownsRow w.heap.size 26 1 v6 k xs ∧ RowsA w xs (cutT L k) ∧ (v5.ownBlock = none ∨ v5.ownBlock ≠ v6.ownBlock) ∧ Below w.heap.size w wr) (fun _ _ v18 _ => n - (intOf v18).toNat)
    case atStart => exact ⟨0, none, 0, [], rfl, by omega, by omega, rfl, .inl ⟨rfl, rfl⟩, World.ownsRow_nil _ _ _ _, RowsA.nil _, .inl rfl, Below.refl _ _⟩
    case round =>
      obtain ⟨k, A5, c5, xs, rfl, hk, hk21, rfl, ho, hown, hrows, hne, hB⟩ := hrel
      by_cases hlt : k < n
      · have hlt' : (k : Int) < (n : Int) := by omega
        have kL : k < L.length := by have := HN.out; omega
        obtain ⟨g1, o1, rfl, hc1⟩ := HL.out (by omega)
        obtain ⟨a1, d1, C1, D1, hd1, hm1, hn1⟩ := hc1 k kL
        have C1' := cell_on C1 hB
        by_cases h20 : (20 : Int) < (k : Int)
        · have hk2 : k = 21 := by omega
          subst hk2
          have HF : Hid (Gath w (cutT L 21) (.slice A5 (encs (cutT L 21)).length c5) u6 wr) := Lib.hid ⟨xs, ho, by rw [cutT_len L 21 (by omega)]; exact hown, hrows, hne, hB⟩
          generalize L[21] = y at *
          generalize (encs (cutT L 21)).length = m at *
          clear ho hown hrows hne hB hc1 C1 D1
          go_wp2_with fail
          go_meet
          exact HF.out
        · have h20' : ¬ (k : Int) > 20 := by omega
          have htk := cutT_snoc L k kL
          obtain ⟨W, hW⟩ : ∃ W, W = cutT L k := ⟨_, rfl⟩
          have hWl : W.length = k := by rw [hW, cutT_len L k (by omega)]
          have hWe : (encs W).length ≤ 6342 := by
            have := encs_len W (by rw [hW]; exact cutT_le L k)
            rw [hWl] at this
            omega
          rw [← hW] at ho hrows htk hne
          generalize hyy : L[k] = y at *
          obtain ⟨z, hz⟩ : ∃ z, z = y.take 300 := ⟨_, rfl⟩
          rw [← hz] at htk
          obtain ⟨ly, hly⟩ : ∃ n, n = y.length := ⟨_, rfl⟩
          obtain ⟨lz, hlz⟩ : ∃ n, n = z.length := ⟨_, rfl⟩
          have hlz2 : lz = min ly 300 := by rw [hlz, hz, List.length_take, hly]; omega
          have sp := slice_pre a1 y d1 (min ly 300) (min (ly : Int) 300) (by omega) hd1 (by omega)
          have e1 : y.take (min ly 300) = z := by rw [hz, List.take_eq_take_iff]; omega
          rw [e1, ← hlz, ← hly] at sp
          have hmin : min (ly : Int) 300 = (lz : Int) := by omega
          rw [hmin] at sp
          have sz0 : Sl w a1 d1 z := by rw [hz]; exact ⟨D1.pre 300, by rw [List.length_take]; omega, hm1, hn1⟩
          have HZ := Lib.hid sz0
          have E1 := Lib.hid (I.enc a1 z d1 wr (sz0.on hB))
          rw [← hlz] at E1
          rw [← hly] at C1'
          have hl3 : lz ≤ 300 := by omega
          have HO := Lib.hid ho
          have HOW := Lib.hid hown
          have HR := Lib.hid hrows
          have HNE := Lib.hid hne
          have HB := Lib.hid hB
          have HTK := Lib.hid htk
          have HLZ := Lib.hid hlz
          have HWL := Lib.hid hWl
          have HMIN := Lib.hid hmin
          have szr := hB.size
          obtain ⟨me, hme⟩ : ∃ m, m = (encs W).length := ⟨_, rfl⟩
          rw [← hW, ← hme]
          rw [← hme] at HO HNE hWe
          have HME := Lib.hid hme
          clear ho hown hrows hne hB htk hlz hly hWl hlz2 e1 sz0 hz hW hme hc1 C1 D1 hd1 hm1 hn1 hyy kL
          go_wp2_with fail
          refine E1.out.mono ?_
          rintro e w1 ⟨k1, ⟨hl, rfl⟩ | ⟨hl, v, rfl, hv⟩⟩
          · have := HLZ.out; omega
          obtain ⟨Af, cf, rfl, sf⟩ := hv.bysN
          have hfl0 : (encP z).length = lz + 2 := by rw [encP_len, HLZ.out]
          obtain ⟨fl, hfl⟩ : ∃ n, n = (encP z).length := ⟨_, rfl⟩
          rw [← hfl]
          rw [← hfl] at hfl0
          have hf : ((fl : Int) != 2 + (lz : Int)) = false := by rw [bne_eq_false_iff_eq]; omega
          have O1 := Lib.hid (HO.out.below k1 (Nat.le_refl _))
          have OW1 := Lib.hid (ownsRow_below HOW.out k1 (Nat.le_refl _))
          have B1 := Lib.hid (Below.trans HB.out (k1.mono szr))
          have SF := Lib.hid sf
          have HFL := Lib.hid hfl
          have sz1 : w.heap.size ≤ w1.heap.size := Nat.le_trans szr k1.size
          have szw : wr.heap.size ≤ w1.heap.size := k1.size
          have hfl3 : fl ≤ 302 := by omega
          have HNE2 : Hid (∀ j, u6.ownBlock = some j → j < wr.heap.size) := Lib.hid (fun j e => (HOW.out.lt j e).2)
          clear hv sf hfl hl hfl0 k1 HO HOW HB E1
          go_wp2_with (first
            | (at_builtin; refine wpList_append_bys rfl (.tmp 45) (.tmp 46) rfl w.heap.size _ (encs W) rfl O1.out Af cf fl (encP z) rfl HFL.out SF.out.bys SF.out.nil (by have := HFL.out; have := HME.out; omega) sz1 ?_)
            | fail)
          intro v5 w2 ho2 hg2 hf2
          obtain ⟨A5', c5', rfl, -⟩ := ho2.bysN
          have b2 : Below w.heap.size w w2 := B1.out.grown hg2 sz1 (fun j hj => (O1.out.lt j hj).1)
          have ow2 := OW1.out.kept hg2 (by
            cases hv : u6.ownBlock with
            | none => exact .inl rfl
            | some j => exact .inr (fun e => by
                rcases HNE.out with h | h
                · rw [h] at e; cases e
                · exact h (e.symm.trans hv.symm)))
          have hne2 : (Value.slice A5' (encs W ++ encP z).length c5').ownBlock = none ∨ (Value.slice A5' (encs W ++ encP z).length c5').ownBlock ≠ u6.ownBlock := by
            cases hv : (Value.slice A5' (encs W ++ encP z).length c5').ownBlock with
            | none => exact .inl rfl
            | some j =>
              refine .inr (fun e => ?_)
              rcases hf2 j hv with h | h
              · rcases HNE.out with h' | h'
                · rw [h'] at h; cases h
                · exact h' (h.trans e)
              · have := HNE2.out j e.symm
                omega
          have es : encs W ++ encP z = encs (cutT L (k + 1)) := by rw [HTK.out, encs_snoc]
          rw [es] at ho2 hne2
          rw [es]
          have sz2 : w.heap.size ≤ w2.heap.size := b2.size
          have O2 := Lib.hid ho2
          have OW2 := Lib.hid ow2
          have B2 := Lib.hid b2
          have NE2 := Lib.hid hne2
          obtain ⟨m2, hm2⟩ : ∃ m, m = (encs (cutT L (k + 1))).length := ⟨_, rfl⟩
          rw [← hm2]
          rw [← hm2] at O2 NE2
          have HM2 := Lib.hid hm2
          clear ho2 hg2 hf2 b2 ow2 hne2 es hm2 O1 OW1 B1 SF HNE HNE2
          go_wp2_with (first
            | (at_builtin; refine wpList_append_at rfl (.tmp 48) (.tmp 50) 22 rfl w.heap.size 26 i0 (.slice none 0 0) 1 24 Try.underlying22 hi hz0 hz1 hz2 rfl (by decide) _ k xs rfl (ownsRow_below OW2.out (Below.alloc (Below.refl w2.heap.size w2) (Nat.le_refl _) _) (Nat.le_refl _)) ⟨w2.heap.size, 0, none⟩ 1 1 [(Value.slice a1 lz d1)] rfl rfl (World.news_of_block (cs := #[(Value.slice a1 lz d1)]) (t := 26) (fr := (0, 0)) (row_new _ rfl)) (by intro u hu; rw [List.mem_singleton.1 hu]; rfl) (by unfold maxLen; omega) (by omega) (by simp; omega) ?_)
            | fail)
          intro v6 w3 ow3 hg3 hf3
          have bq := Below.alloc (Below.refl w2.heap.size w2) (Nat.le_refl _) (.cells #[(Value.slice a1 lz d1)] 26 (0, 0))
          have b2a : Below w.heap.size w (w2.alloc (.cells #[(Value.slice a1 lz d1)] 26 (0, 0))) := Below.alloc B2.out sz2 _
          have b3 : Below w.heap.size w w3 := Below.grown b2a hg3 b2a.size (fun j e => (OW2.out.lt j e).1)
          have o3 := (O2.out.below bq (Nat.le_refl _)).kept hg3 NE2.out
          have hne3 : (Value.slice A5' m2 c5').ownBlock = none ∨ (Value.slice A5' m2 c5').ownBlock ≠ v6.ownBlock := by
            rcases hf3 with e | e
            · rw [e]; exact NE2.out
            · cases hv : (Value.slice A5' m2 c5').ownBlock with
              | none => exact .inl rfl
              | some j => exact .inr (fun e' => by have := (O2.out.lt j hv).2; rw [e] at e'; injection e' with e'; omega)
          have r3 : RowsA w (xs ++ [.slice a1 lz d1]) (cutT L (k + 1)) := by
            rw [HTK.out]
            have := HR.out.snoc HZ.out
            rw [← HLZ.out] at this
            exact this
          have B3 := Lib.hid b3
          have O3 := Lib.hid o3
          have OW3 := Lib.hid ow3
          have NE3 := Lib.hid hne3
          have R3 := Lib.hid r3
          clear b3 b2a o3 ow3 hne3 r3 bq hg3 hf3 O2 OW2 B2 NE2
          go_wp2_with fail
          go_roundw
          case rel => exact ⟨k + 1, A5', c5', _, by go_num, by omega, by omega, by rw [← HM2.out], O3.out, OW3.out, R3.out, NE3.out, B3.out⟩
          case measure => simp [intOf]; omega
      · have hlt' : ¬ (k : Int) < (n : Int) := by omega
        have hkn : k = n := by omega
        have HF : Hid (Gath w (cutT L 21) (.slice A5 (encs (cutT L k)).length c5) u6 wr) := Lib.hid (by
          have e : cutT L 21 = cutT L k := by rw [cutT_all L 21 (by have := HN.out; omega), hkn, HN.out]
          rw [e]
          exact ⟨xs, ho, by rw [cutT_len L k (by have := HN.out; omega)]; exact hown, hrows, hne, hB⟩)
        generalize (encs (cutT L k)).length = m at *
        clear ho hown hrows hne hB hkn
        go_wp2_with fail
        go_meet
        exact HF.out
  case rest =>
    obtain ⟨xs, ho, hown, hrows, hne, hB⟩ := hcut
    have hWl : (cutT L 21).length ≤ 21 := by simp [cutT]; omega
    have hWy := cutT_le L 21
    generalize cutT L 21 = W at *
    have hWe := encs_len W hWy
    have HFW := Lib.hid (feed_W W hWy)
    obtain ⟨A5, c5, rfl, s5⟩ := ho.bysN
    obtain ⟨-, A6, c6, rfl, by6, -⟩ := RowsA.byss hown hrows hB
    have hA5 : Hid (∀ a, A5 = some a → a.block < wc.heap.size) := Lib.hid (fun a ha => by subst ha; exact (ho.lt a.block rfl).2)
    have szc := hB.size
    have BC := Lib.hid hB
    have S5 := Lib.hid s5
    have B6 := Lib.hid by6
    have HWL := Lib.hid hWl
    have HCC := Lib.hid (HC.out.on hB)
    obtain ⟨me, hme⟩ : ∃ m, m = (encs W).length := ⟨_, rfl⟩
    obtain ⟨mw, hmw⟩ : ∃ m, m = W.length := ⟨_, rfl⟩
    rw [← hme, ← hmw]
    have HME := Lib.hid hme
    have HMW := Lib.hid hmw
    have hme2 : me ≤ 6342 := by omega
    clear ho hown hrows hne hB hWl hWy s5 by6 hme hmw hWe HL HN hm
    go_wp2_with fail
    refine (I.new _).mono ?_
    rintro e wn ⟨p, F0, rfl, hp0, k0, hF0⟩
    have HP0 := Lib.hid hp0
    have K0 := Lib.hid k0
    have HF0 := Lib.hid hF0
    have HT0 : Hid (([] : List Bs) ++ (feedP ([] ++ encs W)).1 = W ∧ (feedP ([] ++ encs W)).2 = []) := Lib.hid (by have := HFW.out; simp [this])
    clear hp0 k0 hF0 HFW
    go_wp2_with fail
    go_loopw [5, 12, 56] (fun v5 v12 v56 wr => ∃ (k : Nat) (A : Option Addr) (c : Nat) (x st : Bs) (F : Nat → Prop) (G : List Bs), v56 = .int .i64 k ∧ k ≤ nc ∧ v5 = .slice A x.length c ∧ Sl wc A c x ∧ (∀ a, A = some a → a.block < wc.heap.size) ∧ PR wr F p st ∧ (∀ i, F i → wc.heap.size ≤ i) ∧ TxS wr (fun i => F i ∨ i < wc.heap.size) v12 G ∧ Below wc.heap.size wc wr ∧ Hid (G ++ (feedP (st ++ x)).1 = W ∧ (feedP (st ++ x)).2 = []) ∧ st.length + x.length ≤ 6342) (fun _ _ v56 _ => nc - (intOf v56).toNat)
    case atStart => exact ⟨0, A5, c5, encs W, [], F0, [], rfl, by omega, by rw [← HME.out], S5.out, hA5.out, HP0.out, HF0.out, TxS.nil _ _, K0.out, HT0, by rw [← HME.out]; simp; omega⟩
    case round =>
      obtain ⟨k, A1, c1, x, st, F, G, rfl, hk, rfl, hx, hxA, hp, hF, hG, hBr, hT, hlen⟩ := hrel
      clear HT0 K0 HP0 HF0
      have hGl : G.length ≤ 21 := by have h1 := hT.out.1; have h2 := congrArg List.length h1; rw [List.length_append] at h2; have := HWL.out; omega
      have szr := hBr.size
      have offA : Off F A1 := fun a ha hf => by have := hxA a ha; have := hF _ hf; omega
      obtain ⟨m, hm⟩ : ∃ m, m = x.length := ⟨_, rfl⟩
      have HM := Lib.hid hm
      by_cases hlt : k < nc
      · have hlt' : (k : Int) < (nc : Int) := by omega
        have kL : k < cuts.length := by have := HNC.out; omega
        obtain ⟨gc, oc, rfl, hcc⟩ := HCC.out (by omega)
        have C1 := cell_on (hcc k kL) hBr
        generalize cuts[k] = z at *
        obtain ⟨q, r1, r2, -, r4, -⟩ := rem_u64 z 50 (by omega) (by omega)
        replace r1 : Int.tmod (IntKind.u64.wrap z) 50 = (q : Int) := r1
        have h50 : ¬ (50 : Int) = 0 := by omega
        obtain ⟨N, hN⟩ : ∃ N, N = min q m := ⟨_, rfl⟩
        have hmin : min (q : Int) (m : Int) = (N : Int) := by omega
        have hNm : N ≤ x.length := by omega
        have sp := slice_pre A1 x c1 N N hNm hx.le rfl
        obtain ⟨A2, lo, s2, pl2⟩ := hx.rest N N hNm rfl
        have s1 : Sl wc A1 c1 (x.take N) := ⟨hx.bys.pre N, by rw [List.length_take]; have := hx.le; omega, hx.max, hx.nil⟩
        have lx : (x.take N).length = N := by rw [List.length_take]; omega
        rw [lx] at sp
        have FD := Lib.hid (I.feed hp (s1.on hBr) offA (by rw [lx]; omega))
        rw [lx] at FD
        have HT2 := Lib.hid (feed_step N hT.out.1 hT.out.2)
        have hfl := feed_len (st ++ x.take N)
        rw [List.length_append, lx] at hfl
        obtain ⟨y, hy⟩ : ∃ y, y = x.drop N := ⟨_, rfl⟩
        have hyl : y.length = m - N := by rw [hy, List.length_drop]; omega
        rw [← hy] at lo s2 HT2
        have hL1 : (feedP (st ++ x.take N)).1.length ≤ 21 := by
          have h1 := HT2.out.1
          have h2 := congrArg List.length h1
          simp only [List.length_append] at h2
          have := HWL.out; omega
        have hA2 : ∀ a, A2 = some a → a.block < wc.heap.size := fun a ha => by
          obtain ⟨a', ha', hb'⟩ := pl2 a ha
          rw [hb']
          exact hxA a' ha'
        have hlen2 : (feedP (st ++ x.take N)).2.length + y.length ≤ 6342 := by omega
        obtain ⟨Fr, hFr⟩ : ∃ z, z = (feedP (st ++ x.take N)).1 := ⟨_, rfl⟩
        obtain ⟨st2, hst2⟩ : ∃ z, z = (feedP (st ++ x.take N)).2 := ⟨_, rfl⟩
        rw [← hFr] at hL1
        rw [← hst2] at hlen2
        rw [← hFr, ← hst2] at HT2
        have FO : Hid (∀ e w', FeedP PR wr F p st (x.take N) e w' → ∃ v F', e = .returned v ∧ TxS w' (fun k => F' k ∨ (k < wr.heap.size ∧ ¬ F k)) v Fr ∧ PR w' F' p st2 ∧ Mod F wr w' ∧ ∀ k, F' k → F k ∨ wr.heap.size ≤ k) := Lib.hid (fun e w' h => by rw [hFr, hst2]; exact h)
        obtain ⟨my, hmy⟩ : ∃ n, n = y.length := ⟨_, rfl⟩
        rw [← hm] at sp lo
        rw [← hmy] at lo
        rw [← hm]
        have HMY := Lib.hid hmy
        have HS2 := Lib.hid s2
        have HA2 := Lib.hid hA2
        have HG := Lib.hid hG
        have HF := Lib.hid hF
        have HBR := Lib.hid hBr
        have HLO := Lib.hid lo
        have HLEN := Lib.hid hlen2
        have HNM := Lib.hid hNm
        clear hp hx hxA offA hm hG hF hBr s1 s2 lx pl2 hA2 hy hyl hFr hst2 hmy lo hlen2 hfl hN hNm hcc kL hT
        go_wp2_with fail
        refine FD.out.mono ?_
        intro e w1 hfd
        obtain ⟨v1, F1, rfl, t1, hp1, m1, hF1⟩ := FO.out e w1 hfd
        have hG1 : TxS w1 (fun i => F1 i ∨ i < wc.heap.size) u12 G := ((HG.out.wide (S' := fun i => (F i ∨ i < wc.heap.size) ∨ wr.heap.size ≤ i) (fun i hi => hi)).mod m1 (fun i hi => .inl (.inl hi))).wide (fun i hi => .inl (by
          rcases hi with hi | hi
          · rcases hF1 i hi with h | h
            · exact .inl (.inl h)
            · exact .inr h
          · exact .inl (.inr hi)))
        have hlt12 : ∀ i, u12.ownBlock = some i → i < wr.heap.size := by
          obtain ⟨ys, o1, -⟩ := HG.out
          exact fun i hi => (o1.lt i hi).2
        have BR1 := Lib.hid (Mod.out HBR.out m1 szr (fun i hi => HF.out i hi))
        have HF1 : Hid (∀ i, F1 i → wc.heap.size ≤ i) := Lib.hid (fun i hi => by
          rcases hF1 i hi with h | h
          · exact HF.out i h
          · omega)
        have HG1 := Lib.hid hG1
        have HT1 := Lib.hid t1
        have HP1 := Lib.hid hp1
        have HLT1 := Lib.hid hlt12
        have HL1 := Lib.hid (I.lt hp1)
        have sz1 := m1.size
        have lo' := HLO.out
        have HFO : Hid (∀ i, F i → wc.heap.size ≤ i) := Lib.hid HF.out
        have HU12 : Hid (∀ i, u12.ownBlock = some i → ¬ F i) := Lib.hid (fun i hi e => by obtain ⟨ys, _, off, _⟩ := HG.out; exact off i hi (.inl e))
        clear FD hG1 t1 hp1 hlt12 m1 hfd FO hF1 HLO HBR HF HG sp
        go_wp2_with (first
          | (at_builtin; refine wpList_app_txs rfl (.tmp 67) (.tmp 72) rfl (S := fun i => F1 i ∨ i < wc.heap.size) (S2 := fun i => F1 i ∨ (i < wr.heap.size ∧ ¬ F i)) rfl rfl HG1.out HT1.out (fun i hi => hi.imp id (fun h => ⟨by omega, fun e => by have := HFO.out i e; omega⟩)) (fun i hi => by rcases hi with hi | hi; exact HL1.out i hi; omega) (fun i hi => .inr ⟨HLT1.out i hi, HU12.out i hi⟩) (by omega) ?_)
          | fail)
        intro v2 w2 t2 g2 _
        obtain ⟨ys, o1, off12, -⟩ := HG1.out
        have M2 : Mod (fun i => u12.ownBlock = some i) w1 w2 := Mod.grown g2 (fun i hi => hi)
        have hp2 := I.mod HP1.out M2 (fun i hi e => off12 i e (.inl hi))
        have br2 := Mod.out BR1.out M2 (by omega) (fun i hi => by have := off12 i hi; exact Nat.le_of_not_lt (fun h => this (.inr h)))
        have T2 := Lib.hid t2
        have HP2 := Lib.hid hp2
        have BR2 := Lib.hid br2
        clear t2 o1 off12 M2 hp2 br2 g2 HG1 HT1 HP1 HLT1 HL1 BR1 HFO HU12
        go_wp2_with fail
        go_roundw
        case rel => exact ⟨k + 1, A2, c1 - N, y, st2, F1, G ++ Fr, by go_num, by omega, by rw [← HMY.out], HS2.out, HA2.out, HP2.out, HF1.out, T2.out, BR2.out, HT2, HLEN.out⟩
        case measure => simp [intOf]; omega
      · have hlt' : ¬ (k : Int) < (nc : Int) := by omega
        have FD := Lib.hid (I.feed hp (hx.on hBr) offA (by omega))
        rw [← hm] at FD ⊢
        have HG := Lib.hid hG
        have HF := Lib.hid hF
        have HBR := Lib.hid hBr
        have HLT := Lib.hid (I.lt hp)
        clear hp hx hxA offA hm hG hF hBr
        go_wp2_with fail
        refine FD.out.mono ?_
        rintro e w1 ⟨v1, F1, rfl, t1, hp1, m1, hF1⟩
        obtain ⟨e1, e2⟩ := hT.out
        have hG1 : TxS w1 (fun i => F1 i ∨ i < wc.heap.size) u12 G := ((HG.out.wide (S' := fun i => (F i ∨ i < wc.heap.size) ∨ wr.heap.size ≤ i) (fun i hi => hi)).mod m1 (fun i hi => .inl (.inl hi))).wide (fun i hi => .inl (by
          rcases hi with hi | hi
          · rcases hF1 i hi with h | h
            · exact .inl (.inl h)
            · exact .inr h
          · exact .inl (.inr hi)))
        have hlt12 : ∀ i, u12.ownBlock = some i → i < wr.heap.size := by
          obtain ⟨ys, o1, -⟩ := HG.out
          exact fun i hi => (o1.lt i hi).2
        have BR1 := Lib.hid (Mod.out HBR.out m1 szr (fun i hi => HF.out i hi))
        have hL1 : (feedP (st ++ x)).1.length ≤ 21 := by have h2 := congrArg List.length e1; rw [List.length_append] at h2; have := HWL.out; omega
        have HG1 := Lib.hid hG1
        have HT1 := Lib.hid t1
        have HP1 := Lib.hid hp1
        have HLT1 := Lib.hid hlt12
        have HL1 := Lib.hid (I.lt hp1)
        have sz1 := m1.size
        have HFO : Hid (∀ i, F i → wc.heap.size ≤ i) := Lib.hid HF.out
        have HU12 : Hid (∀ i, u12.ownBlock = some i → ¬ F i) := Lib.hid (fun i hi e => by obtain ⟨ys, _, off, _⟩ := HG.out; exact off i hi (.inl e))
        clear FD hG1 t1 hp1 hlt12 m1
        go_wp2_with (first
          | (at_builtin; refine wpList_app_txs rfl (.tmp 78) (.tmp 81) rfl (S := fun i => F1 i ∨ i < wc.heap.size) (S2 := fun i => F1 i ∨ (i < wr.heap.size ∧ ¬ F i)) rfl rfl HG1.out HT1.out (fun i hi => hi.imp id (fun h => ⟨by omega, fun e => by have := HFO.out i e; omega⟩)) (fun i hi => by rcases hi with hi | hi; exact HL1.out i hi; omega) (fun i hi => .inr ⟨HLT1.out i hi, HU12.out i hi⟩) (by omega) ?_)
          | fail)
        intro v2 w2 t2 g2 _
        obtain ⟨ys, o1, off12, -⟩ := HG1.out
        have M2 : Mod (fun i => u12.ownBlock = some i) w1 w2 := Mod.grown g2 (fun i hi => hi)
        have hp2 := I.mod HP1.out M2 (fun i hi e => off12 i e (.inl hi))
        rw [e2] at hp2
        have sz1c : wc.heap.size ≤ w1.heap.size := by omega
        have br2 := Mod.out BR1.out M2 sz1c (fun i hi => by have := off12 i hi; exact Nat.le_of_not_lt (fun h => this (.inr h)))
        obtain ⟨Ag, cg, rfl, byg, -⟩ := t2.byss
        have ST := Lib.hid (sameTexts_any Ag A6 W W cg c6 w2 byg (B6.out.on br2) (by have := HWL.out; omega))
        rw [show (W == W) = true by simp] at ST
        rw [← HMW.out] at ST
        rw [← HMW.out]
        have HP2 := Lib.hid hp2
        have BF := Lib.hid (Below.trans BC.out (br2.mono szc))
        have szf : wc.heap.size ≤ w2.heap.size := br2.size
        clear t2 o1 off12 M2 hp2 br2 byg g2 HG1 HT1 HP1 HLT1 HL1 BR1 HFO HU12 e1 e2
        go_wp2_with fail
        refine ST.out.mono ?_
        rintro e w3 ⟨rfl, k3⟩
        have LF := Lib.hid (I.left (I.on HP2.out k3))
        have bf3 := Lib.hid (Below.trans BF.out (k3.mono (Nat.le_trans szc szf)))
        have sz3 := k3.size
        clear ST HP2 BF k3
        go_wp2_with fail
        refine LF.out.mono ?_
        rintro e w4 ⟨rfl, k4⟩
        have bf4 := Below.trans bf3.out (k4.mono (by omega))
        go_wp2_with fail
        go_ret
        exact ⟨rfl, bf4⟩
end Go.Proofs.Ytdifemaidngnjaa
