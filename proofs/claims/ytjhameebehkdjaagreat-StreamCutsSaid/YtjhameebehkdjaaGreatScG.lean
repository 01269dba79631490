/-
  The walk of StreamCuts, for each kind of stream.
-/
import Derived.Test.YtjhameebehkdjaaGreatSy
import Derived.Test.YtjhameebehkdjaaGreatHwA
import Derived.Test.YtjhameebehkdjaaGreatHy
import Derived.Deep.CutBlock
import Derived.Deep.DeepCutAuto
import Derived.Deep.RegionWith
namespace Go.Proofs.YtjhameebehkdjaaGreat
open Go.RowKit Go.Shelf
set_option linter.unusedVariables false
set_option maxRecDepth 100000

theorem Sl.modK {S : Nat → Prop} {w w1 : World} {A : Option Addr} {c : Nat} {l : Bs} (h : Sl w A c l) (k : Mod S w w1) (hn : 0 < l.length → Off S A) : Sl w1 A c l := ⟨fun hl => h.bys.mod k (hn hl) hl, h.le, h.max, h.nil⟩
def chK (t : Int) (k : Nat) : Bool := bits .and .u64 (t / 2 ^ k) 1 == 1
/-- A request, or a frame, as it comes. -/
theorem rAsk_any (A : Option Addr) (b : Bs) (c : Nat) (ch : Bool) (w : World) (hb : Sl w A c b) (hn : b.length ≤ 65535) : Calls Tryz.prog 6 #[.slice A b.length c, .bool ch] w (ReplyOk w (askK true ch b)) := by
  cases ch
  · exact rAsk_plain A b c w hb hn
  · exact rAsk_chunk A b c w hb hn
theorem encK_any (A : Option Addr) (b : Bs) (c : Nat) (ch : Bool) (w : World) (hb : Sl w A c b) (hn : b.length ≤ 65535) : Calls Tryz.prog 5 #[.slice A b.length c] w (ReplyOk w (askK false ch b)) :=
  (encL_any A b c w hb).mono fun e w' ⟨k, h⟩ => by
    rcases h with ⟨h, -⟩ | ⟨-, v, h1, h2⟩
    · omega
    · exact ⟨v, h1, h2, k⟩

set_option maxHeartbeats 4000000 in
set_option maxRecDepth 100000 in
theorem StreamCuts_false (kind : Int) (r1 : Int.tmod (IntKind.u64.wrap kind) 2 = 0) (A : Option Addr) (L : List Bs) (c : Nat) (Ac : Option Addr) (cuts : List Int) (cc : Nat) (t : Int) (w : World) (hL : Byss w A L) (hm : L.length ≤ 9223372036854775807) (hC : Nts w Ac cuts) (hcm : cuts.length ≤ 9223372036854775807) (ht : 0 ≤ t ∧ t ≤ 18446744073709551615) (hM : MaxL w) : Calls Tryz.prog 3 #[.int .i64 kind, .slice A L.length c, .slice Ac cuts.length cc, .int .u64 t] w fun e w' => e = .returned (.bool true) ∧ Below w.heap.size w w' := by
  have HL := Lib.hid hL
  have HC := Lib.hid hC
  have HM9 := Lib.hid hM
  have HTT := Lib.hid ht
  obtain ⟨n, hn⟩ : ∃ n, n = L.length := ⟨_, rfl⟩
  obtain ⟨nc, hnc⟩ : ∃ n, n = cuts.length := ⟨_, rfl⟩
  rw [← hn, ← hnc]
  rw [← hn] at hm
  rw [← hnc] at hcm
  have HN := Lib.hid hn
  have HNC := Lib.hid hnc
  have NEW := Lib.hid (fun W => newK_any false W)
  simp only [Bool.false_eq_true, if_false] at NEW
  have KW := Lib.hid (Below.alloc (Below.refl w.heap.size w) (Nat.le_refl _) (.cells #[.int .i64 1, .int .i64 2] 3))
  clear hL hC hn hnc hM ht
  go_enter Tryz.func3, Tryz.ntmps3
  go_wp2_with fail
  refine (NEW.out _).mono ?_
  rintro e w1 ⟨ga, Fa, rfl, ka, sta, hFa⟩
  have KA := Lib.hid (KW.out.trans (ka.mono (by simp)))
  have STA := Lib.hid sta
  have HFA : Hid (∀ j, Fa j → w.heap.size ≤ j ∧ j < w1.heap.size) := Lib.hid (fun j hj => ⟨by have := hFa j hj; simp at this; omega, sta.lt j hj⟩)
  clear ka sta hFa KW
  go_wp2_with fail
  refine (NEW.out _).mono ?_
  rintro e w3 ⟨gb, Fb, rfl, kb, stb, hFb⟩
  have K3 := Lib.hid (KA.out.trans (kb.mono KA.out.size))
  have STA3 := Lib.hid (STA.out.on kb)
  have STB := Lib.hid stb
  have HFB : Hid (∀ j, Fb j → w1.heap.size ≤ j ∧ j < w3.heap.size) := Lib.hid (fun j hj => ⟨hFb j hj, stb.lt j hj⟩)
  have SZ13 := Lib.hid kb.size
  have SZ0 := Lib.hid KA.out.size
  clear kb stb hFb STA NEW KA
  go_upto_block 0 with fail
  go_cut [13] (fun s13 wx => OwnB wx w3.heap.size s13 (askKs false (prsK 200 (chK t) L (min n 9))) ∧ Below w3.heap.size w3 wx)
  case first =>
    go_wp2_with fail
    go_loopw [13, 48] (fun v13 v48 wr => ∃ (k : Nat) (A5 : Option Addr) (c5 : Nat), v48 = .int .i64 k ∧ k ≤ n ∧ k ≤ 9 ∧ v13 = .slice A5 (askKs false (prsK 200 (chK t) L k)).length c5 ∧ OwnB wr w3.heap.size v13 (askKs false (prsK 200 (chK t) L k)) ∧ Below w3.heap.size w3 wr) (fun _ v48 _ => n - (intOf v48).toNat)
    case atStart => exact ⟨0, none, 0, rfl, by omega, by omega, rfl, .inl ⟨rfl, rfl⟩, Below.refl _ _⟩
    case round =>
      obtain ⟨k, A5, c5, rfl, hk, hk9, rfl, ho, hB⟩ := hrel
      by_cases hlt : k < n
      · have hlt' : (k : Int) < (n : Int) := by omega
        have kL : k < L.length := by have := HN.out; omega
        have HBW := Lib.hid (K3.out.trans (hB.mono K3.out.size))
        obtain ⟨g1, o1, rfl, hc1⟩ := HL.out (by omega)
        obtain ⟨a1, d1, C1, D1, hd1, hm1, hn1⟩ := hc1 k kL
        have C1' := cell_on C1 HBW.out
        by_cases h20 : (8 : Int) < (k : Int)
        · have hk2 : k = 9 := by omega
          subst hk2
          have HF : Hid (OwnB wr w3.heap.size (.slice A5 (askKs false (prsK 200 (chK t) L 9)).length c5) (askKs false (prsK 200 (chK t) L (min n 9))) ∧ Below w3.heap.size w3 wr) := Lib.hid (by
            rw [show min n 9 = 9 by omega]
            exact ⟨ho, hB⟩)
          generalize L[9] = y at *
          generalize (askKs false (prsK 200 (chK t) L 9)).length = m at *
          clear ho hB hc1 C1 D1
          go_wp2_with fail
          go_meet
          exact HF.out
        · have h20' : ¬ (k : Int) > 8 := by omega
          have htk := prsK_snoc 200 (chK t) L kL
          obtain ⟨W, hW⟩ : ∃ W, W = prsK 200 (chK t) L k := ⟨_, rfl⟩
          have hWl : W.length = k := by rw [hW, prsK_len]
          have hWe : (askKs false W).length ≤ 28800 := by
            have := askKs_len false W (by rw [hW]; exact prsK_le 200 (by omega) (chK t) L k)
            rw [hWl] at this
            omega
          rw [← hW] at ho htk
          generalize hyy : L[k] = y at *
          obtain ⟨z, hz⟩ : ∃ z, z = y.take 200 := ⟨_, rfl⟩
          rw [← hz] at htk
          obtain ⟨ly, hly⟩ : ∃ n, n = y.length := ⟨_, rfl⟩
          obtain ⟨lz, hlz⟩ : ∃ n, n = z.length := ⟨_, rfl⟩
          have hlz2 : lz = min ly 200 := by rw [hlz, hz, List.length_take, hly]; omega
          have sp := slice_pre a1 y d1 (min ly 200) (min (ly : Int) 200) (by omega) hd1 (by omega)
          have e1 : y.take (min ly 200) = z := by rw [hz, List.take_eq_take_iff]; omega
          rw [e1, ← hlz, ← hly] at sp
          have hmin : min (ly : Int) 200 = (lz : Int) := by omega
          rw [hmin] at sp
          have sz0 : Sl w a1 d1 z := by rw [hz]; exact ⟨D1.pre 200, by rw [List.length_take]; omega, hm1, hn1⟩
          have hlz5 : z.length ≤ 65535 := by rw [← hlz]; omega
          obtain ⟨cb, hcb⟩ : ∃ cb, cb = chK t k := ⟨_, rfl⟩
          have E0 := Lib.hid (encK_any a1 z d1 cb wr (sz0.on HBW.out) hlz5)
          have hrm : Int.tmod (k : Int) 32 = (k : Int) := Int.tmod_eq_of_lt (by omega) (by omega)
          have hbit : (bits .and .u64 (t / 2 ^ k) 1 == 1) = cb := hcb.symm
          rw [← hcb] at htk
          clear hcb
          rw [← hlz] at E0
          rw [← hly] at C1'
          have HO := Lib.hid ho
          have HB := Lib.hid hB
          have HTK := Lib.hid htk
          have HLZ := Lib.hid hlz
          have HLZ5 : Hid (z.length ≤ 500) := Lib.hid (by rw [← hlz]; omega)
          have HMIN := Lib.hid hmin
          have szr := hB.size
          obtain ⟨me, hme⟩ : ∃ m, m = (askKs false W).length := ⟨_, rfl⟩
          rw [← hW, ← hme]
          rw [← hme] at HO hWe
          have HME := Lib.hid hme
          clear ho hB htk hlz hly hWl hlz2 e1 sz0 hz hW hme hc1 C1 D1 hd1 hm1 hn1 hyy kL hlz5
          go_wp2_with fail
          refine E0.out.mono ?_
          rintro e w4 ⟨v, rfl, hv, k4⟩
          obtain ⟨Af, cf, rfl, sf⟩ := hv.bysN
          obtain ⟨w5, hw5⟩ : ∃ w5, w5 = w4 := ⟨_, rfl⟩
          rw [← hw5] at hv sf k4 ⊢
          have k1 := k4
          clear hw5 k4 E0
          have hfl0 := askK_len false cb z HLZ5.out
          obtain ⟨fl, hfl⟩ : ∃ n, n = (askK false cb z).length := ⟨_, rfl⟩
          rw [← hfl]
          rw [← hfl] at hfl0
          have O1 := Lib.hid (HO.out.below k1 (Nat.le_refl _))
          have B1 := Lib.hid (Below.trans HB.out (k1.mono szr))
          have SF := Lib.hid sf
          have HFL := Lib.hid hfl
          have sz1 : w3.heap.size ≤ w5.heap.size := Nat.le_trans szr k1.size
          have hfl3 : fl ≤ 3200 := hfl0.1
          clear hv sf hfl hfl0 k1 HO HB HBW
          go_wp2_with (first
            | (at_builtin; refine wpList_append_bys rfl (.tmp 83) (.tmp 84) rfl w3.heap.size _ (askKs false W) rfl O1.out Af cf fl (askK false cb z) rfl HFL.out SF.out.bys SF.out.nil (by have := HFL.out; have := HME.out; omega) sz1 ?_)
            | fail)
          intro v5 w6 ho2 hg2 hf2
          obtain ⟨A5', c5', rfl, -⟩ := ho2.bysN
          have b2 : Below w3.heap.size w3 w6 := B1.out.grown hg2 sz1 (fun j hj => (O1.out.lt j hj).1)
          have es : askKs false W ++ askK false cb z = askKs false (prsK 200 (chK t) L (k + 1)) := by rw [HTK.out, askKs_snoc]
          rw [es] at ho2
          rw [es]
          have O2 := Lib.hid ho2
          have B2 := Lib.hid b2
          obtain ⟨m2, hm2⟩ : ∃ m, m = (askKs false (prsK 200 (chK t) L (k + 1))).length := ⟨_, rfl⟩
          rw [← hm2]
          rw [← hm2] at O2
          have HM2 := Lib.hid hm2
          clear ho2 hg2 hf2 b2 es hm2 O1 B1 SF
          go_wp2_with fail
          go_roundw
          case rel => exact ⟨k + 1, A5', c5', by go_num, by omega, by omega, by rw [← HM2.out], O2.out, B2.out⟩
          case measure => simp [intOf]; omega
      · have hlt' : ¬ (k : Int) < (n : Int) := by omega
        have hkn : k = n := by omega
        have HF : Hid (OwnB wr w3.heap.size (.slice A5 (askKs false (prsK 200 (chK t) L k)).length c5) (askKs false (prsK 200 (chK t) L (min n 9))) ∧ Below w3.heap.size w3 wr) := Lib.hid (by
          rw [show min n 9 = k by omega]
          exact ⟨ho, hB⟩)
        generalize (askKs false (prsK 200 (chK t) L k)).length = m at *
        clear ho hB hkn
        go_wp2_with fail
        go_meet
        exact HF.out
  case rest =>
    obtain ⟨ho, hB⟩ := hcut
    have hPl : (prsK 200 (chK t) L (min n 9)).length = min n 9 := prsK_len _ _ _ _
    have hPy := prsK_le 200 (by omega) (chK t) L (min n 9)
    generalize prsK 200 (chK t) L (min n 9) = P at *
    obtain ⟨W, hW⟩ : ∃ W, W = txsH P := ⟨_, rfl⟩
    have hWl : W.length = min n 9 := by rw [hW, ← hPl]; simp [txsH]
    obtain ⟨x0, hx0⟩ : ∃ x, x = askKs false P := ⟨_, rfl⟩
    have LK0 : LeftK 28800 (startK false) x0 [] W := by rw [hx0, hW]; exact LeftK.start false P hPy (by omega)
    obtain ⟨la1, la2, -⟩ := LK0.all
    rw [List.nil_append] at la2
    rw [← hx0] at ho
    have hxl : x0.length ≤ 28800 := by have := LK0.1; omega
    obtain ⟨A5, c5, rfl, s5⟩ := ho.bysN
    have hA5 : ∀ a, A5 = some a → w3.heap.size ≤ a.block ∧ a.block < wc.heap.size := fun a ha => by subst ha; exact ho.lt a.block rfl
    have szc := hB.size
    have BWC := K3.out.trans (hB.mono K3.out.size)
    have hfa := HFA.out
    have hfb := HFB.out
    have h13 := SZ13.out
    have offA : Off Fa A5 := fun a ha e => by have h1 := hA5 a ha; have h2 := hfa _ e; omega
    have offB : Off Fb A5 := fun a ha e => by have h1 := hA5 a ha; have h2 := hfb _ e; omega
    have FDA := Lib.hid (feedS_any ga Fa (startK false) x0 A5 c5 wc (STA3.out.on hB) s5 offA (HM9.out.on BWC) (fun e => by have h1 := hfa _ e; have h2 := HM9.out.lt; omega) la1 (by have := LK0.1; omega) (by rw [la2, hWl]; omega))
    have FPA : Hid (∀ e w', FeedKP wc Fa ga (startK false) x0 e w' → ∃ v, e = .returned v ∧ Mod Fa wc w' ∧ FrS w' Fb v W) := Lib.hid (fun e w' h => by
      obtain ⟨v, F', h1, -, h3, h4, h5⟩ := h
      rw [la2] at h5
      exact ⟨v, h1, h3, h5.wide (fun i hi => .inl (.inr ⟨by have := hfb i hi; omega, fun e => by have h1 := hfa i e; have h2 := hfb i hi; omega⟩))⟩)
    have STBC := Lib.hid (STB.out.on hB)
    have HBWC := Lib.hid BWC
    have HHB := Lib.hid hB
    have HS5 := Lib.hid s5
    have HOFA := Lib.hid offA
    have HA5 := Lib.hid hA5
    have HLK := Lib.hid LK0
    have HWL := Lib.hid hWl
    obtain ⟨me, hme⟩ : ∃ m, m = x0.length := ⟨_, rfl⟩
    rw [← hme] at FDA ⊢
    have HME := Lib.hid hme
    have SZC := Lib.hid szc
    clear ho hB hPy hPl LK0 la1 la2 hxl s5 hA5 szc BWC hfa hfb h13 offA offB hW hWl hx0 hme STA3 STB
    go_wp2_with fail
    with_reducible refine FDA.out.mono ?_
    intro e wd hq
    obtain ⟨v18, rfl, mA, frW⟩ := FPA.out e wd hq
    have szd := mA.size
    obtain ⟨A18, c18, rfl⟩ := frW.sl
    have BWD := Lib.hid (Mod.out HBWC.out mA HBWC.out.size (fun i hi => (HFA.out i hi).1))
    have STD := Lib.hid (STBC.out.mod mA (fun i hi e => by have h1 := HFA.out i e; have h2 := HFB.out i hi; omega))
    have SD : Hid (Sl wd A5 c5 x0) := Lib.hid (HS5.out.modK mA (fun _ => HOFA.out))
    have FRW := Lib.hid frW
    have SZD := Lib.hid szd
    have HFBW : Hid (∀ i, Fb i → w.heap.size ≤ i) := Lib.hid (fun i hi => Nat.le_trans SZ0.out (HFB.out i hi).1)
    obtain ⟨mw, hmw⟩ : ∃ m, m = W.length := ⟨_, rfl⟩
    rw [← hmw]
    have HMW := Lib.hid hmw
    have hmn : min (n : Int) 9 = (mw : Int) := by have := HWL.out; omega
    clear hq mA frW szd FDA FPA hmw STBC
    go_wp2_with fail
    go_loopw [13, 19, 92] (fun v13 v19 v92 wr => ∃ (j : Nat) (A : Option Addr) (c : Nat) (x : Bs) (K : Ks) (F : Nat → Prop) (G : List Bs), v92 = .int .i64 j ∧ j ≤ nc ∧ v13 = .slice A x.length c ∧ Hid (Sl wd A c x) ∧ Hid (∀ a, A = some a → w3.heap.size ≤ a.block ∧ a.block < wc.heap.size) ∧ Hid (StM wr F gb K) ∧ Hid (∀ i, F i → Fb i ∨ wd.heap.size ≤ i) ∧ Hid (FrS wr F v19 G) ∧ Hid (∀ i, v19.ownBlock = some i → wd.heap.size ≤ i) ∧ Hid (Mod Fb wd wr) ∧ Hid (LeftK 28800 K x G W)) (fun _ _ v92 _ => nc - (intOf v92).toNat)
    case atStart => exact ⟨0, A5, c5, x0, startK false, Fb, [], rfl, by omega, by rw [HME.out], SD, HA5, STD, Lib.hid (fun i hi => .inl hi), Lib.hid (FrS.nil _ _), Lib.hid (fun i hi => by simp [Value.ownBlock] at hi), Lib.hid (Mod.refl _ _), HLK⟩
    case round =>
      obtain ⟨j, A, c, x, K, F, G, rfl, hj, rfl, HX, HXA, HST, HF, HG, HO, HMD, HT⟩ := hrel
      rename World => wr
      clear SD HA5 STD HLK
      have BWR := Lib.hid (Mod.out BWD.out HMD.out BWD.out.size (fun i hi => HFBW.out i hi))
      have szr := HMD.out.size
      have hoffF : ∀ {B : Option Addr}, (∀ a, B = some a → w3.heap.size ≤ a.block ∧ a.block < wc.heap.size) → Off F B := fun {B} hb a ha e => by
        have h1 := hb a ha
        have h2 := SZD.out
        rcases HF.out _ e with h | h
        · have h3 := HFB.out _ h; omega
        · omega
      have slr : Sl wr A c x := HX.out.modK HMD.out (fun _ a ha e => by have h1 := HXA.out a ha; have h3 := HFB.out _ e; omega)
      have hmaxF : ¬ F (Tryz.lays146_ren.g 1) := fun e => by
        have h2 := HM9.out.lt
        rcases HF.out _ e with h | h
        · have := HFBW.out _ h; omega
        · have h3 := BWD.out.size; omega
      have hlk := HT.out
      have hWn := HWL.out
      obtain ⟨m, hm⟩ : ∃ m, m = x.length := ⟨_, rfl⟩
      by_cases hlt : j < nc
      · have hlt' : (j : Int) < (nc : Int) := by omega
        have kL : j < cuts.length := by have := HNC.out; omega
        obtain ⟨gc, oc, hAc, hcc⟩ := (HC.out.on BWR.out) (by omega)
        have C1 := hcc j kL
        subst hAc
        obtain ⟨z, hz0⟩ : ∃ z, z = cuts[j] := ⟨_, rfl⟩
        rw [← hz0] at C1
        obtain ⟨q, q1, q2, -, q4, -⟩ := rem_u64 z 60 (by omega) (by omega)
        replace q1 : Int.tmod (IntKind.u64.wrap z) 60 = (q : Int) := q1
        obtain ⟨N, hN⟩ : ∃ N, N = min q m := ⟨_, rfl⟩
        have hmin : min (q : Int) (m : Int) = (N : Int) := by omega
        have hNm : N ≤ x.length := by omega
        have sp := slice_pre A x c N N hNm slr.le rfl
        obtain ⟨A2, lo, s2, pl2⟩ := HX.out.rest N N hNm rfl
        have s1 : Sl wr A c (x.take N) := ⟨slr.bys.pre N, by rw [List.length_take]; have := slr.le; omega, slr.max, slr.nil⟩
        have lx : (x.take N).length = N := by rw [List.length_take]; omega
        rw [lx] at sp
        obtain ⟨l1, l2⟩ := hlk.step N
        have lc := hlk.cnt N
        have FD := Lib.hid (feedS_any gb F K (x.take N) A c wr HST.out s1 (hoffF HXA.out) (HM9.out.on BWR.out) hmaxF l1 (by have := hlk.1; rw [lx]; omega) (by omega))
        rw [lx] at FD
        obtain ⟨y, hy⟩ : ∃ y, y = x.drop N := ⟨_, rfl⟩
        rw [← hy] at lo s2 l2
        have HA2 : Hid (∀ a, A2 = some a → w3.heap.size ≤ a.block ∧ a.block < wc.heap.size) := Lib.hid (fun a ha => by
          obtain ⟨a', ha', hb'⟩ := pl2 a ha
          rw [hb']
          exact HXA.out a' ha')
        obtain ⟨R1, hR1⟩ : ∃ z, z = (feedK K (x.take N)).2 := ⟨_, rfl⟩
        obtain ⟨K1, hK1⟩ : ∃ z, z = (feedK K (x.take N)).1 := ⟨_, rfl⟩
        rw [← hR1] at l2 lc
        rw [← hK1] at l2
        have FO : Hid (∀ e w', FeedKP wr F gb K (x.take N) e w' → ∃ v F1, e = .returned v ∧ StM w' F1 gb K1 ∧ Mod F wr w' ∧ (∀ j, F1 j → F j ∨ wr.heap.size ≤ j) ∧ FrS w' (fun k => F1 k ∨ (k < wr.heap.size ∧ ¬ F k)) v R1) := Lib.hid (fun e w' h => by
          rw [hR1, hK1]
          exact h)
        obtain ⟨my, hmy⟩ : ∃ n, n = y.length := ⟨_, rfl⟩
        rw [← hm] at sp lo ⊢
        rw [← hmy] at lo
        have HMY := Lib.hid hmy
        have HS2 := Lib.hid s2
        have HL2 := Lib.hid l2
        have HLC : Hid ((G.length + R1.length) * 32 ≤ 140737488355328) := Lib.hid (by omega)
        have SZR := Lib.hid szr
        clear s1 s2 lx pl2 hy hmy hcc kL hz0 l1 l2 lc hR1 hK1 slr hoffF hmaxF hlk hWn HT hm hNm hN q2 szr
        go_wp2_with fail
        with_reducible refine FD.out.mono ?_
        intro e w4 hfd
        obtain ⟨v4, F1, rfl, st4, m4, hF1, fr4⟩ := FO.out e w4 hfd
        have sz4 := m4.size
        have TG0 : FrS w4 F1 u19 G := ((HG.out.wide (S' := fun i => F i ∨ wr.heap.size ≤ i) (fun i hi => hi)).mod m4 (fun i hi => .inl hi)).wide (fun i hi => .inl (hF1 i hi))
        have TG := Lib.hid TG0
        have T4 := Lib.hid fr4
        have HLT1 := Lib.hid st4.lt
        have HV1 : Hid (∀ i, u19.ownBlock = some i → F1 i ∨ (i < wr.heap.size ∧ ¬ F i)) := Lib.hid (fun i hi => .inr ⟨HG.out.lt i hi, fun e => by obtain ⟨_, _, off, _⟩ := HG.out; exact off i hi e⟩)
        have ST4 := Lib.hid st4
        have M4 := Lib.hid (HMD.out.trans m4 (fun i hi => HF.out i hi))
        have HF1 : Hid (∀ i, F1 i → Fb i ∨ wd.heap.size ≤ i) := Lib.hid (fun i hi => by
          rcases hF1 i hi with h | h
          · exact HF.out i h
          · have := SZR.out; exact .inr (by omega))
        have SZ4 := Lib.hid sz4
        clear hfd st4 m4 hF1 fr4 sz4 TG0 FD FO sp
        go_wp2_with (first
          | (at_builtin; refine wpList_app_frs rfl (.tmp 103) (.tmp 108) rfl (S := F1) (S2 := fun k => F1 k ∨ (k < wr.heap.size ∧ ¬ F k)) (L := G) (L2 := R1) rfl rfl TG.out T4.out (fun k hk => .inl hk) HLT1.out HV1.out HLC.out ?_)
          | fail)
        intro v5 w5 fr5 g5 hv5
        have ST5 := Lib.hid (ST4.out.mod (S := fun i => u19.ownBlock = some i) (Mod.grown g5 (fun i e => e)) (fun i hi e => by obtain ⟨_, _, off, _⟩ := TG.out; exact off i e hi))
        have M5 := Lib.hid (M4.out.trans (S' := fun i => u19.ownBlock = some i) (Mod.grown g5 (fun i e => e)) (fun i e => .inr (HO.out i e)))
        have HO5 : Hid (∀ i, v5.ownBlock = some i → wd.heap.size ≤ i) := Lib.hid (fun i hi => by
          rcases hv5 i hi with h | h
          · exact HO.out i h
          · have h1 := SZR.out; have h2 := SZ4.out; omega)
        have FR5 := Lib.hid fr5
        clear fr5 g5 hv5 TG T4 HLT1 HV1 ST4 M4 HO HG HST HF HMD BWR
        go_wp2_with fail
        go_roundw
        case rel => exact ⟨j + 1, A2, c - N, y, K1, F1, G ++ R1, by go_num, by omega, by rw [← HMY.out], HS2, HA2, ST5, HF1, FR5, HO5, M5, HL2⟩
        case measure => simp [intOf]; omega
      · have hlt' : ¬ (j : Int) < (nc : Int) := by omega
        obtain ⟨l1, l2, -⟩ := hlk.all
        have lc := congrArg List.length l2
        rw [List.length_append] at lc
        have FD := Lib.hid (feedS_any gb F K x A c wr HST.out slr (hoffF HXA.out) (HM9.out.on BWR.out) hmaxF l1 (by have := hlk.1; omega) (by omega))
        obtain ⟨R1, hR1⟩ : ∃ z, z = (feedK K x).2 := ⟨_, rfl⟩
        rw [← hR1] at l2 lc
        have FO : Hid (∀ e w', FeedKP wr F gb K x e w' → ∃ v F1, e = .returned v ∧ StM w' F1 gb (feedK K x).1 ∧ Mod F wr w' ∧ (∀ j, F1 j → F j ∨ wr.heap.size ≤ j) ∧ FrS w' (fun k => F1 k ∨ (k < wr.heap.size ∧ ¬ F k)) v R1) := Lib.hid (fun e w' h => by
          rw [hR1]
          exact h)
        rw [← hm] at FD ⊢
        have HLC : Hid ((G.length + R1.length) * 32 ≤ 140737488355328) := Lib.hid (by omega)
        have HGR := Lib.hid l2
        have SZR := Lib.hid szr
        clear l1 l2 lc hR1 slr hoffF hmaxF hlk hWn HT hm szr
        go_wp2_with fail
        with_reducible refine FD.out.mono ?_
        intro e w4 hfd
        obtain ⟨v4, F1, rfl, st4, m4, hF1, fr4⟩ := FO.out e w4 hfd
        have sz4 := m4.size
        have TG0 : FrS w4 F1 u19 G := ((HG.out.wide (S' := fun i => F i ∨ wr.heap.size ≤ i) (fun i hi => hi)).mod m4 (fun i hi => .inl hi)).wide (fun i hi => .inl (hF1 i hi))
        have TG := Lib.hid TG0
        have T4 := Lib.hid fr4
        have HLT1 := Lib.hid st4.lt
        have HV1 : Hid (∀ i, u19.ownBlock = some i → F1 i ∨ (i < wr.heap.size ∧ ¬ F i)) := Lib.hid (fun i hi => .inr ⟨HG.out.lt i hi, fun e => by obtain ⟨_, _, off, _⟩ := HG.out; exact off i hi e⟩)
        have M4 := Lib.hid (HMD.out.trans m4 (fun i hi => HF.out i hi))
        clear hfd st4 m4 hF1 fr4 sz4 TG0 FD FO
        go_wp2_with (first
          | (at_builtin; refine wpList_app_frs rfl (.tmp 114) (.tmp 117) rfl (S := F1) (S2 := fun k => F1 k ∨ (k < wr.heap.size ∧ ¬ F k)) (L := G) (L2 := R1) rfl rfl TG.out T4.out (fun k hk => .inl hk) HLT1.out HV1.out HLC.out ?_)
          | fail)
        intro v5 w5 fr5 g5 hv5
        have M5 := Lib.hid (M4.out.trans (S' := fun i => u19.ownBlock = some i) (Mod.grown g5 (fun i e => e)) (fun i e => .inr (HO.out i e)))
        rw [HGR.out] at fr5
        obtain ⟨A5', c5', rfl, frs5, -, -⟩ := fr5.frs
        obtain ⟨A6', c6', e6, frs6, -, -⟩ := (FRW.out.mod M5.out (fun i hi => hi)).frs
        injection e6 with e6a e6b e6c
        rw [← e6a] at frs6
        clear e6b e6c e6a
        have EQ := Lib.hid (sameFr_any A5' A18 W W c5' c18 w5 frs5 frs6 (by have := HWL.out; omega))
        rw [show (W == W) = true by simp, ← HMW.out] at EQ
        rw [← HMW.out]
        have B5 := Lib.hid (Mod.out BWD.out M5.out BWD.out.size (fun i hi => HFBW.out i hi))
        clear fr5 g5 hv5 frs5 frs6 TG T4 HLT1 HV1 M4 HO HG HST HF HMD BWR
        go_wp2_with fail
        refine EQ.out.mono ?_
        rintro e w7 ⟨rfl, k7⟩
        have B7 := Lib.hid (B5.out.trans (k7.mono B5.out.size))
        clear k7 EQ
        go_wp2_with fail
        go_ret
        exact ⟨rfl, B7.out⟩

set_option maxHeartbeats 4000000 in
set_option maxRecDepth 100000 in
theorem StreamCuts_true (kind : Int) (r1 : Int.tmod (IntKind.u64.wrap kind) 2 = 1) (A : Option Addr) (L : List Bs) (c : Nat) (Ac : Option Addr) (cuts : List Int) (cc : Nat) (t : Int) (w : World) (hL : Byss w A L) (hm : L.length ≤ 9223372036854775807) (hC : Nts w Ac cuts) (hcm : cuts.length ≤ 9223372036854775807) (ht : 0 ≤ t ∧ t ≤ 18446744073709551615) (hM : MaxL w) : Calls Tryz.prog 3 #[.int .i64 kind, .slice A L.length c, .slice Ac cuts.length cc, .int .u64 t] w fun e w' => e = .returned (.bool true) ∧ Below w.heap.size w w' := by
  have HL := Lib.hid hL
  have HC := Lib.hid hC
  have HM9 := Lib.hid hM
  have HTT := Lib.hid ht
  obtain ⟨n, hn⟩ : ∃ n, n = L.length := ⟨_, rfl⟩
  obtain ⟨nc, hnc⟩ : ∃ n, n = cuts.length := ⟨_, rfl⟩
  rw [← hn, ← hnc]
  rw [← hn] at hm
  rw [← hnc] at hcm
  have HN := Lib.hid hn
  have HNC := Lib.hid hnc
  have NEW := Lib.hid (fun W => newK_any true W)
  simp only [if_true] at NEW
  have KW := Lib.hid (Below.alloc (Below.refl w.heap.size w) (Nat.le_refl _) (.cells #[.int .i64 1, .int .i64 2] 3))
  clear hL hC hn hnc hM ht
  go_enter Tryz.func3, Tryz.ntmps3
  go_wp2_with fail
  refine (NEW.out _).mono ?_
  rintro e w1 ⟨ga, Fa, rfl, ka, sta, hFa⟩
  have KA := Lib.hid (KW.out.trans (ka.mono (by simp)))
  have STA := Lib.hid sta
  have HFA : Hid (∀ j, Fa j → w.heap.size ≤ j ∧ j < w1.heap.size) := Lib.hid (fun j hj => ⟨by have := hFa j hj; simp at this; omega, sta.lt j hj⟩)
  clear ka sta hFa KW
  go_wp2_with fail
  refine (NEW.out _).mono ?_
  rintro e w3 ⟨gb, Fb, rfl, kb, stb, hFb⟩
  have K3 := Lib.hid (KA.out.trans (kb.mono KA.out.size))
  have STA3 := Lib.hid (STA.out.on kb)
  have STB := Lib.hid stb
  have HFB : Hid (∀ j, Fb j → w1.heap.size ≤ j ∧ j < w3.heap.size) := Lib.hid (fun j hj => ⟨hFb j hj, stb.lt j hj⟩)
  have SZ13 := Lib.hid kb.size
  have SZ0 := Lib.hid KA.out.size
  clear kb stb hFb STA NEW KA
  go_upto_block 0 with fail
  go_cut [13] (fun s13 wx => OwnB wx w3.heap.size s13 (askKs true (prsK 200 (chK t) L (min n 9))) ∧ Below w3.heap.size w3 wx)
  case first =>
    go_wp2_with fail
    go_loopw [13, 48] (fun v13 v48 wr => ∃ (k : Nat) (A5 : Option Addr) (c5 : Nat), v48 = .int .i64 k ∧ k ≤ n ∧ k ≤ 9 ∧ v13 = .slice A5 (askKs true (prsK 200 (chK t) L k)).length c5 ∧ OwnB wr w3.heap.size v13 (askKs true (prsK 200 (chK t) L k)) ∧ Below w3.heap.size w3 wr) (fun _ v48 _ => n - (intOf v48).toNat)
    case atStart => exact ⟨0, none, 0, rfl, by omega, by omega, rfl, .inl ⟨rfl, rfl⟩, Below.refl _ _⟩
    case round =>
      obtain ⟨k, A5, c5, rfl, hk, hk9, rfl, ho, hB⟩ := hrel
      by_cases hlt : k < n
      · have hlt' : (k : Int) < (n : Int) := by omega
        have kL : k < L.length := by have := HN.out; omega
        have HBW := Lib.hid (K3.out.trans (hB.mono K3.out.size))
        obtain ⟨g1, o1, rfl, hc1⟩ := HL.out (by omega)
        obtain ⟨a1, d1, C1, D1, hd1, hm1, hn1⟩ := hc1 k kL
        have C1' := cell_on C1 HBW.out
        by_cases h20 : (8 : Int) < (k : Int)
        · have hk2 : k = 9 := by omega
          subst hk2
          have HF : Hid (OwnB wr w3.heap.size (.slice A5 (askKs true (prsK 200 (chK t) L 9)).length c5) (askKs true (prsK 200 (chK t) L (min n 9))) ∧ Below w3.heap.size w3 wr) := Lib.hid (by
            rw [show min n 9 = 9 by omega]
            exact ⟨ho, hB⟩)
          generalize L[9] = y at *
          generalize (askKs true (prsK 200 (chK t) L 9)).length = m at *
          clear ho hB hc1 C1 D1
          go_wp2_with fail
          go_meet
          exact HF.out
        · have h20' : ¬ (k : Int) > 8 := by omega
          have htk := prsK_snoc 200 (chK t) L kL
          obtain ⟨W, hW⟩ : ∃ W, W = prsK 200 (chK t) L k := ⟨_, rfl⟩
          have hWl : W.length = k := by rw [hW, prsK_len]
          have hWe : (askKs true W).length ≤ 28800 := by
            have := askKs_len true W (by rw [hW]; exact prsK_le 200 (by omega) (chK t) L k)
            rw [hWl] at this
            omega
          rw [← hW] at ho htk
          generalize hyy : L[k] = y at *
          obtain ⟨z, hz⟩ : ∃ z, z = y.take 200 := ⟨_, rfl⟩
          rw [← hz] at htk
          obtain ⟨ly, hly⟩ : ∃ n, n = y.length := ⟨_, rfl⟩
          obtain ⟨lz, hlz⟩ : ∃ n, n = z.length := ⟨_, rfl⟩
          have hlz2 : lz = min ly 200 := by rw [hlz, hz, List.length_take, hly]; omega
          have sp := slice_pre a1 y d1 (min ly 200) (min (ly : Int) 200) (by omega) hd1 (by omega)
          have e1 : y.take (min ly 200) = z := by rw [hz, List.take_eq_take_iff]; omega
          rw [e1, ← hlz, ← hly] at sp
          have hmin : min (ly : Int) 200 = (lz : Int) := by omega
          rw [hmin] at sp
          have sz0 : Sl w a1 d1 z := by rw [hz]; exact ⟨D1.pre 200, by rw [List.length_take]; omega, hm1, hn1⟩
          have hlz5 : z.length ≤ 65535 := by rw [← hlz]; omega
          obtain ⟨cb, hcb⟩ : ∃ cb, cb = chK t k := ⟨_, rfl⟩
          have E0 := Lib.hid (encK_any a1 z d1 cb wr (sz0.on HBW.out) hlz5)
          have E1 := Lib.hid (fun W (kk : Below wr.heap.size wr W) => rAsk_any a1 z d1 cb W (sz0.on (HBW.out.trans (kk.mono HBW.out.size))) hlz5)
          rw [← hlz] at E1
          have hrm : Int.tmod (k : Int) 32 = (k : Int) := Int.tmod_eq_of_lt (by omega) (by omega)
          have hbit : (bits .and .u64 (t / 2 ^ k) 1 == 1) = cb := hcb.symm
          rw [← hcb] at htk
          clear hcb
          rw [← hlz] at E0
          rw [← hly] at C1'
          have HO := Lib.hid ho
          have HB := Lib.hid hB
          have HTK := Lib.hid htk
          have HLZ := Lib.hid hlz
          have HLZ5 : Hid (z.length ≤ 500) := Lib.hid (by rw [← hlz]; omega)
          have HMIN := Lib.hid hmin
          have szr := hB.size
          obtain ⟨me, hme⟩ : ∃ m, m = (askKs true W).length := ⟨_, rfl⟩
          rw [← hW, ← hme]
          rw [← hme] at HO hWe
          have HME := Lib.hid hme
          clear ho hB htk hlz hly hWl hlz2 e1 sz0 hz hW hme hc1 C1 D1 hd1 hm1 hn1 hyy kL hlz5
          go_wp2_with fail
          refine E0.out.mono ?_
          rintro e w4 ⟨v, rfl, hv, k4⟩
          obtain ⟨Af, cf, rfl, sf⟩ := hv.bysN
          have K4 := Lib.hid k4
          clear hv sf k4 E0
          go_wp2_with fail
          go_region_with (first | (go_at_call 6; (with_reducible refine (E1.out _ (by first | exact K4.out | exact Below.drew K4.out)).mono ?_); rintro e w5 ⟨v5, rfl, hv, k5⟩))
          obtain ⟨Af, cf, rfl, sf⟩ := hv.bysN
          have k1 : Below wr.heap.size wr w5 := by first | exact Below.trans K4.out (k5.mono K4.out.size) | exact Below.trans (Below.drew K4.out) (k5.mono K4.out.size)
          replace hv := hv
          clear k5 E1 K4
          have hfl0 := askK_len true cb z HLZ5.out
          obtain ⟨fl, hfl⟩ : ∃ n, n = (askK true cb z).length := ⟨_, rfl⟩
          rw [← hfl]
          rw [← hfl] at hfl0
          have O1 := Lib.hid (HO.out.below k1 (Nat.le_refl _))
          have B1 := Lib.hid (Below.trans HB.out (k1.mono szr))
          have SF := Lib.hid sf
          have HFL := Lib.hid hfl
          have sz1 : w3.heap.size ≤ w5.heap.size := Nat.le_trans szr k1.size
          have hfl3 : fl ≤ 3200 := hfl0.1
          clear hv sf hfl hfl0 k1 HO HB HBW
          go_wp2_with (first
            | (at_builtin; refine wpList_append_bys rfl (.tmp 83) (.tmp 84) rfl w3.heap.size _ (askKs true W) rfl O1.out Af cf fl (askK true cb z) rfl HFL.out SF.out.bys SF.out.nil (by have := HFL.out; have := HME.out; omega) sz1 ?_)
            | fail)
          intro v5 w6 ho2 hg2 hf2
          obtain ⟨A5', c5', rfl, -⟩ := ho2.bysN
          have b2 : Below w3.heap.size w3 w6 := B1.out.grown hg2 sz1 (fun j hj => (O1.out.lt j hj).1)
          have es : askKs true W ++ askK true cb z = askKs true (prsK 200 (chK t) L (k + 1)) := by rw [HTK.out, askKs_snoc]
          rw [es] at ho2
          rw [es]
          have O2 := Lib.hid ho2
          have B2 := Lib.hid b2
          obtain ⟨m2, hm2⟩ : ∃ m, m = (askKs true (prsK 200 (chK t) L (k + 1))).length := ⟨_, rfl⟩
          rw [← hm2]
          rw [← hm2] at O2
          have HM2 := Lib.hid hm2
          clear ho2 hg2 hf2 b2 es hm2 O1 B1 SF
          go_wp2_with fail
          go_roundw
          case rel => exact ⟨k + 1, A5', c5', by go_num, by omega, by omega, by rw [← HM2.out], O2.out, B2.out⟩
          case measure => simp [intOf]; omega
      · have hlt' : ¬ (k : Int) < (n : Int) := by omega
        have hkn : k = n := by omega
        have HF : Hid (OwnB wr w3.heap.size (.slice A5 (askKs true (prsK 200 (chK t) L k)).length c5) (askKs true (prsK 200 (chK t) L (min n 9))) ∧ Below w3.heap.size w3 wr) := Lib.hid (by
          rw [show min n 9 = k by omega]
          exact ⟨ho, hB⟩)
        generalize (askKs true (prsK 200 (chK t) L k)).length = m at *
        clear ho hB hkn
        go_wp2_with fail
        go_meet
        exact HF.out
  case rest =>
    obtain ⟨ho, hB⟩ := hcut
    have hPl : (prsK 200 (chK t) L (min n 9)).length = min n 9 := prsK_len _ _ _ _
    have hPy := prsK_le 200 (by omega) (chK t) L (min n 9)
    generalize prsK 200 (chK t) L (min n 9) = P at *
    obtain ⟨W, hW⟩ : ∃ W, W = txsH P := ⟨_, rfl⟩
    have hWl : W.length = min n 9 := by rw [hW, ← hPl]; simp [txsH]
    obtain ⟨x0, hx0⟩ : ∃ x, x = askKs true P := ⟨_, rfl⟩
    have LK0 : LeftK 28800 (startK true) x0 [] W := by rw [hx0, hW]; exact LeftK.start true P hPy (by omega)
    obtain ⟨la1, la2, -⟩ := LK0.all
    rw [List.nil_append] at la2
    rw [← hx0] at ho
    have hxl : x0.length ≤ 28800 := by have := LK0.1; omega
    obtain ⟨A5, c5, rfl, s5⟩ := ho.bysN
    have hA5 : ∀ a, A5 = some a → w3.heap.size ≤ a.block ∧ a.block < wc.heap.size := fun a ha => by subst ha; exact ho.lt a.block rfl
    have szc := hB.size
    have BWC := K3.out.trans (hB.mono K3.out.size)
    have hfa := HFA.out
    have hfb := HFB.out
    have h13 := SZ13.out
    have offA : Off Fa A5 := fun a ha e => by have h1 := hA5 a ha; have h2 := hfa _ e; omega
    have offB : Off Fb A5 := fun a ha e => by have h1 := hA5 a ha; have h2 := hfb _ e; omega
    have FDA := Lib.hid (feedS_any ga Fa (startK true) x0 A5 c5 wc (STA3.out.on hB) s5 offA (HM9.out.on BWC) (fun e => by have h1 := hfa _ e; have h2 := HM9.out.lt; omega) la1 (by have := LK0.1; omega) (by rw [la2, hWl]; omega))
    have FPA : Hid (∀ e w', FeedKP wc Fa ga (startK true) x0 e w' → ∃ v, e = .returned v ∧ Mod Fa wc w' ∧ FrS w' Fb v W) := Lib.hid (fun e w' h => by
      obtain ⟨v, F', h1, -, h3, h4, h5⟩ := h
      rw [la2] at h5
      exact ⟨v, h1, h3, h5.wide (fun i hi => .inl (.inr ⟨by have := hfb i hi; omega, fun e => by have h1 := hfa i e; have h2 := hfb i hi; omega⟩))⟩)
    have STBC := Lib.hid (STB.out.on hB)
    have HBWC := Lib.hid BWC
    have HHB := Lib.hid hB
    have HS5 := Lib.hid s5
    have HOFA := Lib.hid offA
    have HA5 := Lib.hid hA5
    have HLK := Lib.hid LK0
    have HWL := Lib.hid hWl
    obtain ⟨me, hme⟩ : ∃ m, m = x0.length := ⟨_, rfl⟩
    rw [← hme] at FDA ⊢
    have HME := Lib.hid hme
    have SZC := Lib.hid szc
    clear ho hB hPy hPl LK0 la1 la2 hxl s5 hA5 szc BWC hfa hfb h13 offA offB hW hWl hx0 hme STA3 STB
    go_wp2_with fail
    with_reducible refine FDA.out.mono ?_
    intro e wd hq
    obtain ⟨v18, rfl, mA, frW⟩ := FPA.out e wd hq
    have szd := mA.size
    obtain ⟨A18, c18, rfl⟩ := frW.sl
    have BWD := Lib.hid (Mod.out HBWC.out mA HBWC.out.size (fun i hi => (HFA.out i hi).1))
    have STD := Lib.hid (STBC.out.mod mA (fun i hi e => by have h1 := HFA.out i e; have h2 := HFB.out i hi; omega))
    have SD : Hid (Sl wd A5 c5 x0) := Lib.hid (HS5.out.modK mA (fun _ => HOFA.out))
    have FRW := Lib.hid frW
    have SZD := Lib.hid szd
    have HFBW : Hid (∀ i, Fb i → w.heap.size ≤ i) := Lib.hid (fun i hi => Nat.le_trans SZ0.out (HFB.out i hi).1)
    obtain ⟨mw, hmw⟩ : ∃ m, m = W.length := ⟨_, rfl⟩
    rw [← hmw]
    have HMW := Lib.hid hmw
    have hmn : min (n : Int) 9 = (mw : Int) := by have := HWL.out; omega
    clear hq mA frW szd FDA FPA hmw STBC
    go_wp2_with fail
    go_loopw [13, 19, 92] (fun v13 v19 v92 wr => ∃ (j : Nat) (A : Option Addr) (c : Nat) (x : Bs) (K : Ks) (F : Nat → Prop) (G : List Bs), v92 = .int .i64 j ∧ j ≤ nc ∧ v13 = .slice A x.length c ∧ Hid (Sl wd A c x) ∧ Hid (∀ a, A = some a → w3.heap.size ≤ a.block ∧ a.block < wc.heap.size) ∧ Hid (StM wr F gb K) ∧ Hid (∀ i, F i → Fb i ∨ wd.heap.size ≤ i) ∧ Hid (FrS wr F v19 G) ∧ Hid (∀ i, v19.ownBlock = some i → wd.heap.size ≤ i) ∧ Hid (Mod Fb wd wr) ∧ Hid (LeftK 28800 K x G W)) (fun _ _ v92 _ => nc - (intOf v92).toNat)
    case atStart => exact ⟨0, A5, c5, x0, startK true, Fb, [], rfl, by omega, by rw [HME.out], SD, HA5, STD, Lib.hid (fun i hi => .inl hi), Lib.hid (FrS.nil _ _), Lib.hid (fun i hi => by simp [Value.ownBlock] at hi), Lib.hid (Mod.refl _ _), HLK⟩
    case round =>
      obtain ⟨j, A, c, x, K, F, G, rfl, hj, rfl, HX, HXA, HST, HF, HG, HO, HMD, HT⟩ := hrel
      rename World => wr
      clear SD HA5 STD HLK
      have BWR := Lib.hid (Mod.out BWD.out HMD.out BWD.out.size (fun i hi => HFBW.out i hi))
      have szr := HMD.out.size
      have hoffF : ∀ {B : Option Addr}, (∀ a, B = some a → w3.heap.size ≤ a.block ∧ a.block < wc.heap.size) → Off F B := fun {B} hb a ha e => by
        have h1 := hb a ha
        have h2 := SZD.out
        rcases HF.out _ e with h | h
        · have h3 := HFB.out _ h; omega
        · omega
      have slr : Sl wr A c x := HX.out.modK HMD.out (fun _ a ha e => by have h1 := HXA.out a ha; have h3 := HFB.out _ e; omega)
      have hmaxF : ¬ F (Tryz.lays146_ren.g 1) := fun e => by
        have h2 := HM9.out.lt
        rcases HF.out _ e with h | h
        · have := HFBW.out _ h; omega
        · have h3 := BWD.out.size; omega
      have hlk := HT.out
      have hWn := HWL.out
      obtain ⟨m, hm⟩ : ∃ m, m = x.length := ⟨_, rfl⟩
      by_cases hlt : j < nc
      · have hlt' : (j : Int) < (nc : Int) := by omega
        have kL : j < cuts.length := by have := HNC.out; omega
        obtain ⟨gc, oc, hAc, hcc⟩ := (HC.out.on BWR.out) (by omega)
        have C1 := hcc j kL
        subst hAc
        obtain ⟨z, hz0⟩ : ∃ z, z = cuts[j] := ⟨_, rfl⟩
        rw [← hz0] at C1
        obtain ⟨q, q1, q2, -, q4, -⟩ := rem_u64 z 60 (by omega) (by omega)
        replace q1 : Int.tmod (IntKind.u64.wrap z) 60 = (q : Int) := q1
        obtain ⟨N, hN⟩ : ∃ N, N = min q m := ⟨_, rfl⟩
        have hmin : min (q : Int) (m : Int) = (N : Int) := by omega
        have hNm : N ≤ x.length := by omega
        have sp := slice_pre A x c N N hNm slr.le rfl
        obtain ⟨A2, lo, s2, pl2⟩ := HX.out.rest N N hNm rfl
        have s1 : Sl wr A c (x.take N) := ⟨slr.bys.pre N, by rw [List.length_take]; have := slr.le; omega, slr.max, slr.nil⟩
        have lx : (x.take N).length = N := by rw [List.length_take]; omega
        rw [lx] at sp
        obtain ⟨l1, l2⟩ := hlk.step N
        have lc := hlk.cnt N
        have FD := Lib.hid (feedS_any gb F K (x.take N) A c wr HST.out s1 (hoffF HXA.out) (HM9.out.on BWR.out) hmaxF l1 (by have := hlk.1; rw [lx]; omega) (by omega))
        rw [lx] at FD
        obtain ⟨y, hy⟩ : ∃ y, y = x.drop N := ⟨_, rfl⟩
        rw [← hy] at lo s2 l2
        have HA2 : Hid (∀ a, A2 = some a → w3.heap.size ≤ a.block ∧ a.block < wc.heap.size) := Lib.hid (fun a ha => by
          obtain ⟨a', ha', hb'⟩ := pl2 a ha
          rw [hb']
          exact HXA.out a' ha')
        obtain ⟨R1, hR1⟩ : ∃ z, z = (feedK K (x.take N)).2 := ⟨_, rfl⟩
        obtain ⟨K1, hK1⟩ : ∃ z, z = (feedK K (x.take N)).1 := ⟨_, rfl⟩
        rw [← hR1] at l2 lc
        rw [← hK1] at l2
        have FO : Hid (∀ e w', FeedKP wr F gb K (x.take N) e w' → ∃ v F1, e = .returned v ∧ StM w' F1 gb K1 ∧ Mod F wr w' ∧ (∀ j, F1 j → F j ∨ wr.heap.size ≤ j) ∧ FrS w' (fun k => F1 k ∨ (k < wr.heap.size ∧ ¬ F k)) v R1) := Lib.hid (fun e w' h => by
          rw [hR1, hK1]
          exact h)
        obtain ⟨my, hmy⟩ : ∃ n, n = y.length := ⟨_, rfl⟩
        rw [← hm] at sp lo ⊢
        rw [← hmy] at lo
        have HMY := Lib.hid hmy
        have HS2 := Lib.hid s2
        have HL2 := Lib.hid l2
        have HLC : Hid ((G.length + R1.length) * 32 ≤ 140737488355328) := Lib.hid (by omega)
        have SZR := Lib.hid szr
        clear s1 s2 lx pl2 hy hmy hcc kL hz0 l1 l2 lc hR1 hK1 slr hoffF hmaxF hlk hWn HT hm hNm hN q2 szr
        go_wp2_with fail
        with_reducible refine FD.out.mono ?_
        intro e w4 hfd
        obtain ⟨v4, F1, rfl, st4, m4, hF1, fr4⟩ := FO.out e w4 hfd
        have sz4 := m4.size
        have TG0 : FrS w4 F1 u19 G := ((HG.out.wide (S' := fun i => F i ∨ wr.heap.size ≤ i) (fun i hi => hi)).mod m4 (fun i hi => .inl hi)).wide (fun i hi => .inl (hF1 i hi))
        have TG := Lib.hid TG0
        have T4 := Lib.hid fr4
        have HLT1 := Lib.hid st4.lt
        have HV1 : Hid (∀ i, u19.ownBlock = some i → F1 i ∨ (i < wr.heap.size ∧ ¬ F i)) := Lib.hid (fun i hi => .inr ⟨HG.out.lt i hi, fun e => by obtain ⟨_, _, off, _⟩ := HG.out; exact off i hi e⟩)
        have ST4 := Lib.hid st4
        have M4 := Lib.hid (HMD.out.trans m4 (fun i hi => HF.out i hi))
        have HF1 : Hid (∀ i, F1 i → Fb i ∨ wd.heap.size ≤ i) := Lib.hid (fun i hi => by
          rcases hF1 i hi with h | h
          · exact HF.out i h
          · have := SZR.out; exact .inr (by omega))
        have SZ4 := Lib.hid sz4
        clear hfd st4 m4 hF1 fr4 sz4 TG0 FD FO sp
        go_wp2_with (first
          | (at_builtin; refine wpList_app_frs rfl (.tmp 103) (.tmp 108) rfl (S := F1) (S2 := fun k => F1 k ∨ (k < wr.heap.size ∧ ¬ F k)) (L := G) (L2 := R1) rfl rfl TG.out T4.out (fun k hk => .inl hk) HLT1.out HV1.out HLC.out ?_)
          | fail)
        intro v5 w5 fr5 g5 hv5
        have ST5 := Lib.hid (ST4.out.mod (S := fun i => u19.ownBlock = some i) (Mod.grown g5 (fun i e => e)) (fun i hi e => by obtain ⟨_, _, off, _⟩ := TG.out; exact off i e hi))
        have M5 := Lib.hid (M4.out.trans (S' := fun i => u19.ownBlock = some i) (Mod.grown g5 (fun i e => e)) (fun i e => .inr (HO.out i e)))
        have HO5 : Hid (∀ i, v5.ownBlock = some i → wd.heap.size ≤ i) := Lib.hid (fun i hi => by
          rcases hv5 i hi with h | h
          · exact HO.out i h
          · have h1 := SZR.out; have h2 := SZ4.out; omega)
        have FR5 := Lib.hid fr5
        clear fr5 g5 hv5 TG T4 HLT1 HV1 ST4 M4 HO HG HST HF HMD BWR
        go_wp2_with fail
        go_roundw
        case rel => exact ⟨j + 1, A2, c - N, y, K1, F1, G ++ R1, by go_num, by omega, by rw [← HMY.out], HS2, HA2, ST5, HF1, FR5, HO5, M5, HL2⟩
        case measure => simp [intOf]; omega
      · have hlt' : ¬ (j : Int) < (nc : Int) := by omega
        obtain ⟨l1, l2, -⟩ := hlk.all
        have lc := congrArg List.length l2
        rw [List.length_append] at lc
        have FD := Lib.hid (feedS_any gb F K x A c wr HST.out slr (hoffF HXA.out) (HM9.out.on BWR.out) hmaxF l1 (by have := hlk.1; omega) (by omega))
        obtain ⟨R1, hR1⟩ : ∃ z, z = (feedK K x).2 := ⟨_, rfl⟩
        rw [← hR1] at l2 lc
        have FO : Hid (∀ e w', FeedKP wr F gb K x e w' → ∃ v F1, e = .returned v ∧ StM w' F1 gb (feedK K x).1 ∧ Mod F wr w' ∧ (∀ j, F1 j → F j ∨ wr.heap.size ≤ j) ∧ FrS w' (fun k => F1 k ∨ (k < wr.heap.size ∧ ¬ F k)) v R1) := Lib.hid (fun e w' h => by
          rw [hR1]
          exact h)
        rw [← hm] at FD ⊢
        have HLC : Hid ((G.length + R1.length) * 32 ≤ 140737488355328) := Lib.hid (by omega)
        have HGR := Lib.hid l2
        have SZR := Lib.hid szr
        clear l1 l2 lc hR1 slr hoffF hmaxF hlk hWn HT hm szr
        go_wp2_with fail
        with_reducible refine FD.out.mono ?_
        intro e w4 hfd
        obtain ⟨v4, F1, rfl, st4, m4, hF1, fr4⟩ := FO.out e w4 hfd
        have sz4 := m4.size
        have TG0 : FrS w4 F1 u19 G := ((HG.out.wide (S' := fun i => F i ∨ wr.heap.size ≤ i) (fun i hi => hi)).mod m4 (fun i hi => .inl hi)).wide (fun i hi => .inl (hF1 i hi))
        have TG := Lib.hid TG0
        have T4 := Lib.hid fr4
        have HLT1 := Lib.hid st4.lt
        have HV1 : Hid (∀ i, u19.ownBlock = some i → F1 i ∨ (i < wr.heap.size ∧ ¬ F i)) := Lib.hid (fun i hi => .inr ⟨HG.out.lt i hi, fun e => by obtain ⟨_, _, off, _⟩ := HG.out; exact off i hi e⟩)
        have M4 := Lib.hid (HMD.out.trans m4 (fun i hi => HF.out i hi))
        clear hfd st4 m4 hF1 fr4 sz4 TG0 FD FO
        go_wp2_with (first
          | (at_builtin; refine wpList_app_frs rfl (.tmp 114) (.tmp 117) rfl (S := F1) (S2 := fun k => F1 k ∨ (k < wr.heap.size ∧ ¬ F k)) (L := G) (L2 := R1) rfl rfl TG.out T4.out (fun k hk => .inl hk) HLT1.out HV1.out HLC.out ?_)
          | fail)
        intro v5 w5 fr5 g5 hv5
        have M5 := Lib.hid (M4.out.trans (S' := fun i => u19.ownBlock = some i) (Mod.grown g5 (fun i e => e)) (fun i e => .inr (HO.out i e)))
        rw [HGR.out] at fr5
        obtain ⟨A5', c5', rfl, frs5, -, -⟩ := fr5.frs
        obtain ⟨A6', c6', e6, frs6, -, -⟩ := (FRW.out.mod M5.out (fun i hi => hi)).frs
        injection e6 with e6a e6b e6c
        rw [← e6a] at frs6
        clear e6b e6c e6a
        have EQ := Lib.hid (sameFr_any A5' A18 W W c5' c18 w5 frs5 frs6 (by have := HWL.out; omega))
        rw [show (W == W) = true by simp, ← HMW.out] at EQ
        rw [← HMW.out]
        have B5 := Lib.hid (Mod.out BWD.out M5.out BWD.out.size (fun i hi => HFBW.out i hi))
        clear fr5 g5 hv5 frs5 frs6 TG T4 HLT1 HV1 M4 HO HG HST HF HMD BWR
        go_wp2_with fail
        refine EQ.out.mono ?_
        rintro e w7 ⟨rfl, k7⟩
        have B7 := Lib.hid (B5.out.trans (k7.mono B5.out.size))
        clear k7 EQ
        go_wp2_with fail
        go_ret
        exact ⟨rfl, B7.out⟩
theorem StreamCuts_any (kind : Int) (A : Option Addr) (L : List Bs) (c : Nat) (Ac : Option Addr) (cuts : List Int) (cc : Nat) (t : Int) (w : World) (hL : Byss w A L) (hm : L.length ≤ 9223372036854775807) (hC : Nts w Ac cuts) (hcm : cuts.length ≤ 9223372036854775807) (ht : 0 ≤ t ∧ t ≤ 18446744073709551615) (hM : MaxL w) : Calls Tryz.prog 3 #[.int .i64 kind, .slice A L.length c, .slice Ac cuts.length cc, .int .u64 t] w fun e w' => e = .returned (.bool true) ∧ Below w.heap.size w w' := by
  obtain ⟨q, r1, r2, -⟩ := rem_u64 kind 2 (by omega) (by omega)
  have hk : q = 0 ∨ q = 1 := by omega
  rcases hk with rfl | rfl
  · exact StreamCuts_false kind r1 A L c Ac cuts cc t w hL hm hC hcm ht hM
  · exact StreamCuts_true kind r1 A L c Ac cuts cc t w hL hm hC hcm ht hM
end Go.Proofs.YtjhameebehkdjaaGreat
