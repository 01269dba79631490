/-
  The walk of PrefixLives.
-/
import Derived.Test.YtdifemaidngnjaaPfO
import Derived.Test.YtdifemaidngnjaaPfH
namespace Go.Proofs.Ytdifemaidngnjaa
open Go.RowKit
set_option linter.unusedVariables false
set_option maxRecDepth 100000

/-- How many bytes the first k texts have. -/
def totP (L : List Bs) (k : Nat) : Nat := ((L.take k).map List.length).sum
theorem totP_succ (L : List Bs) (k : Nat) (h : k < L.length) : totP L (k + 1) = totP L k + (L[k]).length := by
  unfold totP
  rw [List.take_add_one, List.getElem?_eq_getElem h]
  simp only [Option.toList, List.map_append, List.sum_append, List.map_cons, List.map_nil, List.sum_cons, List.sum_nil, Nat.add_zero]
theorem totP_le (L : List Bs) (k : Nat) : totP L k ≤ (L.map List.length).sum := by
  unfold totP
  have e : (L.map List.length).sum = ((L.take k).map List.length).sum + ((L.drop k).map List.length).sum := by
    rw [← List.sum_append, ← List.map_append, List.take_append_drop]
  omega

/-- What the two readers are. -/
def Two2 (PR : RdrP) (w : World) (p : Value) (g : Nat) (st : Bs) (wr : World) : Prop := ∃ (F : Nat → Prop) (vx : Value), PR wr F p st ∧ PX wr g vx st ∧ (∀ i, F i → w.heap.size ≤ i) ∧ w.heap.size ≤ g ∧ ¬ F g ∧ (∀ i, vx.ownBlock = some i → w.heap.size ≤ i ∧ ¬ F i) ∧ Below w.heap.size w wr

set_option maxHeartbeats 4000000 in
set_option maxRecDepth 100000 in
theorem PrefixLives_any {PR : RdrP} (I : PfI PR) (A : Option Addr) (L : List Bs) (c : Nat) (w : World) (hL : Byss w A L) (hm : L.length ≤ 9223372036854775807) (hT : (L.map List.length).sum ≤ 4398046511000) : Calls Try.prog 3 #[.slice A L.length c] w fun e w' => e = .returned (.bool true) ∧ Below w.heap.size w w' := by
  have HL := Lib.hid hL
  obtain ⟨n, hn⟩ : ∃ n, n = L.length := ⟨_, rfl⟩
  rw [← hn]
  rw [← hn] at hm
  have HN := Lib.hid hn
  have HTT := Lib.hid hT
  clear hL hn hT
  go_enter Try.func3, Try.ntmps3
  go_wp2_with fail
  refine (I.new _).mono ?_
  rintro e wn ⟨p, F0, rfl, hp0, k0, hF0⟩
  have bq : Below wn.heap.size wn (wn.alloc (.cells #[.slice none 0 0] 28 (0, 0))) := Below.alloc (Below.refl _ _) (Nat.le_refl _) _
  have T0 : Hid (Two2 PR w p wn.heap.size [] (wn.alloc (.cells #[.slice none 0 0] 28 (0, 0)))) := Lib.hid ⟨F0, .slice none 0 0, I.on hp0 bq, ⟨row_new _ rfl, .inl ⟨rfl, rfl⟩, by simp [Value.ownBlock]⟩, hF0, k0.size, fun e => by have := I.lt hp0 _ e; omega, fun i hi => by simp [Value.ownBlock] at hi, Below.trans k0 (bq.mono k0.size)⟩
  clear hp0 k0 hF0 bq
  go_wp2_with fail
  obtain ⟨g, hgg⟩ : ∃ g, g = wn.heap.size := ⟨_, rfl⟩
  obtain ⟨wz, hwz⟩ : ∃ z, z = wn.alloc (.cells #[.slice none 0 0] 28 (0, 0)) := ⟨_, rfl⟩
  rw [← hgg, ← hwz] at T0
  rw [← hgg, ← hwz]
  clear hgg hwz
  go_loopw [14] (fun v14 wr => ∃ (k : Nat) (st : Bs), v14 = .int .i64 k ∧ k ≤ n ∧ Two2 PR w p g st wr ∧ st.length ≤ totP L k) (fun v14 _ => n - (intOf v14).toNat)
  case atStart => exact ⟨0, [], rfl, by omega, T0.out, by simp⟩
  case round =>
    obtain ⟨k, st, rfl, hk, ⟨F, vx, hp, hx, hF, hgb, hFg, hvx, hB⟩, hst⟩ := hrel
    clear T0
    have szr := hB.size
    by_cases hlt : k < n
    · have hlt' : (k : Int) < (n : Int) := by omega
      have kL : k < L.length := by have := HN.out; omega
      obtain ⟨g1, o1, rfl, hc1⟩ := HL.out (by omega)
      obtain ⟨a1, d1, C1, D1, hd1, hm1, hn1⟩ := hc1 k kL
      have C1' := cell_on C1 hB
      have htot := totP_succ L k kL
      have htle := totP_le L (k + 1)
      generalize hyy : L[k] = y at *
      have hlen : st.length + y.length ≤ 4398046511000 := by have := HTT.out; omega
      have sy : Sl w a1 d1 y := ⟨D1, hd1, hm1, hn1⟩
      have sy1 := sy.on hB
      have hin := sy1.inside
      obtain ⟨ly, hly⟩ : ∃ n, n = y.length := ⟨_, rfl⟩
      rw [← hly] at C1'
      have CL := Lib.hid (CloneR_any a1 y ly d1 wr sy1.bys hly (by omega) (fun q hq h0 => hin q hq (by omega)))
      have HSY := Lib.hid sy1
      have HLY := Lib.hid hly
      have HP := Lib.hid hp
      have HX := Lib.hid hx
      have HF := Lib.hid hF
      have HFG := Lib.hid hFg
      have HVX := Lib.hid hvx
      have HB := Lib.hid hB
      have HST := Lib.hid hst
      have HLEN := Lib.hid hlen
      have HTOT := Lib.hid htot
      have hA1 : Hid (∀ a, a1 = some a → 0 < y.length → a.block < w.heap.size) := Lib.hid (fun a ha h0 => sy.inside a ha h0)
      clear hp hx hF hFg hvx hB hst hlen htot hc1 C1 D1 hd1 hm1 hn1 sy sy1 hin hly htle hyy
      go_wp2_with fail
      refine CL.out.mono ?_
      rintro e w1 ⟨v1, rfl, ho, -, k1⟩
      go_wp2_with fail
      obtain ⟨A1, c1, hv1, s1⟩ := ho.ownB.bysN
      have g1c := k1.size
      have glt : g < w1.heap.size := Nat.lt_of_lt_of_le (PX.lt HX.out) g1c
      have gwr : g < wr.heap.size := PX.lt HX.out
      have plt : ∀ k, F k → k < wr.heap.size := I.lt HP.out
      have plt1 : ∀ k, F k → k < w1.heap.size := fun k hk => Nat.lt_of_lt_of_le (plt k hk) g1c
      have offv1 : ∀ k, v1.ownBlock = some k → wr.heap.size ≤ k := fun k hk => (ho.lt k hk).1
      have offA1 : ∀ a, A1 = some a → wr.heap.size ≤ a.block := fun a ha => offv1 a.block (by rw [hv1, ha]; rfl)
      have hfg := HFG.out
      have FD1 := Lib.hid (fun W (h : PR W F p st) (h2 : Sl W A1 c1 y) => I.feed h h2 (fun a ha hf => by have := offA1 a ha; have := plt _ hf; omega) (Nat.le_trans HLEN.out (by omega)))
      rw [← hv1] at FD1
      have FD2 := Lib.hid (fun W (h : PX W g vx st) (h2 : Sl W a1 d1 y) => feed_ref g vx st y a1 d1 W h h2 (Nat.le_trans HLEN.out (by omega)))
      rw [← HLY.out] at FD2
      have HV1 := Lib.hid hv1
      have HO := Lib.hid ho
      have P1 := Lib.hid (I.on HP.out k1)
      have X1 : Hid (PX w1 g vx st) := Lib.hid ⟨(k1.block g (PX.lt HX.out)).trans HX.out.1, HX.out.2.1.below k1 (Nat.le_refl _), HX.out.2.2⟩
      have S1 := Lib.hid s1
      have HSY1 := Lib.hid (HSY.out.on k1)
      have B1 := Lib.hid (Below.trans HB.out (k1.mono szr))
      have hoff1 : OffV F vx := fun k hk e => (HVX.out k hk).2 e
      have hoffa : 0 < y.length → Off F a1 := fun h0 a ha e => by have := hA1.out a ha h0; have := HF.out _ e; omega
      have hoffg : Off (fun k => k = g) A1 := fun a ha e => by have := offA1 a ha; have := PX.lt HX.out; omega
      clear ho k1 hv1 s1 HP HX HSY HB CL hA1 offA1 C1' HL
      go_wp2_with fail
      refine wp_region_laneq 6 (by kernel_rfl) (by kernel_rfl) (by kernel_rfl) rfl (d := fun i => 20 + i) (R := R6 PR w1 F g p (st ++ y) v1 (.slice a1 ly d1)) (F := F6 PR w1 F g p st y A1 c1 vx a1 d1) (kill := kill6) (Rel := Rel6 F g) (fun i j hi hj e => ?_) (fun i hi => ?_) (fun i j v a b hij hr h => R6_st I glt hfg plt1 i j v a b hij hr h) (fun m j a b hm hr h => F6_st I hfg plt1 hoffg hoff1 hoffa m j a b hm hr h) (fun m => ?_) (fun i hi b a' w' hold hgot hfact hout hrd => ?_) (fun V w' hV hF => ?_)
      · omega
      · simp; omega
      · match m with
        | 0 => exact ⟨I.on P1.out (Below.drew (Below.refl _ _)), S1.out.on (Below.drew (Below.refl _ _))⟩
        | 1 => exact ⟨X1.out.mod (Mod.below (S := fun _ => False) (Below.drew (Below.refl _ _))) (fun e => e) (fun k hk e => e), HSY1.out.on (Below.drew (Below.refl _ _))⟩
        | 2 => exact ⟨⟨vx, st, X1.out.mod (Mod.below (S := fun _ => False) (Below.drew (Below.refl _ _))) (fun e => e) (fun k hk e => e), hoff1⟩, Mod.below (Below.drew (Below.refl _ _))⟩
        | _ + 3 => trivial
      · obtain ⟨hu, o, ho, hall⟩ := mem_ready.1 hrd
        have t3 : (a'.tmps[3]?).getD undef = p := slot_at ((hold 3 (fun i _ => by omega)).trans rfl)
        have t4 : (a'.tmps[4]?).getD undef = .pointer (some ⟨g, 0, none⟩) := slot_at ((hold 4 (fun i _ => by omega)).trans rfl)
        have t6 : (a'.tmps[6]?).getD undef = .slice a1 ly d1 := slot_at ((hold 6 (fun i _ => by omega)).trans rfl)
        have t7 : (a'.tmps[7]?).getD undef = v1 := slot_at ((hold 7 (fun i _ => by omega)).trans rfl)
        have same : ∀ j, j ≠ 2 → j ≠ 5 → Rel6 F g j w' w' := fun j h1 h2 => by unfold Rel6; rw [if_neg h1, if_neg h2]
        match i, hi with
        | 0, _ =>
          refine ⟨_, rfl, rfl, ?_⟩
          clear ho hall hrd hgot hfact hold
          unfold Oper.wp
          go_simp
          exact ⟨_, rfl, rfl⟩
        | 1, _ =>
          refine ⟨_, rfl, rfl, ?_⟩
          clear ho hall hrd hgot hfact hold
          unfold Oper.wp
          go_simp
          exact ⟨_, rfl, rfl⟩
        | 2, _ =>
          obtain rfl := Option.some.inj ho
          have h0 := both_true (hall ⟨0, .data⟩ (by simp) rfl)
          have h1 := both_true (hall ⟨1, .data⟩ (by simp) rfl)
          obtain ⟨v0, hv0, rfl⟩ := hgot 0 (by simp) h0
          obtain ⟨v1', hv1', rfl⟩ := hgot 1 (by simp) h1
          have s0 := slot_at (j := 20) hv0
          have s1 := slot_at (j := 21) hv1'
          obtain ⟨hpw, hsw⟩ : PR w' F v0 st ∧ Sl w' A1 c1 y := hfact 0 (getD_both hu)
          obtain ⟨⟨u, z, hpx, hou⟩, hM⟩ : (∃ u z, PX w' g u z ∧ OffV F u) ∧ Mod (fun k => F k ∨ k = g) w1 w' := hfact 2 (hout 100 (by omega))
          refine ⟨_, rfl, rfl, ?_⟩
          clear ho hall hrd hgot hfact hold hv0 hv1' h0 h1
          unfold Oper.wp
          go_simp
          refine (FD1.out _ hpw hsw).mono ?_
          rintro e w2 ⟨v, F', rfl, ht, hp', hM2, hF'⟩
          have szm := hM.size
          refine ⟨_, rfl, ⟨F', ht.wide (fun k hk => .inl (.inr ⟨by omega, hk.2⟩)), hp', fun k hk => (hF' k hk).imp id (fun h => by omega), fun u' y' hu' k hk e => ?_⟩, by unfold Rel6; rw [if_pos rfl]; exact hM2⟩
          have hu2 := hpx.mod hM2 hfg hou
          rw [hu'.same hu2] at hk
          rcases hF' k e with h | h
          · exact hou k hk h
          · have := (hpx.2.1.lt k hk).2; omega
        | 3, _ =>
          refine ⟨_, rfl, rfl, ?_⟩
          clear ho hall hrd hgot hfact hold
          unfold Oper.wp
          go_simp
          exact ⟨_, rfl, rfl⟩
        | 4, _ =>
          refine ⟨_, rfl, rfl, ?_⟩
          clear ho hall hrd hgot hfact hold
          unfold Oper.wp
          go_simp
          exact ⟨_, rfl, rfl⟩
        | 5, _ =>
          obtain rfl := Option.some.inj ho
          have h0 := both_true (hall ⟨3, .data⟩ (by simp) rfl)
          have h1 := both_true (hall ⟨4, .data⟩ (by simp) rfl)
          obtain ⟨v0, hv0, rfl⟩ := hgot 3 (by simp) h0
          obtain ⟨v1', hv1', rfl⟩ := hgot 4 (by simp) h1
          have s0 := slot_at (j := 23) hv0
          have s1 := slot_at (j := 24) hv1'
          obtain ⟨hpw, hsw⟩ : PX w' g vx st ∧ Sl w' a1 d1 y := hfact 1 (getD_both hu)
          obtain ⟨-, hM⟩ : (∃ u z, PX w' g u z ∧ OffV F u) ∧ Mod (fun k => F k ∨ k = g) w1 w' := hfact 2 (hout 100 (by omega))
          refine ⟨_, rfl, rfl, ?_⟩
          clear ho hall hrd hgot hfact hold hv0 hv1' h0 h1
          unfold Oper.wp
          go_simp
          refine (FD2.out _ hpw hsw).mono ?_
          rintro e w2 ⟨v, v', rfl, ht, hx', hg2, hf'⟩
          have szm := hM.size
          refine ⟨_, rfl, ⟨ht.lower szm, v', hx', fun k hk => by have := hf' k hk; omega⟩, ?_⟩
          unfold Rel6
          rw [if_neg (by omega), if_pos rfl]
          exact ⟨Mod.grown hg2 (fun k hk => by injection hk with hk; exact hk.symm), v', _, hx', hf'⟩
      · have u0 : V 0 = p := hV 0 (by omega)
        have u1 : V 1 = v1 := hV 1 (by omega)
        have u3 : V 3 = .pointer (some ⟨g, 0, none⟩) := hV 3 (by omega)
        have u4 : V 4 = .slice a1 ly d1 := hV 4 (by omega)
        obtain ⟨F', ht, hp', hF', hoff⟩ : ∃ F', TxS w' (fun k => k < w1.heap.size ∧ ¬ F k) (V 2) (feedP (st ++ y)).1 ∧ PR w' F' p (feedP (st ++ y)).2 ∧ (∀ k, F' k → F k ∨ w1.heap.size ≤ k) ∧ ∀ u z, PX w' g u z → OffV F' u := hV 2 (by omega)
        obtain ⟨ht5, u, hx', hu'⟩ : Txts w' w1.heap.size (V 5) (feedP (st ++ y)).1 ∧ ∃ u, PX w' g u (feedP (st ++ y)).2 ∧ ∀ k, u.ownBlock = some k → w1.heap.size ≤ k := hV 5 (by omega)
        obtain ⟨-, hM⟩ : (∃ u z, PX w' g u z ∧ OffV F u) ∧ Mod (fun k => F k ∨ k = g) w1 w' := hF 2 (by decide)
        have hfl := feed_len (st ++ y)
        rw [List.length_append] at hfl
        have hst2 : (feedP (st ++ y)).2.length ≤ totP L (k + 1) := by have := HST.out; have := HTOT.out; omega
        generalize (feedP (st ++ y)).1 = G at *
        generalize (feedP (st ++ y)).2 = st2 at *
        obtain ⟨A2, c2, e2, by2, le2, mx2, -⟩ := ht.byss
        obtain ⟨A5, c5, e5, by5, -⟩ := ht5.byss
        obtain ⟨Ax, cx, eu, -⟩ := hx'.2.1.bysN
        have ST := Lib.hid (fun (q : Regrown) => sameTexts_any A2 A5 G G c2 c5 (Go.Sort.grow (redrawn w' q.d) q.os) (by2.on (below_regrown w' q.d q.os)) (by5.on (below_regrown w' q.d q.os)) (by omega))
        rw [show (G == G) = true by simp] at ST
        have LF := Lib.hid (fun (q : Regrown) => I.left (I.on hp' (below_regrown w' q.d q.os)))
        have cg : ∀ d os, (Go.Sort.grow (redrawn w' d) os).cell? ⟨g, 0, none⟩ = some (.slice Ax st2.length cx) := fun d os => cell_regrown ((cell_of_row _ g 0 _ _ _ hx'.1).trans (by rw [eu]; rfl)) d os
        obtain ⟨nG, hnG⟩ : ∃ n, n = G.length := ⟨_, rfl⟩
        obtain ⟨ns, hns⟩ : ∃ n, n = st2.length := ⟨_, rfl⟩
        rw [← hnG] at ST e2 e5
        rw [← hns] at LF cg
        simp only [putAll, Act.put, u0, u1, e2, u3, u4, e5, Nat.reduceAdd, List.setIfInBounds_toArray, List.set_cons_succ, List.set_cons_zero, List.drop_succ_cons, List.drop_zero]
        have HP2 := Lib.hid hp'
        have HX2 := Lib.hid hx'
        have HU2 := Lib.hid hu'
        have HOF := Lib.hid (hoff u st2 hx')
        have HM2 := Lib.hid hM
        have HF2 := Lib.hid hF'
        have HST2 := Lib.hid hst2
        clear hV hF u0 u1 u3 u4 ht hp' hF' hoff ht5 hx' hu' hM e2 e5 by2 by5 eu hfl hst2 FD1 FD2 P1 X1 S1 HSY1 le2 mx2 hnG hns
        repeat (go_big_quiet_step (first
          | (go_at_call 11; exact Calls.regrown_of (ST.out _))
          | (go_at_call 14; exact Calls.regrown_of (LF.out _))))
        refine wpQuiet_nil ?_
        intro w3 hw3
        obtain ⟨q, hw3⟩ := hw3
        have K3 : Hid (Below w'.heap.size w' w3) := Lib.hid (by rw [hw3]; exact below_regrown w' q.d q.os)
        clear hw3 q ST LF cg
        have HSP : Hid (Calls Try.prog 15 #[.slice (some ⟨w3.heap.size, 0, none⟩) 1 1] (w3.alloc (.cells #[v1] 26 (0, 0))) fun e w' => e = .returned (.tuple #[]) ∧ Mod (fun k => v1.ownBlock = some k) (w3.alloc (.cells #[v1] 26 (0, 0))) w') := Lib.hid (by
          have h1 : OwnR w' wr.heap.size v1 y := own_mod HO.out HM2.out (fun k hk e => by
            have := offv1 k hk
            rcases e with e | e
            · have := plt k e; omega
            · omega)
          have h2 : OwnR (w3.alloc (.cells #[v1] 26 (0, 0))) 0 v1 y := own_zero ((h1.below K3.out).alloc _)
          exact spoil_any w3.heap.size v1 y _ ((cell_of_row _ _ 0 _ _ _ (row_new _ rfl)).trans rfl) h2 (fun e => by
            have h3 := (HO.out.lt _ e).2
            have h4 := HM2.out.size
            have h5 := K3.out.size
            omega))
        obtain ⟨n1, hn1⟩ : ∃ z, z = y.length := ⟨_, rfl⟩
        have hv := HV1.out
        rw [← hn1] at hv
        clear HV1 hn1
        subst hv
        go_wp2_with fail
        refine HSP.out.mono ?_
        rintro e w4 ⟨rfl, hM4⟩
        have bq : Below w3.heap.size w3 (w3.alloc (.cells #[.slice A1 n1 c1] 26 (0, 0))) := Below.alloc (Below.refl _ _) (Nat.le_refl _) _
        have bs1 := B1.out.size
        have bs2 := HM2.out.size
        have bs3 := K3.out.size
        have bv : ∀ k, (Value.slice A1 n1 c1).ownBlock = some k → wr.heap.size ≤ k ∧ k < w1.heap.size := HO.out.lt
        have M23 : Mod (fun k => (Value.slice A1 n1 c1).ownBlock = some k) w' w4 := ((Mod.below (S := fun k => (Value.slice A1 n1 c1).ownBlock = some k) K3.out).then bq).trans hM4 (fun k e => .inl e)
        have HTW : Hid (Two2 PR w p g st2 w4) := Lib.hid ⟨F', u, I.mod HP2.out M23 (fun k hk e => by
          have h1 := bv k e
          rcases HF2.out k hk with h | h
          · have := plt k h; omega
          · omega), HX2.out.mod M23 (fun e => by have := bv g e; omega) (fun k hk e => by have := bv k e; have := HU2.out k hk; omega), fun k hk => by
            rcases HF2.out k hk with h | h
            · exact HF.out k h
            · omega, hgb, fun e => by
            rcases HF2.out g e with h | h
            · exact HFG.out h
            · omega, fun k hk => ⟨by have := HU2.out k hk; omega, fun e => HOF.out k hk e⟩, Mod.out (Mod.out B1.out HM2.out (by omega) (fun k hk => by
              rcases hk with hk | hk
              · exact HF.out k hk
              · omega)) M23 (by omega) (fun k hk => by have := bv k hk; omega)⟩
        clear hM4 bq M23 HSP HM2 K3 HP2 HX2 HU2 HOF HF2 HO B1 bv
        go_wp2_with fail
        go_roundw
        case rel => exact ⟨k + 1, st2, by go_num, by omega, HTW.out, HST2.out⟩
        case measure => simp [intOf]; omega
    · have hlt' : ¬ (k : Int) < (n : Int) := by omega
      have szr := hB.size
      have hlen : st.length ≤ 4398046511000 := by have := totP_le L k; have := HTT.out; omega
      have plt : ∀ k, F k → k < wr.heap.size := I.lt hp
      have gwr : g < wr.heap.size := PX.lt hx
      have bq : Below wr.heap.size wr (wr.alloc (.cells #[.int .u8 0] 5 (0, 0))) := Below.alloc (Below.refl _ _) (Nat.le_refl _) _
      have FD : Hid (Calls Try.prog 12 #[p, .slice (some ⟨wr.heap.size, 0, none⟩) 1 1] (wr.alloc (.cells #[.int .u8 0] 5 (0, 0))) (FeedP PR (wr.alloc (.cells #[.int .u8 0] 5 (0, 0))) F p st [0])) := Lib.hid (I.feed (I.on hp bq) (Sl.made (l := [0]) rfl (by decide)) (fun a ha e => by injection ha with ha; subst ha; exact absurd (plt wr.heap.size e) (Nat.lt_irrefl _)) (by simp; omega))
      have HX := Lib.hid (hx.mod (Mod.below (S := fun _ => False) bq) (fun e => e) (fun k hk e => e))
      have HB := Lib.hid (Below.trans hB (bq.mono szr))
      have hvx1 : OffV F vx := fun k hk e => (hvx k hk).2 e
      have HLEN := Lib.hid hlen
      have szb := bq.size
      obtain ⟨wb, hwb⟩ : ∃ z, z = wr.alloc (.cells #[.int .u8 0] 5 (0, 0)) := ⟨_, rfl⟩
      have HWB := Lib.hid hwb
      rw [← hwb] at FD HX HB szb
      clear hp hx hB hlen bq hvx hwb hst
      go_wp2_with fail
      rw [← HWB.out]
      refine FD.out.mono ?_
      rintro e w1 ⟨v8, F', rfl, ht, hp', hM, hF'⟩
      have hx1 := HX.out.mod hM hFg hvx1
      have szm := hM.size
      obtain ⟨A8, c8, e8, by8, le8, mx8, -⟩ := ht.byss
      have B1 := Lib.hid (Mod.out HB.out hM (by omega) (fun k hk => hF k hk))
      have glt1 : g < w1.heap.size := PX.lt hx1
      have hF'g : ¬ F' g := fun e => by
        rcases hF' g e with h | h
        · exact hFg h
        · omega
      have FD2 := Lib.hid (fun W b (h : PX W g vx st) (h2 : W.heap[b]? = some (.cells #[.int .u8 0] 5 (0, 0))) => feed_ref g vx st [0] (some ⟨b, 0, none⟩) 1 W h (Sl.row h2) (by simp; have := HLEN.out; omega))
      have HT := Lib.hid ht
      have HP := Lib.hid hp'
      have X1 := Lib.hid hx1
      have E8 := Lib.hid e8
      have BY8 := Lib.hid by8
      have HFG := Lib.hid hFg
      clear ht hp' hM hF' hx1 e8 by8 FD HX HB HWB hF hFg hvx1 plt HL
      go_wp2_with fail
      refine wp_region_laneq 4 (by kernel_rfl) (by kernel_rfl) (by kernel_rfl) rfl (d := fun i => 45 + i) (R := R11 w1 g (st ++ [0]) v8) (F := F11 w1 g st vx) (kill := kill11) (Rel := Rel11 g) (fun i j hi hj e => ?_) (fun i hi => ?_) (fun i j v a b hij hr h => R11_st glt1 i j v a b hij hr h) (fun m j a b hm hr h => F11_st m j a b hm hr h) (fun m => ?_) (fun i hi b a' w' hold hgot hfact hout hrd => ?_) (fun V w' hV hF => ?_)
      · omega
      · simp; omega
      · match m with
        | 0 => exact X1.out.mod (Mod.below (S := fun _ => False) (Below.drew (Below.refl _ _))) (fun e => e) (fun k hk e => e)
        | 1 => exact Mod.below (Below.drew (Below.refl _ _))
        | _ + 2 => trivial
      · obtain ⟨hu, o, ho, hall⟩ := mem_ready.1 hrd
        have t4 : (a'.tmps[4]?).getD undef = .pointer (some ⟨g, 0, none⟩) := slot_at ((hold 4 (fun i _ => by omega)).trans rfl)
        have t8 : (a'.tmps[8]?).getD undef = v8 := slot_at ((hold 8 (fun i _ => by omega)).trans rfl)
        have hM : Mod (fun k => k = g) w1 w' := hfact 1 (hout 100 (by omega))
        have szw := hM.size
        have bel : ∀ {w'' : World} (j : Nat), j ≠ 3 → Below w'.heap.size w' w'' → Rel11 g j w' w'' := fun j h1 h => by unfold Rel11; rw [if_neg h1]; exact h
        match i, hi with
        | 0, _ =>
          refine ⟨_, rfl, rfl, ?_⟩
          clear ho hall hrd hgot hfact hold
          unfold Oper.wp
          go_simp
          exact ⟨_, rfl, rfl, bel 0 (by omega) (Below.refl _ _)⟩
        | 1, _ =>
          refine ⟨_, rfl, rfl, ?_⟩
          clear ho hall hrd hgot hfact hold
          unfold Oper.wp
          go_simp
          exact ⟨_, rfl, rfl, bel 1 (by omega) (Below.refl _ _)⟩
        | 2, _ =>
          refine ⟨_, rfl, rfl, ?_⟩
          clear ho hall hrd hgot hfact hold
          unfold Oper.wp
          go_simp
          exact ⟨_, rfl, ⟨_, rfl, row_new _ rfl, szw⟩, bel 2 (by omega) (Below.alloc (Below.refl _ _) (Nat.le_refl _) _)⟩
        | 3, _ =>
          obtain rfl := Option.some.inj ho
          have h0 := both_true (hall ⟨1, .data⟩ (by simp) rfl)
          have h1 := both_true (hall ⟨2, .data⟩ (by simp) rfl)
          obtain ⟨v0, hv0, rfl⟩ := hgot 1 (by simp) h0
          obtain ⟨v1, hv1, bb, rfl, hrow, -⟩ := hgot 2 (by simp) h1
          have s0 := slot_at (j := 46) hv0
          have s1 := slot_at (j := 47) hv1
          have hpw : PX w' g vx st := hfact 0 (getD_both hu)
          refine ⟨_, rfl, rfl, ?_⟩
          clear ho hall hrd hgot hfact hold hv0 hv1 h0 h1
          unfold Oper.wp
          go_simp
          refine (FD2.out _ _ hpw hrow).mono ?_
          rintro e w2 ⟨v, v', rfl, ht, hx', hg2, hf'⟩
          refine ⟨_, rfl, ⟨ht.lower szw, v', hx', fun k hk => by have := hf' k hk; omega⟩, ?_⟩
          unfold Rel11
          rw [if_pos rfl]
          exact Mod.grown hg2 (fun k hk => by injection hk with hk; exact hk.symm)
      · have u0 : V 0 = v8 := hV 0 (by omega)
        have u1 : V 1 = .pointer (some ⟨g, 0, none⟩) := hV 1 (by omega)
        obtain ⟨bb, u2', -⟩ : ∃ b, V 2 = .slice (some ⟨b, 0, none⟩) 1 1 ∧ w'.heap[b]? = some (.cells #[.int .u8 0] 5 (0, 0)) ∧ w1.heap.size ≤ b := hV 2 (by omega)
        obtain ⟨ht5, u, hx', hu'⟩ : Txts w' w1.heap.size (V 3) (feedP (st ++ [0])).1 ∧ ∃ u, PX w' g u (feedP (st ++ [0])).2 ∧ ∀ k, u.ownBlock = some k → w1.heap.size ≤ k := hV 3 (by omega)
        have hM : Mod (fun k => k = g) w1 w' := hF 1 (by decide)
        have hp' := I.mod HP.out hM (fun k hk e => by subst e; exact hF'g hk)
        have ht8 := HT.out.mod hM (fun k e => by subst e; exact .inr ⟨by omega, HFG.out⟩)
        generalize (feedP (st ++ [0])).1 = G at *
        generalize (feedP (st ++ [0])).2 = st2 at *
        obtain ⟨A2, c2, e2, by2, le2, mx2, -⟩ := ht8.byss
        obtain ⟨A5, c5, e5, by5, -⟩ := ht5.byss
        obtain ⟨Ax, cx, eu, -⟩ := hx'.2.1.bysN
        have ST := Lib.hid (fun (q : Regrown) => sameTexts_any A2 A5 G G c2 c5 (Go.Sort.grow (redrawn w' q.d) q.os) (by2.on (below_regrown w' q.d q.os)) (by5.on (below_regrown w' q.d q.os)) (by omega))
        rw [show (G == G) = true by simp] at ST
        have LF := Lib.hid (fun (q : Regrown) => I.left (I.on hp' (below_regrown w' q.d q.os)))
        have cg : ∀ d os, (Go.Sort.grow (redrawn w' d) os).cell? ⟨g, 0, none⟩ = some (.slice Ax st2.length cx) := fun d os => cell_regrown ((cell_of_row _ g 0 _ _ _ hx'.1).trans (by rw [eu]; rfl)) d os
        obtain ⟨nG, hnG⟩ : ∃ n, n = G.length := ⟨_, rfl⟩
        obtain ⟨ns, hns⟩ : ∃ n, n = st2.length := ⟨_, rfl⟩
        rw [← hnG] at ST e2 e5
        rw [← hns] at LF cg
        simp only [putAll, Act.put, u0, u1, u2', e2, e5, Nat.reduceAdd, List.setIfInBounds_toArray, List.set_cons_succ, List.set_cons_zero, List.drop_succ_cons, List.drop_zero]
        have HEND := Lib.hid (Mod.out B1.out hM B1.out.size (fun k e => by subst e; exact hgb))
        have szw := hM.size
        have sz1 := B1.out.size
        clear hV hF u0 u1 u2' ht5 hx' hu' hM hp' ht8 e2 e5 by2 by5 eu FD2 HP HT X1 E8 BY8 le2 mx2 hnG hns
        repeat (go_big_quiet_step (first
          | (go_at_call 11; exact Calls.regrown_of (ST.out _))
          | (go_at_call 14; exact Calls.regrown_of (LF.out _))))
        refine wpQuiet_nil ?_
        intro w3 hw3
        obtain ⟨q, hw3⟩ := hw3
        have K3 : Hid (Below w'.heap.size w' w3) := Lib.hid (by rw [hw3]; exact below_regrown w' q.d q.os)
        clear hw3 q ST LF cg
        go_wp2_with fail
        go_ret
        exact ⟨rfl, Below.trans HEND.out (K3.out.mono (by omega))⟩
end Go.Proofs.Ytdifemaidngnjaa
