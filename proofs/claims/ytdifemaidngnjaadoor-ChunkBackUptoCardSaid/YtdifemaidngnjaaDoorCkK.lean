/-
  The walk of ChunkBack.
-/
import Derived.Test.YtdifemaidngnjaaDoorCkJ
import Derived.Test.YtdifemaidngnjaaDoorNt
import Derived.Deep.CutBlock
import Derived.Deep.DeepCutAuto
namespace Go.Proofs.YtdifemaidngnjaaDoor
open Go.RowKit
set_option linter.unusedVariables false
set_option maxRecDepth 100000

/-- Behind the cuts: what is left, and the reader. -/
def TailK (CR : RdrC) (w3 : World) (p : Value) (t : Ck) (s9 : Value) (wx : World) : Prop := ∃ (A1 : Option Addr) (c1 : Nat) (x : Bs) (F : Nat → Prop) (s : Ck), s9 = .slice A1 x.length c1 ∧ Sl w3 A1 c1 x ∧ CR wx F p s ∧ (∀ i, F i → w3.heap.size ≤ i) ∧ Below w3.heap.size w3 wx ∧ s.fault = 0 ∧ okC s x = some t ∧ x.length ≤ 12005

set_option maxHeartbeats 4000000 in
set_option maxRecDepth 100000 in
theorem ChunkBack_any {CR : RdrC} (I : CkI 10 11 13 CR) (A : Option Addr) (b : Bs) (c : Nat) (Ar : Option Addr) (rest : Bs) (cr : Nat) (size : Int) (Ac : Option Addr) (cuts : List Int) (cc : Nat) (w : World) (hT : TabC w) (hb : Sl w A c b) (hr : Sl w Ar cr rest) (hrl : rest.length ≤ 140737488340000) (hC : Nts w Ac cuts) (hcm : cuts.length ≤ 9223372036854775807) :
    Calls Tryd.prog 4 #[.slice A b.length c, .slice Ar rest.length cr, .int .i64 size, .slice Ac cuts.length cc] w fun e w' => e = .returned (.bool true) ∧ Below w.heap.size w w' := by
  obtain ⟨d, hd⟩ : ∃ d, d = b.take 2000 := ⟨_, rfl⟩
  obtain ⟨q, hq⟩ : ∃ q, q = d.length := ⟨_, rfl⟩
  have hq2 : q = min b.length 2000 := by rw [hq, hd, List.length_take]; omega
  have sp := slice_pre A b c (min b.length 2000) (min (b.length : Int) 2000) (by omega) hb.le (by omega)
  have hsd : Sl w A c d := by rw [hd]; exact ⟨hb.bys.pre 2000, by rw [List.length_take]; have := hb.le; omega, hb.max, hb.nil⟩
  rw [show b.take (min b.length 2000) = d by rw [hd, List.take_eq_take_iff]; omega] at sp
  have hmin : min (b.length : Int) 2000 = (q : Int) := by omega
  rw [hmin, ← hq] at sp
  have hd5 : q ≤ 2000 := by omega
  obtain ⟨nb, hnb⟩ : ∃ n, n = b.length := ⟨_, rfl⟩
  rw [← hnb] at sp hmin
  rw [← hnb]
  obtain ⟨nr, hnr⟩ : ∃ n, n = rest.length := ⟨_, rfl⟩
  obtain ⟨nc, hnc⟩ : ∃ n, n = cuts.length := ⟨_, rfl⟩
  rw [← hnr] at hrl ⊢
  rw [← hnc] at hcm ⊢
  have HNR := Lib.hid hnr
  have HNC := Lib.hid hnc
  have HQ := Lib.hid hq
  have HSD := Lib.hid hsd
  have HR := Lib.hid hr
  have HC := Lib.hid hC
  obtain ⟨sz, r1, r2, -, r4, -⟩ := rem_u64 size 300 (by omega) (by omega)
  replace r1 : Int.tmod (IntKind.u64.wrap size) 300 = (sz : Int) := r1
  obtain ⟨kz, hkz⟩ : ∃ k, k = 1 + sz := ⟨_, rfl⟩
  have hs1 : IntKind.i64.wrap (1 + (sz : Int)) = (kz : Int) := by rw [IntWalk.i64_in _ (by omega)]; omega
  have hk1 : 1 ≤ kz ∧ kz ≤ 300 := by omega
  have E1 := Lib.hid (encL_any A d c kz w hsd hT (by omega))
  rw [← hq] at E1
  have hrr : ∀ (F : Nat → Prop) (B : Nat), w.heap.size ≤ B → (∀ k, F k → B ≤ k) → rest ≠ [] → Off F Ar := fun F B hB hF hne a ha hf => by
    have := hr.inside a ha (List.length_pos_iff.2 hne)
    have := hF _ hf
    omega
  have HRR := Lib.hid hrr
  clear hd hq hq2 hnb hb hsd hkz hnr hnc hr hC hrr
  go_enter Tryd.func4, Tryd.ntmps4
  go_wp2_with fail
  refine E1.out.mono ?_
  rintro e w3 ⟨k3, ⟨hl, rfl⟩ | ⟨-, -, v3, rfl, o3⟩⟩
  · omega
  rw [show ((kz : Nat) : Int).toNat = kz by omega] at o3
  obtain ⟨y, hy⟩ : ∃ y, y = encK kz d := ⟨_, rfl⟩
  rw [← hy] at o3
  obtain ⟨A3, c3, rfl, s3⟩ := o3.bysN
  have hyl : y.length ≤ 12005 := by
    have := encC_len d.length kz d (by omega) (by omega)
    have h2 := HQ.out
    rw [hy]
    unfold encK
    omega
  have HOK : Hid (okC (newC 2000) y = some ⟨2000, 6, 1, 0, d, true, 0⟩) := Lib.hid (by
    rw [newC_at (by omega) (by omega), hy]
    exact ok_enc d.length kz 2000 [] d (Nat.le_refl _) (by omega) (by omega) (by have := HQ.out; simp; omega))
  obtain ⟨t, ht⟩ : ∃ t : Ck, t = ⟨2000, 6, 1, 0, d, true, 0⟩ := ⟨_, rfl⟩
  rw [← ht] at HOK
  have HT := Lib.hid ht
  obtain ⟨ny, hny⟩ : ∃ n, n = y.length := ⟨_, rfl⟩
  have HNY := Lib.hid hny
  have S3 := Lib.hid s3
  have B3 := Lib.hid k3
  have big3 := k3.size
  have NW := Lib.hid (I.new 2000 w3 (by omega) (by omega))
  rw [← hny]
  rw [← hny] at hyl
  clear k3 o3 s3 hy hny ht E1 r1 r4 hs1
  go_wp2_with fail
  refine NW.out.mono ?_
  rintro e w4 ⟨p, F0, rfl, p4, k4, f4⟩
  have P4 := Lib.hid p4
  have K4 := Lib.hid k4
  have F4 := Lib.hid f4
  clear p4 k4 f4 NW
  go_upto_block 0 with fail
  go_cut [9] (fun s9 wx => TailK CR w3 p t s9 wx)
  case first =>
    go_wp2_with fail
    go_loopw [9, 44] (fun v9 v44 wr => ∃ (k : Nat), v44 = .int .i64 k ∧ k ≤ nc ∧ TailK CR w3 p t v9 wr) (fun _ v44 _ => nc - (intOf v44).toNat)
    case atStart => exact ⟨0, rfl, by omega, A3, c3, y, F0, _, by rw [← HNY.out], S3.out, P4.out, F4.out, K4.out, rfl, HOK.out, by rw [← HNY.out]; omega⟩
    case round =>
      clear HOK S3 P4 F4 K4
      obtain ⟨k, rfl, hk, hT⟩ := hrel
      have HTL := Lib.hid hT
      obtain ⟨A1, c1, x, F, s, rfl, hx, hp, hF, hB, hs, hok, hxl⟩ := hT
      obtain ⟨m, hm⟩ : ∃ m, m = x.length := ⟨_, rfl⟩
      rw [← hm] at HTL ⊢
      by_cases hlt : k < nc
      · have hlt' : (k : Int) < (nc : Int) := by omega
        have kL : k < cuts.length := by have := HNC.out; omega
        obtain ⟨gc, oc, rfl, hcc⟩ := HC.out (by omega)
        have C1 := cell_on (hcc k kL) (Below.trans B3.out (hB.mono big3))
        generalize cuts[k] = z at *
        obtain ⟨q1, r1, r2', -, r4, -⟩ := rem_u64 z 60 (by omega) (by omega)
        replace r1 : Int.tmod (IntKind.u64.wrap z) 60 = (q1 : Int) := r1
        obtain ⟨N, hN⟩ : ∃ N, N = min q1 m := ⟨_, rfl⟩
        have hmin2 : min (q1 : Int) (m : Int) = (N : Int) := by omega
        by_cases hNm : N = m
        · have hne : (N : Int) = (m : Int) := by omega
          clear hx hp hF hB hs hok hxl hm hcc kL hN hNm
          go_wp2_with fail
          go_meet
          exact HTL.out
        · have hne : ¬ (N : Int) = (m : Int) := by omega
          have hNl : N ≤ x.length := by omega
          have sp2 := slice_pre A1 x c1 N N hNl hx.le rfl
          obtain ⟨A2, lo, s2, pl2⟩ := hx.rest N N hNl rfl
          have s1 : Sl w3 A1 c1 (x.take N) := ⟨hx.bys.pre N, by rw [List.length_take]; have := hx.le; omega, hx.max, hx.nil⟩
          have lx : (x.take N).length = N := by rw [List.length_take]; omega
          have hyl2 : (x.drop N).length = m - N := by rw [List.length_drop]; omega
          obtain ⟨u, e1, e2, e3⟩ := feedC_part (n := N) hs hok (by omega)
          have FD := Lib.hid (I.feed hp (s1.on hB) (fun hne a ha hf => by have := s1.inside a ha (List.length_pos_iff.2 hne); have := hF _ hf; omega))
          rw [lx, e1] at FD
          rw [lx] at sp2
          rw [hyl2] at lo
          rw [← hm] at sp2 lo
          have HF := Lib.hid hF
          have HB := Lib.hid hB
          have H2 : Hid (∀ F' w', CR w' F' p u → (∀ i, F' i → w3.heap.size ≤ i) → Below w3.heap.size w3 w' → TailK CR w3 p t (.slice A2 (m - N) (c1 - N)) w') := Lib.hid (fun F' w' h1 h2 h3 => ⟨A2, c1 - N, x.drop N, F', u, by rw [hyl2], s2, h1, h2, h3, e2, e3, by rw [hyl2]; omega⟩)
          have hbN : ((N : Int) != (N : Int)) = false := by simp
          have hNm2 : N ≤ m := by omega
          clear hx hp hF hB hs hok hxl hm hcc kL hN hNm s1 s2 pl2 lx hyl2 e1 e2 e3 hNl HTL
          go_wp2_with fail
          refine FD.out.mono ?_
          rintro e w5 ⟨F5, rfl, p5, m5, f5⟩
          have HF5 := Lib.hid (H2.out F5 w5 p5 (fun i hi => (f5 i hi).elim (HF.out i) (fun h => Nat.le_trans HB.out.size h)) (Mod.out HB.out m5 HB.out.size HF.out))
          clear p5 m5 f5 H2 HF HB FD
          go_wp2_with fail
          go_roundw
          case rel => exact ⟨k + 1, by go_num, by omega, HF5.out⟩
          case measure => simp [intOf]; omega
      · have hlt' : ¬ (k : Int) < (nc : Int) := by omega
        clear hx hp hF hB hs hok hxl hm
        go_wp2_with fail
        go_meet
        exact HTL.out
  case rest =>
    clear HOK S3 P4 F4 K4
    obtain ⟨A1, c1, x, F, s, rfl, hx, hp, hF, hB, hs, hok, hxl⟩ := hcut
    obtain ⟨m, hm⟩ : ∃ m, m = x.length := ⟨_, rfl⟩
    rw [← hm]
    have CL := Lib.hid (CloneR_any A1 x m c1 wc (hx.on hB).bys hm (by omega) (fun p hp h0 => (hx.on hB).inside p hp (by omega)))
    obtain ⟨e1, e2⟩ := feedC_rest rest hs hok (by rw [HT.out])
    have HF := Lib.hid hF
    have HB := Lib.hid hB
    have HP := Lib.hid hp
    have HM := Lib.hid hm
    have HE1 := Lib.hid e1
    have HE2 := Lib.hid e2
    have szc := hB.size
    rw [← hm] at hxl
    clear hx hp hF hB hs hok hm e1 e2
    go_wp2_with fail
    refine CL.out.mono ?_
    rintro e w5 ⟨v5, rfl, o5, -, k5⟩
    have b5 := Lib.hid (Below.trans HB.out (k5.mono szc))
    have R5 := Lib.hid (HR.out.on (Below.trans B3.out (b5.out.mono big3)))
    have O5 := Lib.hid o5
    have P5 := Lib.hid (I.on HP.out k5)
    have szx : wc.heap.size ≤ w5.heap.size := k5.size
    have HLT := Lib.hid (I.lt HP.out)
    clear o5 k5 CL HP
    go_wp2_with (first
      | (at_builtin; refine wpList_appR rfl (.tmp 85) (.tmp 86) rfl wc.heap.size _ x rfl O5.out Ar nr cr rfl rest HNR.out R5.out.bys R5.out.nil (by have := HNR.out; have := HM.out; omega) szx ?_)
      | fail)
    intro v6 w6 o6 g6
    have b6 := Lib.hid (Below.grown b5.out g6 (by omega) (fun k hk => by have := (O5.out.lt k hk).1; omega))
    have P6 := Lib.hid (I.mod P5.out (Mod.grown (S := fun k => v5.ownBlock = some k) g6 (fun k hk => hk)) (fun i hi e => by have := (O5.out.lt i e).1; have := HLT.out i hi; omega))
    obtain ⟨z, hz⟩ : ∃ z, z = x ++ rest := ⟨_, rfl⟩
    have E1 := HE1.out
    rw [← hz] at o6 E1
    have olt := o6.lt
    obtain ⟨A6, c6, rfl, s6⟩ := o6.ownB.bysN
    have FD := Lib.hid (I.feed P6.out s6 (fun _ a ha hf => by subst ha; have := (olt a.block rfl).1; have := HLT.out _ hf; omega))
    rw [E1, ← HM.out] at FD
    have big6 := b6.out.size
    clear o6 g6 hz olt s6 O5 P5 R5 b5 E1 HE1
    generalize z.length = nz at *
    go_wp2_with fail
    refine FD.out.mono ?_
    rintro e w7 ⟨F7, rfl, p7, m7, f7⟩
    replace p7 : CR w7 F7 p t := p7
    have b7 := Lib.hid (Mod.out b6.out m7 big6 HF.out)
    have f7a : ∀ k, F7 k → w3.heap.size ≤ k := fun k hk => (f7 k hk).elim (HF.out k) (fun h => by omega)
    have FD2 := Lib.hid (I.feed p7 (HR.out.on (Below.trans B3.out (b7.out.mono big3))) (HRR.out F7 w3.heap.size big3 f7a))
    rw [HE2.out, ← HNR.out] at FD2
    have HF7 := Lib.hid f7a
    clear p7 m7 f7 f7a FD P6 b6 HE2
    go_wp2_with fail
    refine FD2.out.mono ?_
    rintro e w8 ⟨F8, rfl, p8, m8, f8⟩
    replace p8 : CR w8 F8 p t := p8
    have b8 := Mod.out b7.out m8 b7.out.size HF7.out
    have BD := Lib.hid (I.body p8)
    rw [HT.out] at BD
    replace BD : Hid (Calls Tryd.prog 13 #[p] w8 (BodyCP w8 d)) := BD
    have B8 := Lib.hid (Below.trans B3.out (b8.mono big3))
    clear p8 m8 f8 b8 FD2 b7 HF7
    go_wp2_with fail
    refine BD.out.mono ?_
    rintro e w9 ⟨v9, rfl, o9, k9⟩
    obtain ⟨A9, c9, rfl, s9⟩ := o9.bysN
    have B9 := Lib.hid (Below.trans B8.out (k9.mono B8.out.size))
    have EQ := Lib.hid (EqualB_any A9 A d d q q c9 c w9 s9.bys (HSD.out.on B9.out).bys HQ.out HQ.out)
    rw [show (d == d) = true by simp] at EQ
    rw [← HQ.out]
    clear o9 k9 s9 BD B8
    go_wp2_with fail
    refine EQ.out.mono ?_
    rintro e w10 ⟨rfl, rfl⟩
    go_wp2_with fail
    go_ret
    exact ⟨rfl, B9.out⟩
end Go.Proofs.YtdifemaidngnjaaDoor
