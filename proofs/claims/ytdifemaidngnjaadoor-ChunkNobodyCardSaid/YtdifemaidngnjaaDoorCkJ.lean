/-
  The walk of ChunkFull.
-/
import Derived.Test.YtdifemaidngnjaaDoorCkI
import Derived.Test.YtdifemaidngnjaaDoorSp
namespace Go.Proofs.YtdifemaidngnjaaDoor
open Go.RowKit
set_option linter.unusedVariables false
set_option maxRecDepth 100000

set_option maxHeartbeats 400000 in
theorem HasPrefix_any (A1 A2 : Option Addr) (x y : Bs) (c1 c2 : Nat) (w : World) (h1 : Sl w A1 c1 x) (h2 : Sl w A2 c2 y) (hp : y <+: x) : Calls Tryd.prog 14 #[.slice A1 x.length c1, .slice A2 y.length c2] w fun e w' => e = .returned (.bool true) ∧ w = w' := by
  have hl := hp.length_le
  have sp := slice_pre A1 x c1 y.length y.length hl h1.le rfl
  have e : x.take y.length = y := List.prefix_iff_eq_take.1 hp |>.symm
  rw [e] at sp
  have B1 : Bys w A1 y := by have := h1.bys.pre y.length; rw [e] at this; exact this
  have EQ := Lib.hid (EqualB_any A1 A2 y y y.length y.length c1 c2 w B1 h2.bys rfl rfl)
  rw [show (y == y) = true by simp] at EQ
  have hl' : (y.length : Int) ≤ (x.length : Int) := by omega
  clear hp h1 h2 e B1 hl
  generalize y.length = m at *
  generalize x.length = n at *
  go_enter Tryd.func14, Tryd.ntmps14
  go_wp2_with fail
  refine EQ.out.mono ?_
  rintro e w4 ⟨rfl, rfl⟩
  go_wp2_with fail
  go_ret
  exact ⟨rfl, rfl⟩
set_option maxHeartbeats 4000000 in
set_option maxRecDepth 100000 in
theorem ChunkFull_any {CR : RdrC} (I : CkI 10 11 13 CR) (A : Option Addr) (b : Bs) (c : Nat) (size most : Int) (w : World) (hb : Sl w A c b) (hT : TabC w) :
    Calls Tryd.prog 5 #[.slice A b.length c, .int .i64 size, .int .i64 most] w fun e w' => e = .returned (.bool true) ∧ Below w.heap.size w w' := by
  obtain ⟨d, hd⟩ : ∃ d, d = b.take 1000 := ⟨_, rfl⟩
  obtain ⟨q, hq⟩ : ∃ q, q = d.length := ⟨_, rfl⟩
  have hq2 : q = min b.length 1000 := by rw [hq, hd, List.length_take]; omega
  have sp := slice_pre A b c (min b.length 1000) (min (b.length : Int) 1000) (by omega) hb.le (by omega)
  have hsd : Sl w A c d := by rw [hd]; exact ⟨hb.bys.pre 1000, by rw [List.length_take]; have := hb.le; omega, hb.max, hb.nil⟩
  rw [show b.take (min b.length 1000) = d by rw [hd, List.take_eq_take_iff]; omega] at sp
  have hmin : min (b.length : Int) 1000 = (q : Int) := by omega
  rw [hmin, ← hq] at sp
  have hd5 : q ≤ 1000 := by omega
  obtain ⟨nb, hnb⟩ : ∃ n, n = b.length := ⟨_, rfl⟩
  rw [← hnb] at sp hmin
  rw [← hnb]
  have HCL := Lib.hid (CloneR_any A d q c w hsd.bys hq (by omega) (fun p hp h0 => hsd.inside p hp (by omega)))
  have HQ := Lib.hid hq
  obtain ⟨sz, r1, r2, r3, r4, r5⟩ := rem_u64 size 100 (by omega) (by omega)
  obtain ⟨mo, m1, m2, m3, m4, m5⟩ := rem_u64 most (q + 1) (by omega) (by omega)
  replace r1 : Int.tmod (IntKind.u64.wrap size) 100 = (sz : Int) := r1
  obtain ⟨kz, hkz⟩ : ∃ k, k = 1 + sz := ⟨_, rfl⟩
  have hs1 : IntKind.i64.wrap (1 + (sz : Int)) = (kz : Int) := by rw [IntWalk.i64_in _ (by omega)]; omega
  have hk1 : 1 ≤ kz ∧ kz ≤ 100 := by omega
  have HT := Lib.hid hT
  clear hd hq hq2 hnb hb hsd hkz hT
  go_enter Tryd.func5, Tryd.ntmps5
  go_wp2_with fail
  refine HCL.out.mono ?_
  rintro e w1 ⟨v1, rfl, o1, -, k1⟩
  have b0 : Below w1.heap.size w1 (w1.alloc (.cells #[.int .u8 1] 5)) := Below.alloc (Below.refl _ _) (Nat.le_refl _) _
  have HO1 := Lib.hid (o1.ownB.below b0 (Nat.le_refl _))
  have HN1 : Hid (Sl (w1.alloc (.cells #[.int .u8 1] 5)) (some ⟨w1.heap.size, 0, none⟩) 1 [1]) := Lib.hid (Sl.made (l := [1]) (by rfl) (by simp))
  have HK1 := Lib.hid (Below.trans k1 (b0.mono k1.size))
  have big1 := k1.size
  clear o1 k1 b0 HCL
  go_wp2_with (first
    | (at_builtin; refine wpList_append_bys rfl (.tmp 20) (.tmp 21) rfl w.heap.size _ d rfl HO1.out (some ⟨w1.heap.size, 0, none⟩) 1 1 [1] rfl rfl HN1.out.bys (fun h => by cases h) (by have := HQ.out; simp; omega) (by simp; omega) ?_)
    | fail)
  intro v2 w2 o2 g2 f2
  obtain ⟨x, hx⟩ : ∃ x, x = d ++ [1] := ⟨_, rfl⟩
  rw [← hx] at o2
  have hxl : x.length = q + 1 := by rw [hx, List.length_append, HQ.out]; rfl
  have b2 : Below w.heap.size w w2 := HK1.out.grown g2 (by simp; omega) (fun k hk => (HO1.out.lt k hk).1)
  obtain ⟨A2, c2, rfl, s2⟩ := o2.bysN
  rw [hxl]
  have HS2 := Lib.hid s2
  have hA2 : Hid (∀ p, A2 = some p → p.block < w2.heap.size) := Lib.hid (fun p hp => by subst hp; exact (o2.lt p.block rfl).2)
  have HB2 := Lib.hid b2
  have HXL := Lib.hid hxl
  have E1 := Lib.hid (encL_any A2 x c2 kz w2 s2 (HT.out.on b2) (by omega))
  rw [hxl] at E1
  have hq1 : (q : Int) + 1 = ((q + 1 : Nat) : Int) := by omega
  generalize q + 1 = n1 at *
  clear o2 g2 f2 b2 s2 hx HO1 HN1 HK1 HQ
  go_wp2_with fail
  refine E1.out.mono ?_
  rintro e w3 ⟨k3, ⟨hl, rfl⟩ | ⟨-, -, v3, rfl, o3⟩⟩
  · omega
  rw [show ((kz : Nat) : Int).toNat = kz by omega] at o3
  obtain ⟨y, hy⟩ : ∃ y, y = encK kz x := ⟨_, rfl⟩
  rw [← hy] at o3
  obtain ⟨A3, c3, rfl, s3⟩ := o3.bysN
  have HY : Hid (∃ t, feedC (newC mo) y = ((0, false, 4), t) ∧ t.fault = 4 ∧ t.body <+: x ∧ t.body.length ≤ mo) := Lib.hid (by
    obtain ⟨t, h1, h2, h3, h4⟩ := full_enc x.length kz mo [] x (Nat.le_refl _) (by omega) (by omega) (by simp) (by simp; omega) 0
    refine ⟨t, ?_, h2, by simpa using h3, h4⟩
    rw [newC_at (by omega) (by omega), hy]
    rw [show ((mo : Nat) : Int).toNat = mo by omega]
    show (if (0 : Nat) = 0 then goC 0 (atC mo []) (encC kz x.length x) else _) = _
    rw [if_pos rfl]
    exact h1)
  obtain ⟨ny, hny⟩ : ∃ n, n = y.length := ⟨_, rfl⟩
  have HNY := Lib.hid hny
  have S3 := Lib.hid s3
  have S2 := Lib.hid (HS2.out.on k3)
  have bel3 := Below.trans HB2.out (k3.mono HB2.out.size)
  have B3 := Lib.hid bel3
  have big3 := bel3.size
  have big23 := k3.size
  have hA3 : Hid (∀ p, A3 = some p → w2.heap.size ≤ p.block ∧ p.block < w3.heap.size) := Lib.hid (fun p hp => by subst hp; exact o3.lt p.block rfl)
  have NW := Lib.hid (I.new mo w3 (by omega) (by omega))
  rw [← hny]
  have big2 := HB2.out.size
  clear k3 o3 s3 bel3 hy hny E1 HS2 HB2 r1 r3 r4 r5 m1 m3 hs1
  go_wp2_with fail
  refine NW.out.mono ?_
  rintro e w4 ⟨p, F, rfl, p4, k4, f4⟩
  have FD := Lib.hid (I.feed p4 (S3.out.on k4) (fun _ a ha hf => by have := hA3.out a ha; have := f4 _ hf; omega))
  have B4 := Lib.hid (Below.trans B3.out (k4.mono big3))
  have S4 := Lib.hid (S2.out.on k4)
  have SY4 := Lib.hid (S3.out.on k4)
  have HF4 := Lib.hid f4
  have big4 := k4.size
  rw [← HNY.out] at FD
  clear p4 k4 f4 NW S2 S3 B3
  go_wp2_with fail
  refine FD.out.mono ?_
  rintro e w5 ⟨F5, rfl, p5, k5, f5⟩
  obtain ⟨t, t1, t2, t3, t4⟩ := HY.out
  rw [t1] at p5 ⊢
  replace p5 : CR w5 F5 p t := p5
  have hm : ∀ k, F5 k → w3.heap.size ≤ k := fun k hk => (f5 k hk).elim (HF4.out k) (fun h => Nat.le_trans big4 h)
  have SY5 : Sl w5 A3 c3 y := ⟨SY4.out.bys.mod k5 (fun a ha hf => by have := hA3.out a ha; have := HF4.out _ hf; omega), SY4.out.le, SY4.out.max, SY4.out.nil⟩
  have bel5 := Mod.out B4.out k5 B4.out.size (fun k hk => by have := HF4.out k hk; omega)
  have FD2 := Lib.hid (I.feed p5 SY5 (fun _ a ha hf => by have := hA3.out a ha; have := hm _ hf; omega))
  have e2 : feedC t y = ((0, false, 4), t) := by unfold feedC; rw [t2, if_neg (by omega)]
  rw [e2, ← HNY.out] at FD2
  have HM := Lib.hid hm
  have HT3 := Lib.hid t3
  have HT4 := Lib.hid t4
  have S5 : Hid (Sl w5 A2 c2 x) := Lib.hid ⟨S4.out.bys.mod k5 (fun a ha hf => by have := hA2.out a ha; have := HF4.out _ hf; omega), S4.out.le, S4.out.max, S4.out.nil⟩
  have B5 := Lib.hid bel5
  clear p5 k5 f5 t1 t2 t3 t4 hm SY5 bel5 e2 FD HY S4 SY4 B4
  go_wp2_with fail
  refine FD2.out.mono ?_
  rintro e w6 ⟨F6, rfl, p6, k6, f6⟩
  have bel6 := Mod.out B5.out k6 B5.out.size (fun k hk => by have := HM.out k hk; omega)
  have S6 : Hid (Sl w6 A2 c2 x) := Lib.hid ⟨S5.out.bys.mod k6 (fun a ha hf => by have := hA2.out a ha; have := HM.out _ hf; omega), S5.out.le, S5.out.max, S5.out.nil⟩
  have P6 := Lib.hid p6
  have B6 := Lib.hid bel6
  have BD := Lib.hid (I.body p6)
  have htl : t.body.length ≤ mo := HT4.out
  obtain ⟨z, hz⟩ : ∃ z, z = t.body := ⟨_, rfl⟩
  rw [← hz] at BD htl HT3
  obtain ⟨nz, hnz⟩ : ∃ n, n = z.length := ⟨_, rfl⟩
  have HNZ := Lib.hid hnz
  rw [← hnz] at htl
  have htl' : (nz : Int) ≤ (mo : Int) := by omega
  clear p6 k6 f6 bel6 S5 B5 HM HT4 FD2 hnz htl
  go_wp2_with fail
  refine BD.out.mono ?_
  rintro e w7 ⟨v7, rfl, o7, k7⟩
  obtain ⟨A7, c7, rfl, -⟩ := o7.bysN
  rw [← HNZ.out]
  have S7 := Lib.hid (S6.out.on k7)
  have P7 := I.on P6.out k7
  have BD2 := Lib.hid (I.body P7)
  rw [← hz] at BD2
  have B7 := Lib.hid (Below.trans B6.out (k7.mono B6.out.size))
  clear o7 k7 P7 P6 S6 B6 BD hz
  go_wp2_with fail
  refine BD2.out.mono ?_
  rintro e w8 ⟨v8, rfl, o8, k8⟩
  obtain ⟨A8, c8, rfl, s8⟩ := o8.bysN
  have HP := Lib.hid (HasPrefix_any A2 A8 x z c2 c8 w8 (S7.out.on k8) s8 HT3.out)
  have B8 := Lib.hid (Below.trans B7.out (k8.mono B7.out.size))
  rw [← HNZ.out, HXL.out] at HP
  rw [← HNZ.out]
  clear o8 k8 s8 S7 B7 BD2
  go_wp2_with fail
  refine HP.out.mono ?_
  rintro e w9 ⟨rfl, rfl⟩
  go_wp2_with fail
  go_ret
  exact ⟨rfl, B8.out⟩
end Go.Proofs.YtdifemaidngnjaaDoor
