/-
  The landed reader of frames: Feed.
-/
import Derived.Test.YtdifemaidngnjaaPfM
import Derived.Test.YtdifemaidngnjaaQt
namespace Go.Proofs.Ytdifemaidngnjaa
open Go.RowKit
set_option linter.unusedVariables false
set_option maxRecDepth 100000

/-- A slice's length. -/
def lenN (v : Value) : Nat := match v with | .slice _ n _ => n | _ => 0
theorem missP_two (a l : UInt8) (t : Bs) : missP (a :: l :: t) = 2 + (a.toNat * 256 + l.toNat) - (t.length + 2) := rfl
/-- Bytes more, as many as are missing at most. -/
theorem miss_step {y d : Bs} (h : fr y = none) (hd : d.length ≤ missP y) : (y ++ d).length ≤ 65537 ∧ (2 ≤ (y ++ d).length → (y ++ d).length ≤ 2 + (((y ++ d).getD 0 0).toNat * 256 + ((y ++ d).getD 1 0).toNat)) ∧ (missP (y ++ d) = 0 → fr (y ++ d) = some ((y ++ d).drop 2, []) ∧ 2 ≤ (y ++ d).length) ∧ (missP (y ++ d) ≠ 0 → fr (y ++ d) = none) := by
  have key : ∀ (a l : UInt8) (t : Bs), t.length ≤ a.toNat * 256 + l.toNat → (a :: l :: t).length ≤ 65537 ∧ (2 ≤ (a :: l :: t).length → (a :: l :: t).length ≤ 2 + (((a :: l :: t).getD 0 0).toNat * 256 + ((a :: l :: t).getD 1 0).toNat)) ∧ (missP (a :: l :: t) = 0 → fr (a :: l :: t) = some ((a :: l :: t).drop 2, []) ∧ 2 ≤ (a :: l :: t).length) ∧ (missP (a :: l :: t) ≠ 0 → fr (a :: l :: t) = none) := by
    intro a l t ht
    have ha := a.toNat_lt
    have hl := l.toNat_lt
    rw [missP_two, fr_eq]
    refine ⟨by simp; omega, fun _ => by simp; omega, fun h0 => ⟨?_, by simp⟩, fun h0 => by rw [if_pos (by omega)]⟩
    rw [if_neg (by omega), List.take_of_length_le (by omega), List.drop_eq_nil_of_le (by omega)]
    rfl
  match y, h, hd with
  | [], _, hd =>
    simp only [missP, List.length_nil] at hd
    match d, hd with
    | [], _ => refine ⟨by simp, by simp, by simp [missP], fun _ => rfl⟩
    | [a], _ => refine ⟨by simp, by simp, by simp [missP], fun _ => rfl⟩
    | [a, l], _ => exact key a l [] (by simp)
    | _ :: _ :: _ :: _, hd => simp at hd
  | [a], _, hd =>
    simp only [missP, List.length_cons, List.length_nil] at hd
    match d, hd with
    | [], _ => refine ⟨by simp, by simp, by simp [missP], fun _ => rfl⟩
    | [l], _ => exact key a l [] (by simp)
    | _ :: _ :: _, hd => simp at hd
  | a :: l :: t, h, hd =>
    rw [missP_two] at hd
    exact key a l (t ++ d) (by rw [fr_eq] at h; split at h; · simp; omega
                               · cases h)
theorem miss_pos {y : Bs} (h : fr y = none) : 0 < missP y := by
  match y, h with
  | [], _ => simp [missP]
  | [a], _ => simp [missP]
  | a :: l :: t, h =>
    rw [missP_two]
    rw [fr_eq] at h
    split at h
    · omega
    · cases h
theorem miss_ok {y : Bs} (h : fr y = none) : y.length ≤ 65537 ∧ (2 ≤ y.length → y.length ≤ 2 + ((y.getD 0 0).toNat * 256 + (y.getD 1 0).toNat)) := by
  have := miss_step (d := []) h (by simp)
  rw [List.append_nil] at this
  exact ⟨this.1, this.2.1⟩
theorem TxS.one {w : World} {S2 : Nat → Prop} {x : Value} {y : Bs} (h : SlV w x y) (ho : OffV S2 x) (hS : ∀ k, S2 k → k < w.heap.size) : TxS (w.alloc (.cells #[x] 26)) S2 (.slice (some ⟨w.heap.size, 0, none⟩) 1 1) [y] := by
  refine ⟨[x], ⟨by simp, .inr ⟨w.heap.size, 1, #[x], rfl, Nat.zero_le _, row_new _ rfl, Nat.le_refl _, by simp [maxLen], by simp, by simp⟩⟩, fun k hk e => ?_, rfl, fun j hj => ?_⟩
  · simp [Value.ownBlock] at hk
    have := hS k e
    omega
  · have : j = 0 := by simp at hj; omega
    subst this
    refine ⟨x, rfl, h.mod (Mod.below (S := fun _ => False) (Below.alloc (Below.refl _ _) (Nat.le_refl _) _)) (fun k hk e => e), ho, fun k hk e => ?_⟩
    simp [Value.ownBlock] at e
    have := h.2 k hk
    omega
/-- What the loop has. -/
def LoopF (w : World) (g : Nat) (F : Nat → Prop) (A : Option Addr) (T : Bs) (m : Nat) (s1 s5 : Value) (wr : World) : Prop := ∃ (rest y : Bs) (A1 : Option Addr) (c1 : Nat) (vy : Value) (G : List Bs), s1 = .slice A1 rest.length c1 ∧ Sl w A1 c1 rest ∧ (∀ p, A1 = some p → ∃ a, A = some a ∧ p.block = a.block) ∧ PL wr g vy y ∧ (∀ k, vy.ownBlock = some k → F k ∨ w.heap.size ≤ k) ∧ TxS wr (fun k => FL g vy k ∨ (k < w.heap.size ∧ ¬ F k)) s5 G ∧ Mod F w wr ∧ feedP T = (G ++ (feedP (y ++ rest)).1, (feedP (y ++ rest)).2) ∧ fr y = none ∧ rest.length + y.length + 2 * G.length ≤ m
/-- What Feed answers. -/
def FeedL (w : World) (g : Nat) (F : Nat → Prop) (T : Bs) (e : Ending) (w' : World) : Prop := ∃ v v', e = .returned v ∧ TxS w' (fun k => FL g v' k ∨ (k < w.heap.size ∧ ¬ F k)) v (feedP T).1 ∧ PL w' g v' (feedP T).2 ∧ fr (feedP T).2 = none ∧ Mod F w w' ∧ ∀ k, v'.ownBlock = some k → F k ∨ w.heap.size ≤ k

set_option maxHeartbeats 4000000 in
theorem feedL_any (g : Nat) (v : Value) (x b : Bs) (F : Nat → Prop) (A : Option Addr) (c : Nat) (w : World) (hx : PL w g v x) (hF : ∀ k, F k ↔ FL g v k) (hfx : fr x = none) (hb : Sl w A c b) (hA : Off F A) (hl : x.length + b.length ≤ 4398046511104) :
    Calls Try.prog 12 #[.pointer (some ⟨g, 0, none⟩), .slice A b.length c] w (FeedL w g F (x ++ b)) := by
  have MD := Lib.hid (made_any g v x w hx)
  have HD : Hid (∀ e w', FeedL w g F (x ++ b) e w' ↔ ∃ v v', e = .returned v ∧ TxS w' (fun k => FL g v' k ∨ (k < w.heap.size ∧ ¬ F k)) v (feedP (x ++ b)).1 ∧ PL w' g v' (feedP (x ++ b)).2 ∧ fr (feedP (x ++ b)).2 = none ∧ Mod F w w' ∧ ∀ k, v'.ownBlock = some k → F k ∨ w.heap.size ≤ k) := Lib.hid (fun _ _ => Iff.rfl)
  have L0 : Hid (∀ w1, Below w.heap.size w w1 → LoopF w g F A (x ++ b) (x.length + b.length) (.slice A b.length c) (.slice none 0 0) w1) := Lib.hid (fun w1 k => ⟨b, x, A, c, v, [], rfl, hb, fun p hp => ⟨p, hp, rfl⟩, hx.below k, fun k hk => .inl ((hF k).2 (.inr hk)), TxS.nil _ _, Mod.below k, by simp, hfx, by simp; omega⟩)
  have HA := Lib.hid hA
  have HF := Lib.hid hF
  have glt := (Array.getElem?_eq_some_iff.1 hx.1).1
  have HL := Lib.hid hl
  have HG : Hid (F g) := Lib.hid ((hF g).2 (.inl rfl))
  obtain ⟨m, hm⟩ : ∃ m, m = x.length + b.length := ⟨_, rfl⟩
  rw [← hm] at L0 HL
  generalize FeedL w g F (x ++ b) = Q at *
  generalize x ++ b = T at *
  generalize b.length = nb at *
  clear hx hF hfx hb hA hl hm
  go_enter Try.func12, Try.ntmps12
  go_wp2_with fail
  refine MD.out.mono ?_
  rintro e w0 ⟨rfl, k0⟩
  have HL0 := Lib.hid (L0.out w0 k0)
  clear MD L0 k0
  go_wp2_with fail
  go_loopw [1, 5] (fun s1 s5 wr => LoopF w g F A T m s1 s5 wr) (fun s1 _ _ => lenN s1)
  case atStart => exact HL0.out
  case round =>
    clear HL0
    obtain ⟨rest, y, A1, c1, vy, G, rfl, hr, hpl, hy, hvy, hG, hM, hT, hfy, hlen⟩ := hrel
    obtain ⟨n, hn⟩ : ∃ n, n = rest.length := ⟨_, rfl⟩
    rw [← hn]
    by_cases h0 : n = 0
    · have h0' : ¬ (0 : Int) < (n : Int) := by omega
      have hre : rest = [] := List.length_eq_zero_iff.1 (by omega)
      have HQ : Hid (Q (.returned u5) wr) := Lib.hid ((HD.out _ _).2 ⟨u5, vy, rfl, by
        subst hre
        rw [List.append_nil, feed_none hfy, List.append_nil] at hT
        rw [hT]
        exact ⟨hG, hy, hfy, hM, hvy⟩⟩)
      clear hr hpl hy hvy hG hM hT hfy hlen hn
      go_wp2_with fail
      exact HQ.out
    · have h0' : (0 : Int) < (n : Int) := by omega
      have hok := miss_ok hfy
      have hpos := miss_pos hfy
      have M1 := Lib.hid (missing_any g vy y wr hy hok.1 hok.2)
      obtain ⟨q, hq⟩ : ∃ q, q = missP y := ⟨_, rfl⟩
      rw [← hq] at M1
      have HY := Lib.hid hy
      have HR := Lib.hid hr
      have HPL := Lib.hid hpl
      have HVY := Lib.hid hvy
      have HGG := Lib.hid hG
      have HM := Lib.hid hM
      have HT := Lib.hid hT
      have HFY := Lib.hid hfy
      have HLEN := Lib.hid hlen
      have HN := Lib.hid hn
      have HQ := Lib.hid hq
      have HP := Lib.hid hpos
      clear hr hpl hy hvy hG hM hT hfy hlen hn hok hq hpos
      go_wp2_with fail
      refine M1.out.mono ?_
      rintro e w1 ⟨rfl, k1⟩
      have HK1 := Lib.hid k1
      obtain ⟨z, hz⟩ : ∃ z, z = min q n := ⟨_, rfl⟩
      have hmin : min (q : Int) (n : Int) = (z : Int) := by omega
      have hzn : z ≤ rest.length := by have := HN.out; omega
      obtain ⟨d, hd⟩ : ∃ d, d = rest.take z := ⟨_, rfl⟩
      obtain ⟨r2, hr2⟩ : ∃ r, r = rest.drop z := ⟨_, rfl⟩
      have ld : d.length = z := by rw [hd, List.length_take]; omega
      have lr : r2.length = n - z := by rw [hr2, List.length_drop, ← HN.out]
      have sp := slice_pre A1 rest c1 z z hzn HR.out.le rfl
      obtain ⟨A2, lo, s2, pl2⟩ := HR.out.rest z z hzn rfl
      rw [← hd, ld, ← HN.out] at sp
      rw [← hr2, lr, ← HN.out] at lo
      rw [← hr2] at s2
      have sd : Sl w A1 c1 d := by rw [hd]; exact ⟨HR.out.bys.pre z, by rw [← hd, ld]; have := HR.out.le; omega, HR.out.max, HR.out.nil⟩
      have offd : Off F A1 := fun p hp hf => by
        obtain ⟨a, ha, hb⟩ := HPL.out p hp
        rw [hb] at hf
        exact HA.out a ha hf
      have sd1 : Sl w1 A1 c1 d := ⟨(sd.bys.mod HM.out offd).on k1, sd.le, sd.max, sd.nil⟩
      have AD := Lib.hid (fun nq => add_any g vy y d A1 c1 (w1.drewN nq) ((HY.out.below k1).below (below_drewN (Below.refl _ _) nq)) (sd1.on (below_drewN (Below.refl _ _) nq)) (by have := HLEN.out; have := HL.out; have := HN.out; omega))
      rw [ld] at AD
      have HYD := Lib.hid (miss_step HFY.out (d := d) (by rw [ld, ← HQ.out]; omega))
      obtain ⟨y2, hy2⟩ : ∃ y2, y2 = y ++ d := ⟨_, rfl⟩
      rw [← hy2] at AD HYD
      have AO : Hid (∀ w' e w'', AddP w' g vy y2 e w'' → ∃ v', e = .returned (.tuple #[]) ∧ PL w'' g v' y2 ∧ Mod (FL g vy) w' w'' ∧ ∀ k, v'.ownBlock = some k → vy.ownBlock = some k ∨ w'.heap.size ≤ k) := Lib.hid (fun _ _ _ h => h)
      have HT2 : Hid (feedP T = (G ++ (feedP (y2 ++ r2)).1, (feedP (y2 ++ r2)).2)) := Lib.hid (by
        have e : y ++ rest = y2 ++ r2 := by rw [hy2, hd, hr2, List.append_assoc, List.take_append_drop]
        rw [← e]; exact HT.out)
      have HLN : Hid (r2.length + y2.length + 2 * G.length ≤ m) := Lib.hid (by have := HLEN.out; have := HN.out; rw [hy2, List.length_append]; omega)
      have HS2 := Lib.hid s2
      have HPL2 : Hid (∀ p, A2 = some p → ∃ a, A = some a ∧ p.block = a.block) := Lib.hid (fun p hp => by
        obtain ⟨a, ha, hb⟩ := pl2 p hp
        obtain ⟨a', ha', hb'⟩ := HPL.out a ha
        exact ⟨a', ha', hb.trans hb'⟩)
      have HLR := Lib.hid lr
      have hz0 : 0 < z ∧ z ≤ n := by have := HP.out; have := HQ.out; omega
      have LO := Lib.hid lo
      clear M1 hz hd hr2 ld lr s2 pl2 sd offd sd1 hy2 k1 hzn HR HPL HY HN HQ HP HT HLEN HFY lo
      go_wp2_with fail
      refine wp_region_quiet_tail 6 (by kernel_rfl) (by kernel_rfl) ?_
      simp only [List.take_succ_cons, List.take_zero, List.drop_succ_cons, List.drop_zero]
      repeat (go_big_quiet_step (fail))
      refine wpQuiet_nil ?_
      intro w3 hw3
      obtain ⟨nq, rfl⟩ := hw3
      have AD1 := Lib.hid (AD.out nq)
      clear AD sp
      go_wp2_with fail
      refine AD1.out.mono ?_
      intro e w2 had
      obtain ⟨v2, rfl, hy2, m2, f2⟩ := AO.out _ _ _ had
      have sz1 : w.heap.size ≤ w1.heap.size := Nat.le_trans HM.out.size HK1.out.size
      have mA : Mod F w (w1.drewN nq) := (HM.out.then HK1.out).then (below_drewN (Below.refl _ _) nq)
      have mB : Mod F w w2 := mA.trans m2 (fun i hi => by
        rcases hi with rfl | hi
        · exact .inl HG.out
        · exact HVY.out i hi)
      have gA : TxS (w1.drewN nq) (fun k => FL g vy k ∨ (k < w.heap.size ∧ ¬ F k)) u5 G := (HGG.out.on HK1.out).on (below_drewN (Below.refl _ _) nq)
      have gB : TxS w2 (fun k => FL g v2 k ∨ (k < w.heap.size ∧ ¬ F k)) u5 G := ((gA.wide (S' := fun k => (FL g vy k ∨ (k < w.heap.size ∧ ¬ F k)) ∨ (w1.drewN nq).heap.size ≤ k) (fun i hi => hi)).mod m2 (fun i hi => .inl (.inl hi))).wide (fun i hi => .inl (by
        rcases hi with (rfl | hi) | hi
        · exact .inl (.inl (.inl rfl))
        · rcases f2 i hi with h | h
          · exact .inl (.inl (.inr h))
          · exact .inr h
        · exact .inl (.inr hi)))
      have fB : ∀ k, v2.ownBlock = some k → F k ∨ w.heap.size ≤ k := fun k hk => by
        rcases f2 k hk with h | h
        · exact HVY.out k h
        · exact .inr (Nat.le_trans sz1 h)
      have MB := Lib.hid mB
      have GB := Lib.hid gB
      have FB := Lib.hid fB
      have HY2 := Lib.hid hy2
      have M2 := Lib.hid (missing_any g v2 y2 w2 hy2 HYD.out.1 HYD.out.2.1)
      have lo := LO.out
      obtain ⟨q2, hq2⟩ : ∃ q, q = missP y2 := ⟨_, rfl⟩
      rw [← hq2] at M2
      have HQ2 := Lib.hid hq2
      clear had hy2 m2 f2 mA mB gA gB fB HM HGG HVY HK1 AD1 AO hq2 LO sz1
      go_wp2_with fail
      refine M2.out.mono ?_
      rintro e w3 ⟨rfl, k3⟩
      have K3 := Lib.hid k3
      have hy3 := HY2.out.below k3
      have m3 := MB.out.then k3
      have g3 := GB.out.on k3
      have e3 : (if q2 = 0 then 0 else 1) = (if q2 = 0 then 0 else 1) := rfl
      by_cases hz : q2 = 0
      · have hfr := HYD.out.2.2.1 (by rw [← HQ2.out]; exact hz)
        have TA := Lib.hid (takeAll_any g v2 y2 w3 hy3)
        obtain ⟨A3, c3, rfl, s3⟩ := hy3.2.1.bysN
        obtain ⟨A4, lo4, s4, pl4⟩ := s3.rest 2 2 hfr.2 rfl
        obtain ⟨yd, hyd⟩ : ∃ z, z = y2.drop 2 := ⟨_, rfl⟩
        rw [← hyd] at lo4 s4
        obtain ⟨nd, hnd⟩ : ∃ z, z = yd.length := ⟨_, rfl⟩
        rw [← hnd] at lo4
        have HT3 : Hid (feedP T = (G ++ [yd] ++ (feedP ([] ++ r2)).1, (feedP ([] ++ r2)).2)) := Lib.hid (by
          rw [HT2.out, feed_some (fr_app r2 hfr.1), hyd]
          simp)
        have HL3 : Hid (r2.length + ([] : Bs).length + 2 * (G ++ [yd]).length ≤ m) := Lib.hid (by have h1 := HLN.out; have h2 := hfr.2; simp at *; omega)
        have hxb : ∀ k, (Value.slice A4 nd (c3 - 2)).ownBlock = some k → (Value.slice A3 y2.length c3).ownBlock = some k := fun k hk => by
          cases A4 with
          | none => cases hk
          | some a4 =>
            obtain ⟨a, ha, hb⟩ := pl4 a4 rfl
            subst ha
            simp only [Value.ownBlock] at hk ⊢
            rw [← hb]; exact hk
        have hlt3 : ∀ k, (Value.slice A3 y2.length c3).ownBlock = some k → k < w3.heap.size := fun k hk => (hy3.2.1.lt k hk).2
        have HS4 := Lib.hid s4
        have HXB := Lib.hid hxb
        have HLT := Lib.hid hlt3
        have HY3 := Lib.hid hy3
        have HM3 := Lib.hid m3
        have HG3 := Lib.hid g3
        have HND := Lib.hid hnd
        subst hz
        clear hfr s3 s4 pl4 hyd hxb hlt3 hy3 m3 g3 hnd M2 MB GB HY2 k3 HYD HQ2 HT2 HLN
        go_wp2_with fail
        refine TA.out.mono ?_
        rintro e w4 ⟨rfl, hp4, g4⟩
        obtain ⟨xv, hxv⟩ : ∃ xv, xv = Value.slice A4 nd (c3 - 2) := ⟨_, rfl⟩
        have mg : Mod (fun k => k = g) w3 w4 := Mod.grown g4 (fun k hk => by injection hk with hk; exact hk.symm)
        have hxg : OffV (fun k => k = g) xv := fun k hk e => by
          subst e
          rw [hxv] at hk
          exact HY3.out.2.2 (HXB.out _ hk)
        have sv3 : SlV w3 xv yd := by rw [hxv]; exact ⟨⟨A4, c3 - 2, by rw [← HND.out], HS4.out⟩, fun k hk => HLT.out k (HXB.out k hk)⟩
        have sv4 := sv3.mod mg hxg
        have szA : w3.heap.size ≤ w4.heap.size := g4.size
        have sz3 : w.heap.size ≤ w3.heap.size := HM3.out.size
        have hu5 : ∀ k, u5.ownBlock = some k → k < w3.heap.size ∧ ¬ FL g (Value.slice A3 y2.length c3) k ∧ ¬ (k < w.heap.size ∧ ¬ F k) := fun k hk => by
          obtain ⟨xs, o1, off, -⟩ := HG3.out
          exact ⟨(o1.lt k hk).2, fun e => off k hk (.inl e), fun e => off k hk (.inr e)⟩
        have tS : TxS (w4.alloc (.cells #[xv] 26)) (fun k => FL g (.slice none 0 0) k ∨ (k < w.heap.size ∧ ¬ F k)) u5 G := ((HG3.out.mod mg (fun i hi => .inl (.inl hi))).wide (fun i hi => .inl (by
          rcases hi with (hi | hi) | hi
          · exact .inl (.inl hi)
          · simp [Value.ownBlock] at hi
          · exact .inr hi))).on (Below.alloc (Below.refl _ _) (Nat.le_refl _) _)
        have tO : TxS (w4.alloc (.cells #[xv] 26)) (fun k => (FL g (.slice none 0 0) k ∨ (k < w.heap.size ∧ ¬ F k)) ∨ u5.ownBlock = some k) (.slice (some ⟨w4.heap.size, 0, none⟩) 1 1) [yd] := TxS.one sv4 (fun k hk e => by
          have hb := hk
          rw [hxv] at hb
          have hb := HXB.out k hb
          rcases e with ((e | e) | e) | e
          · exact hxg k hk e
          · simp [Value.ownBlock] at e
          · rcases FB.out k hb with h | h
            · exact e.2 h
            · omega
          · exact (hu5 k e).2.1 (.inr hb)) (fun k e => by
          rcases e with ((e | e) | e) | e
          · subst e; omega
          · simp [Value.ownBlock] at e
          · omega
          · have := (hu5 k e).1; omega)
        have bq : Below w4.heap.size w4 (w4.alloc (.cells #[xv] 26)) := Below.alloc (Below.refl _ _) (Nat.le_refl _) _
        have HTS := Lib.hid tS
        have HTO := Lib.hid tO
        have HP4 := Lib.hid (hp4.below bq)
        have HU5 := Lib.hid hu5
        have HM4 := Lib.hid ((HM3.out.trans (mg.wide (S' := F) (fun i hi => by rw [hi]; exact HG.out)) (fun i hi => .inl hi)).then bq)
        have HGL : Hid ((G.length + [yd].length) * 24 ≤ 140737488355328) := Lib.hid (by have h1 := HL3.out; have h2 := HL.out; simp at h1 ⊢; omega)
        have HSZ : Hid (∀ k, (FL g (.slice none 0 0) k ∨ (k < w.heap.size ∧ ¬ F k)) → k < (w4.alloc (.cells #[xv] 26)).heap.size) := Lib.hid (fun k e => by
          rcases e with (e | e) | e
          · subst e; simp; omega
          · simp [Value.ownBlock] at e
          · simp; omega)
        rw [← hxv] at lo4
        obtain ⟨A5, n5, c5, hx5⟩ : ∃ A n c, xv = .slice A n c := ⟨_, _, _, hxv⟩
        clear hxv mg hxg sv3 sv4 hu5 tS tO bq hp4 g4 HY3 HXB HLT FB HS4 HND HG3 HM3 TA K3 szA
        subst hx5
        go_wp2_with (first
          | (at_builtin; refine wpList_app_txs rfl (.tmp 31) (.tmp 37) rfl (S := fun k => FL g (.slice none 0 0) k ∨ (k < w.heap.size ∧ ¬ F k)) (S2 := fun k => (FL g (.slice none 0 0) k ∨ (k < w.heap.size ∧ ¬ F k)) ∨ u5.ownBlock = some k) rfl rfl HTS.out HTO.out (fun k e => .inl e) HSZ.out (fun k e => .inr e) HGL.out ?_)
          | fail)
        intro v6 w6 t6 g6 f6
        have hp6 : PL w6 g (.slice none 0 0) [] := ⟨(g6.block g (HSZ.out g (.inl (.inl rfl))) (fun e => (HU5.out g e.symm).2.1 (.inl rfl))).trans HP4.out.1, .inl ⟨rfl, rfl⟩, by simp [Value.ownBlock]⟩
        have m6 : Mod F w w6 := HM4.out.trans (Mod.grown (S := fun k => u5.ownBlock = some k) g6 (fun k hk => hk)) (fun k hk => by
          have := (HU5.out k hk).2.2
          by_cases hF : F k
          · exact .inl hF
          · exact .inr (Nat.le_of_not_lt (fun h => this ⟨h, hF⟩)))
        have HP6 := Lib.hid hp6
        have HM6 := Lib.hid m6
        have HT6 := Lib.hid t6
        clear hp6 m6 t6 g6 f6 HTS HTO HP4 HU5 HM4 HGL HSZ lo lo4
        go_wp2_with fail
        go_roundw
        case rel => exact ⟨r2, [], A2, c1 - z, .slice none 0 0, G ++ [yd], by rw [← HLR.out], HS2.out, HPL2.out, HP6.out, fun k hk => by simp [Value.ownBlock] at hk, HT6.out, HM6.out, HT3.out, rfl, HL3.out⟩
        case measure => simp only [lenN]; omega
      · have hzz : ¬ (q2 : Int) = 0 := by omega
        have hfr := HYD.out.2.2.2 (by rw [← HQ2.out]; exact hz)
        have HY3 := Lib.hid hy3
        have HM3 := Lib.hid m3
        have HG3 := Lib.hid g3
        have HFR := Lib.hid hfr
        clear hy3 m3 g3 hfr k3 MB GB HY2 M2 HYD HQ2 K3
        go_wp2_with fail
        go_roundw
        case rel => exact ⟨r2, y2, A2, c1 - z, v2, G, by rw [← HLR.out], HS2.out, HPL2.out, HY3.out, FB.out, HG3.out, HM3.out, HT2.out, HFR.out, HLN.out⟩
        case measure => simp only [lenN]; omega
/-- The landed reader. -/
def LandP : RdrP := fun w F p x => ∃ g v, p = .pointer (some ⟨g, 0, none⟩) ∧ PL w g v x ∧ (∀ k, F k ↔ FL g v k) ∧ fr x = none
theorem landP : PfI LandP where
  mod := fun {S F w w1 p x} h k hn => by
    obtain ⟨g, v, rfl, hx, hF, hf⟩ := h
    exact ⟨g, v, rfl, ⟨k.row hx.1 (hn g ((hF g).2 (.inl rfl))), hx.2.1.mod k (fun j hj e => hn j ((hF j).2 (.inr hj)) e), hx.2.2⟩, hF, hf⟩
  lt := fun {F w p x} h k hk => by
    obtain ⟨g, v, rfl, hx, hF, hf⟩ := h
    rcases (hF k).1 hk with rfl | e
    · exact (Array.getElem?_eq_some_iff.1 hx.1).1
    · exact (hx.2.1.lt k e).2
  new := fun w => (new_any w).mono fun e w' ⟨g, he, hx, hB, hg⟩ => ⟨_, FL g (.slice none 0 0), he, ⟨g, _, rfl, hx, fun _ => Iff.rfl, rfl⟩, hB, fun k hk => by
    rcases hk with rfl | e
    · exact hg
    · simp [Value.ownBlock] at e⟩
  feed := fun {F p x b A c w} h hb hA hl => by
    obtain ⟨g, v, rfl, hx, hF, hf⟩ := h
    refine (feedL_any g v x b F A c w hx hF hf hb hA hl).mono ?_
    rintro e w' ⟨v1, v', he, ht, hx', hf', hM, hO⟩
    exact ⟨v1, FL g v', he, ht, ⟨g, v', rfl, hx', fun _ => Iff.rfl, hf'⟩, hM, fun k hk => by
      rcases hk with rfl | hk
      · exact .inl ((hF k).2 (.inl rfl))
      · exact hO k hk⟩
  left := fun {F p x w} h => by
    obtain ⟨g, v, rfl, hx, hF, hf⟩ := h
    exact left_any g v x w hx
  enc := encL_any
end Go.Proofs.Ytdifemaidngnjaa
