/-
  The walk of PrefixWaits.
-/
import Derived.Test.YtdifemaidngnjaaPfF
import Derived.Test.YtdifemaidngnjaaPfD
namespace Go.Proofs.Ytdifemaidngnjaa
open Go.RowKit
set_option linter.unusedVariables false
set_option maxRecDepth 100000

theorem feed_waits {b : Bs} (h : b.length ≤ 65535) {n : Nat} (hn : n < (encP b).length) : feedP ((encP b).take n) = ([], (encP b).take n) ∧ feedP ((encP b).take n ++ (encP b).drop n) = ([b], []) := by
  refine ⟨feed_none (fr_begin h hn), ?_⟩
  rw [List.take_append_drop]
  have := feed_encs [b] (by simpa using h) []
  simpa [feed_none (show fr [] = none from rfl)] using this
theorem encP_len (b : Bs) : (encP b).length = b.length + 2 := by simp [encP]

set_option maxHeartbeats 4000000 in
set_option maxRecDepth 100000 in
theorem PrefixWaits_any {PR : RdrP} (I : PfI PR) (A : Option Addr) (b : Bs) (c : Nat) (n : Int) (w : World) (hb : Sl w A c b) : Calls Try.prog 7 #[.slice A b.length c, .int .i64 n] w fun e w' => e = .returned (.bool true) ∧ Below w.heap.size w w' := by
  obtain ⟨d, hd⟩ : ∃ d, d = b.take 500 := ⟨_, rfl⟩
  obtain ⟨q, hq⟩ : ∃ q, q = d.length := ⟨_, rfl⟩
  have hq2 : q = min b.length 500 := by rw [hq, hd, List.length_take]; omega
  have sp := slice_pre A b c (min b.length 500) (min (b.length : Int) 500) (by omega) hb.le (by omega)
  have hsd : Sl w A c d := by rw [hd]; exact ⟨hb.bys.pre 500, by rw [List.length_take]; have := hb.le; omega, hb.max, hb.nil⟩
  rw [show b.take (min b.length 500) = d by rw [hd, List.take_eq_take_iff]; omega] at sp
  have hmin : min (b.length : Int) 500 = (q : Int) := by omega
  rw [hmin, ← hq] at sp
  have hd5 : q ≤ 500 := by omega
  have HD := Lib.hid hd
  have HQ := Lib.hid hq
  obtain ⟨nb, hnb⟩ : ∃ n, n = b.length := ⟨_, rfl⟩
  rw [← hnb] at sp hmin
  rw [← hnb]
  have E1 := Lib.hid (I.enc A d c w hsd)
  rw [← hq] at E1
  have HSD := Lib.hid hsd
  have HSW := Lib.hid hsd
  clear hd hq hq2 hnb hb hsd
  go_enter Try.func7, Try.ntmps7
  go_wp2_with fail
  refine E1.out.mono ?_
  rintro e w1 ⟨k1, ⟨hl, rfl⟩ | ⟨hl, v, rfl, ho⟩⟩
  · have := HQ.out; omega
  obtain ⟨A1, c1, rfl, s1⟩ := ho.bysN
  obtain ⟨x, hx⟩ : ∃ x, x = encP d := ⟨_, rfl⟩
  rw [← hx] at s1 ho
  rw [← hx]
  have hm : x.length = q + 2 := by rw [hx, encP_len, HQ.out]
  have FW := Lib.hid (fun k (hk : k < x.length) => feed_waits (b := d) hl (n := k) (by rw [← hx]; exact hk))
  rw [← hx] at FW
  obtain ⟨m, hmx⟩ : ∃ m, m = x.length := ⟨_, rfl⟩
  obtain ⟨N, r1, r2, r3, r4, r5⟩ := rem_u64 n m (by omega) (by omega)
  have spx := slice_pre A1 x c1 N N (by omega) s1.le rfl
  obtain ⟨A2, lo, s2, pl2⟩ := s1.rest N N (by omega) rfl
  have s3 : Sl w1 A1 c1 (x.take N) := ⟨s1.bys.pre N, by rw [List.length_take]; have := s1.le; omega, s1.max, s1.nil⟩
  have hm2 : ¬ (m : Int) < 2 := by omega
  have hmz : ¬ (m : Int) = 0 := by omega
  rw [← hmx] at spx lo
  obtain ⟨f1, f2⟩ := FW.out N (by omega)
  rw [← hmx]
  have hd1 := HSD.out.on k1
  have HX := Lib.hid hx
  have hm5 : m ≤ 502 := by omega
  have hN5 : N < m := r2
  have HF1 := Lib.hid f1
  have HF2 := Lib.hid f2
  have HM := Lib.hid hmx
  have h1a := ho.lt
  have big1 := k1.size
  have lx : (x.take N).length = N := by rw [List.length_take]; omega
  have lr : (x.drop N).length = m - N := by rw [List.length_drop]; omega
  rw [lx] at spx
  rw [lr] at lo
  have HLX := Lib.hid lx
  have HLR := Lib.hid lr
  have HS2 := Lib.hid s2
  have HS3 := Lib.hid s3
  have HP2 := Lib.hid pl2
  have HLO := Lib.hid lo
  have K1 := Lib.hid k1
  have HD1 := Lib.hid hd1
  have hA1 : Hid (∀ p, A1 = some p → w.heap.size ≤ p.block ∧ p.block < w1.heap.size) := Lib.hid (fun p hp => by subst hp; exact ho.lt p.block rfl)
  clear hx hmx f1 f2 FW E1 HSD hd1 k1 s1 s2 s3 pl2 lx lr ho h1a hm lo sp hmin
  go_wp2_with fail
  refine (I.new _).mono ?_
  rintro e w2 ⟨p, F, rfl, hp, k2, hF⟩
  have HPF := Lib.hid hF
  have offA : Off F A1 := fun a ha hf => by have := (hA1.out a ha).2; have := hF _ hf; omega
  have FD1 := Lib.hid (I.feed hp (HS3.out.on k2) offA (by rw [HLX.out]; simp; omega))
  rw [HLX.out] at FD1
  have bel2 := Below.trans K1.out (k2.mono big1)
  have big2 := Nat.le_trans big1 k2.size
  clear hF offA hp
  go_wp2_with fail
  refine FD1.out.mono ?_
  rintro e w3 ⟨v3, F3, rfl, t3, hp3, m3, hF3⟩
  have e1 : feedP ([] ++ x.take N) = ([], x.take N) := HF1.out
  rw [e1] at t3 hp3
  replace t3 : TxS w3 (fun k => F3 k ∨ (k < w2.heap.size ∧ ¬ F k)) v3 [] := t3
  replace hp3 : PR w3 F3 p (x.take N) := hp3
  obtain ⟨A3, c3, rfl, -⟩ := t3.byss
  have hF3b : Hid (∀ k, F3 k → w.heap.size ≤ k ∧ (k < w1.heap.size → False)) := Lib.hid (fun k hk => by
    rcases hF3 k hk with h | h
    · have := HPF.out k h; exact ⟨by omega, fun e => by omega⟩
    · have := k2.size; exact ⟨by omega, fun e => by omega⟩)
  have bel3 := Mod.out bel2 m3 big2 (fun k hk => by have := HPF.out k hk; omega)
  have big3 := Nat.le_trans big2 m3.size
  have s2b : Sl w3 A2 (c1 - N) (x.drop N) := ⟨(HS2.out.on k2).bys.mod m3 (fun a ha hf => by
    obtain ⟨a', ha', hb'⟩ := HP2.out a ha
    have h1 := (hA1.out a' ha').2
    have h2 := HPF.out _ hf
    rw [hb'] at h2
    omega), HS2.out.le, HS2.out.max, HS2.out.nil⟩
  have LF := Lib.hid (I.left hp3)
  rw [HLX.out] at LF
  have HP3 := Lib.hid hp3
  have HS2b := Lib.hid s2b
  have B3 := Lib.hid bel3
  have hl0 : ¬ (0 : Int) > 0 := by omega
  have hNN : ((N : Int) != (N : Int)) = false := by simp
  clear FD1 e1 t3 hp3 m3 hF3 bel3 bel2 s2b HPF k2 HS2 HS3 HD1 K1
  go_wp2_with fail
  refine LF.out.mono ?_
  rintro e w4 ⟨rfl, k4⟩
  have hp4 := I.on HP3.out k4
  have offA : Off F3 A2 := fun a ha hf => by
    obtain ⟨a', ha', hb'⟩ := HP2.out a ha
    have h1 := (hA1.out a' ha').2
    have h2 := (hF3b.out _ hf).2
    rw [hb'] at h2
    exact h2 h1
  have FD2 := Lib.hid (I.feed hp4 (HS2b.out.on k4) offA (by rw [HLX.out, HLR.out]; omega))
  rw [HLR.out] at FD2
  have bel4 := Below.trans B3.out (k4.mono big3)
  have big4 := Nat.le_trans big3 k4.size
  have lo' := HLO.out
  clear LF HP3 hp4 offA HS2b B3 k4 spx
  go_wp2_with fail
  refine FD2.out.mono ?_
  rintro e w5 ⟨v5, F5, rfl, t5, hp5, m5, hF5⟩
  rw [HF2.out] at t5 hp5
  replace t5 : TxS w5 (fun k => F5 k ∨ (k < w4.heap.size ∧ ¬ F3 k)) v5 [d] := t5
  replace hp5 : PR w5 F5 p [] := hp5
  obtain ⟨A5, c5, rfl, hby, -⟩ := t5.byss
  obtain ⟨g5, o5, rfl, hc5⟩ := hby (by simp)
  obtain ⟨a6, c6, q6, y6, -⟩ := hc5 0 (by simp)
  have bel5 := Mod.out bel4 m5 big4 (fun k hk => (hF3b.out k hk).1)
  have big5 := Nat.le_trans big4 m5.size
  have EQ := Lib.hid (EqualB_any a6 A d d q q c6 c w5 y6 (HSW.out.on bel5).bys HQ.out HQ.out)
  rw [show (d == d) = true by simp] at EQ
  replace q6 : w5.cell? ⟨g5, o5, none⟩ = some (.slice a6 q c6) := by rw [HQ.out]; exact q6
  have LF5 := Lib.hid (I.left hp5)
  have B5 := Lib.hid bel5
  clear FD2 t5 hp5 m5 hF5 hby hc5 y6 bel4 bel5 lo' hF3b HLO
  go_wp2_with fail
  refine EQ.out.mono ?_
  rintro e w6 ⟨rfl, rfl⟩
  go_wp2_with fail
  refine LF5.out.mono ?_
  rintro e w7 ⟨rfl, k7⟩
  have b7 := Below.trans B5.out (k7.mono big5)
  go_wp2_with fail
  go_ret
  exact ⟨rfl, b7⟩
end Go.Proofs.Ytdifemaidngnjaa
