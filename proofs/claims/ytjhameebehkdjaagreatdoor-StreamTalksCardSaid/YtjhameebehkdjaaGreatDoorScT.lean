/-
  The walk of StreamTalks, for each kind of stream.
-/
import Derived.Test.YtjhameebehkdjaaGreatDoorSy
import Derived.Test.YtjhameebehkdjaaGreatDoorHwA
import Derived.Test.YtjhameebehkdjaaGreatDoorHtZa
import Derived.Test.YtjhameebehkdjaaGreatDoorHy
import Derived.Deep.CutBlock
import Derived.Deep.DeepCutAuto
import Derived.Deep.RegionWith
namespace Go.Proofs.YtjhameebehkdjaaGreatDoor
open Go.RowKit Go.Shelf
set_option linter.unusedVariables false
set_option maxRecDepth 100000

def chK (t : Int) (k : Nat) : Bool := bits .and .u64 (t / 2 ^ k) 1 == 1
theorem rAsk_any (A : Option Addr) (b : Bs) (c : Nat) (ch : Bool) (w : World) (hb : Sl w A c b) (hn : b.length ≤ 65535) : Calls Tryz.prog 6 #[.slice A b.length c, .bool ch] w (ReplyOk w (askK true ch b)) := by
  cases ch
  · exact rAsk_plain A b c w hb hn
  · exact rAsk_chunk A b c w hb hn
theorem encK_any (A : Option Addr) (b : Bs) (c : Nat) (ch : Bool) (w : World) (hb : Sl w A c b) (hn : b.length ≤ 65535) : Calls Tryz.prog 5 #[.slice A b.length c] w (ReplyOk w (askK false ch b)) :=
  (encL_any A b c w hb).mono fun e w' ⟨k, h⟩ => by
    rcases h with ⟨h, -⟩ | ⟨-, v, h1, h2⟩
    · omega
    · exact ⟨v, h1, h2, k⟩
theorem cut_in {y : Bs} {A : Option Addr} {d m : Nat} {w : World} (h : Bys w A y) (h1 : y.length ≤ d) (h2 : d ≤ 9223372036854775807) (h3 : A = none → d = 0) : ∃ z, z.length = min y.length m ∧ Sl w A d z ∧ ∀ W : World, (Instr.slice 29 (.slice A y.length d) none (some (.int .i64 (z.length : Int))) none).run Tryz.prog W = .ok (.slice A z.length d) W := by
  refine ⟨y.take m, by rw [List.length_take]; omega, ⟨h.pre m, by rw [List.length_take]; omega, h2, h3⟩, fun W => ?_⟩
  have e1 : y.take (min y.length m) = y.take m := by rw [List.take_eq_take_iff]; omega
  have sp := slice_pre A y d (min y.length m) ((y.take m).length : Int) (by omega) h1 (by rw [List.length_take]; omega)
  rw [e1] at sp
  exact sp W

set_option maxHeartbeats 4000000 in
set_option maxRecDepth 100000 in
theorem StreamTalks_false (kind : Int) (r1 : Int.tmod (IntKind.u64.wrap kind) 2 = 0) (A : Option Addr) (L : List Bs) (c : Nat) (Ap : Option Addr) (Lp : List Bs) (cp : Nat) (t : Int) (w : World) (hL : Byss w A L) (hm : L.length ≤ 9223372036854775807) (hP : Byss w Ap Lp) (hmp : Lp.length ≤ 9223372036854775807) (ht : 0 ≤ t ∧ t ≤ 18446744073709551615) (hM : MaxL w) (hI : ∀ n w', n ≤ 65535 → Below w.heap.size w w' → IT n w') : Calls Tryz.prog 3 #[.int .i64 kind, .slice A L.length c, .slice Ap Lp.length cp, .int .u64 t] w fun e w' => e = .returned (.bool true) ∧ Below w.heap.size w w' := by
  have HL := Lib.hid hL
  have HPL := Lib.hid hP
  have HM9 := Lib.hid hM
  have HTT := Lib.hid ht
  have HI := Lib.hid hI
  obtain ⟨n, hn⟩ : ∃ n, n = L.length := ⟨_, rfl⟩
  obtain ⟨np, hnp⟩ : ∃ n, n = Lp.length := ⟨_, rfl⟩
  rw [← hn, ← hnp]
  rw [← hn] at hm
  rw [← hnp] at hmp
  have HN := Lib.hid hn
  have HNP := Lib.hid hnp
  have NEW := Lib.hid (fun W => newK_any false W)
  simp only [Bool.false_eq_true, if_false] at NEW
  have KW := Lib.hid (Below.alloc (Below.refl w.heap.size w) (Nat.le_refl _) (.cells #[.int .i64 1, .int .i64 2] 3))
  clear hL hP hn hnp hM ht hI
  go_enter Tryz.func3, Tryz.ntmps3
  go_wp2_with fail
  refine (NEW.out _).mono ?_
  rintro e w1 ⟨ga, Fa, rfl, ka, sta, hFa⟩
  have KA := Lib.hid (KW.out.trans (ka.mono (by simp)))
  have STA := Lib.hid sta
  have HFA : Hid (∀ j, Fa j → w.heap.size ≤ j) := Lib.hid (fun j hj => by have := hFa j hj; simp at this; omega)
  clear ka sta hFa KW NEW
  go_upto_block 0 with fail
  go_cut [40] (fun _ wx => ∃ F, StM wx F ga (startK false) ∧ (∀ j, F j → w.heap.size ≤ j) ∧ Below w.heap.size w wx)
  case first =>
    go_wp2_with fail
    go_loopw [40] (fun v40 wr => ∃ (k : Nat) (F : Nat → Prop), v40 = .int .i64 k ∧ k ≤ n ∧ k ≤ 11 ∧ Hid (StM wr F ga (startK false)) ∧ Hid (∀ j, F j → w.heap.size ≤ j) ∧ Hid (Below w.heap.size w wr)) (fun v40 _ => n - (intOf v40).toNat)
    case atStart => exact ⟨0, Fa, rfl, by omega, by omega, STA, HFA, KA⟩
    case round =>
      obtain ⟨k, F, rfl, hk, hk11, HST, HF, HB⟩ := hrel
      rename World => wr
      clear STA HFA KA
      by_cases hlt : k < n
      · have hlt' : (k : Int) < (n : Int) := by omega
        have kL : k < L.length := by have := HN.out; omega
        obtain ⟨g1, o1, rfl, hc1⟩ := HL.out (by omega)
        obtain ⟨a1, d1, C1, D1, hd1, hm1, hn1⟩ := hc1 k kL
        have C1' := cell_on C1 HB.out
        by_cases h20 : (10 : Int) < (k : Int)
        · have hk2 : k = 11 := by omega
          subst hk2
          have HF : Hid (∃ F, StM wr F ga (startK false) ∧ (∀ j, F j → w.heap.size ≤ j) ∧ Below w.heap.size w wr) := Lib.hid ⟨F, HST.out, HF.out, HB.out⟩
          generalize L[11] = y at *
          clear hc1 C1 D1 HST HB
          go_wp2_with fail
          go_meet
          exact HF.out
        · have h20' : ¬ (k : Int) > 10 := by omega
          generalize L[k] = y at *
          obtain ⟨z, hzl, sz0, sp⟩ := cut_in (m := 400) D1 hd1 hm1 hn1
          obtain ⟨ly, hly⟩ : ∃ n, n = y.length := ⟨_, rfl⟩
          obtain ⟨lz, hlz⟩ : ∃ n, n = z.length := ⟨_, rfl⟩
          rw [← hly] at sp C1' hzl
          rw [← hlz] at sp hzl
          have hmin : min (ly : Int) 400 = (lz : Int) := by omega
          have hlz5 : z.length ≤ 500 := by rw [← hlz]; omega
          obtain ⟨cb, hcb⟩ : ∃ cb, cb = chK t k := ⟨_, rfl⟩
          have E0 := Lib.hid (encK_any a1 z d1 cb wr (sz0.on HB.out) (by omega))
          have hrm : Int.tmod (k : Int) 32 = (k : Int) := Int.tmod_eq_of_lt (by omega) (by omega)
          have hbit : (bits .and .u64 (t / 2 ^ k) 1 == 1) = cb := hcb.symm
          rw [← hlz] at E0
          have HLZ := Lib.hid hlz
          have HZ5 := Lib.hid hlz5
          have HSZ := Lib.hid sz0
          clear hcb hly hlz hzl sz0 hc1 C1 D1 hd1 hm1 hn1 kL hlz5
          go_wp2_with fail
          refine E0.out.mono ?_
          rintro e w4 ⟨v, rfl, hv, k4⟩
          obtain ⟨Af, cf, rfl, sf⟩ := hv.bysN
          obtain ⟨w5, hw5⟩ : ∃ w5, w5 = w4 := ⟨_, rfl⟩
          rw [← hw5] at hv sf k4 ⊢
          have k1 := k4
          clear hw5 k4 E0
          obtain ⟨good, one, back⟩ := one_all false cb z HZ5.out
          have hfl0 := askK_len false cb z HZ5.out
          have szw := k1.size
          have offF : Off F Af := fun a ha e => by
            have h1 := HST.out.lt _ e
            subst ha
            have h2 := (hv.lt a.block rfl).1
            omega
          have BW5 := Lib.hid (HB.out.trans (k1.mono HB.out.size))
          have FD := Lib.hid (feedS_any ga F (startK false) (askK false cb z) Af cf w5 (HST.out.on k1) sf offF (HM9.out.on BW5.out) (fun e => by have h1 := HF.out _ e; have h2 := HM9.out.lt; omega) good (by have : lenK (startK false) = 0 := rfl; omega) (by rw [one]; simp))
          have FO : Hid (∀ e w', FeedKP w5 F ga (startK false) (askK false cb z) e w' → ∃ v F1, e = .returned v ∧ StM w' F1 ga (startK false) ∧ Mod F w5 w' ∧ (∀ j, F1 j → F j ∨ w5.heap.size ≤ j) ∧ ∃ S, FrS w' S v [z]) := Lib.hid (fun e w' h => by
            obtain ⟨v, F1, q1, q2, q3, q4, q5⟩ := h
            rw [back] at q2
            rw [one] at q5
            exact ⟨v, F1, q1, q2, q3, q4, _, q5⟩)
          obtain ⟨fl, hfl⟩ : ∃ n, n = (askK false cb z).length := ⟨_, rfl⟩
          rw [← hfl] at FD ⊢
          have SZW := Lib.hid szw
          clear good one back hfl0 szw offF hv sf k1 hfl
          go_wp2_with fail
          with_reducible refine FD.out.mono ?_
          intro e w6 hfd
          obtain ⟨v6, F1, rfl, st6, m6, hF1, S6, fr6⟩ := FO.out e w6 hfd
          obtain ⟨g6, c6, a6, d6, rfl, e60, e61, s6⟩ := fr6.lone
          have BW6 := Lib.hid (Mod.out BW5.out m6 BW5.out.size (fun i hi => HF.out i hi))
          have EQ := Lib.hid (EqualB_any a6 a1 z z z.length z.length d6 d1 w6 s6.bys (HSZ.out.on BW6.out).bys rfl rfl)
          rw [show (z == z) = true by simp, ← HLZ.out] at EQ
          rw [← HLZ.out] at e60
          have ST6 := Lib.hid st6
          have HF6 : Hid (∀ j, F1 j → w.heap.size ≤ j) := Lib.hid (fun j hj => by
            rcases hF1 j hj with h | h
            · exact HF.out j h
            · have := BW5.out.size; omega)
          clear hfd st6 m6 hF1 fr6 s6 FD FO
          go_wp2_with fail
          refine EQ.out.mono ?_
          rintro e w7 ⟨rfl, rfl⟩
          clear EQ e60 e61
          go_wp2_with fail
          go_roundw
          case rel => exact ⟨k + 1, F1, by go_num, by omega, by omega, ST6, HF6, BW6⟩
          case measure => simp [intOf]; omega
      · have hlt' : ¬ (k : Int) < (n : Int) := by omega
        have HF : Hid (∃ F, StM wr F ga (startK false) ∧ (∀ j, F j → w.heap.size ≤ j) ∧ Below w.heap.size w wr) := Lib.hid ⟨F, HST.out, HF.out, HB.out⟩
        clear HST HB
        go_wp2_with fail
        go_meet
        exact HF.out
  case rest =>
    obtain ⟨F0, stc, hF0, bc⟩ := hcut
    have STC := Lib.hid stc
    have HF0 := Lib.hid hF0
    have HBC := Lib.hid bc
    clear stc hF0 bc STA HFA KA HL HN hm
    go_upto_block 2 with fail
    go_cut [98] (fun _ wx => ∃ F, StM wx F ga (startK false) ∧ Below w.heap.size w wx)
    case first =>
      go_wp2_with fail
      go_loopw [98] (fun v98 wr => ∃ (k : Nat), v98 = .int .i64 k ∧ k ≤ np ∧ k ≤ 11 ∧ Hid (StM wr F0 ga (startK false)) ∧ Hid (Below w.heap.size w wr)) (fun v98 _ => np - (intOf v98).toNat)
      case atStart => exact ⟨0, rfl, by omega, by omega, STC, HBC⟩
      case round =>
        obtain ⟨k, rfl, hk, hk11, HST, HB⟩ := hrel
        rename World => wr
        clear STC HBC
        by_cases hlt : k < np
        · have hlt' : (k : Int) < (np : Int) := by omega
          have kL : k < Lp.length := by have := HNP.out; omega
          obtain ⟨g1, o1, rfl, hc1⟩ := HPL.out (by omega)
          obtain ⟨a1, d1, C1, D1, hd1, hm1, hn1⟩ := hc1 k kL
          have C1' := cell_on C1 HB.out
          by_cases h20 : (10 : Int) < (k : Int)
          · have hk2 : k = 11 := by omega
            subst hk2
            have HF : Hid (∃ F, StM wr F ga (startK false) ∧ Below w.heap.size w wr) := Lib.hid ⟨F0, HST.out, HB.out⟩
            generalize Lp[11] = y at *
            clear hc1 C1 D1 HST HB
            go_wp2_with fail
            go_meet
            exact HF.out
          · have h20' : ¬ (k : Int) > 10 := by omega
            generalize Lp[k] = y at *
            obtain ⟨z, hzl, sz0, sp⟩ := cut_in (m := 400) D1 hd1 hm1 hn1
            obtain ⟨ly, hly⟩ : ∃ n, n = y.length := ⟨_, rfl⟩
            obtain ⟨lz, hlz⟩ : ∃ n, n = z.length := ⟨_, rfl⟩
            rw [← hly] at sp C1' hzl
            rw [← hlz] at sp hzl
            have hmin : min (ly : Int) 400 = (lz : Int) := by omega
            have RP := Lib.hid (replyS_any false ga F0 z a1 d1 wr HST.out (sz0.on HB.out) (by omega) (fun W kk => HI.out _ W (by omega) (HB.out.trans (kk.mono HB.out.size))))
            rw [← hlz] at RP
            have HLZ := Lib.hid hlz
            have HZ5 : Hid (z.length ≤ 500) := Lib.hid (by omega)
            have HSZ := Lib.hid sz0
            clear hly hlz hzl sz0 hc1 C1 D1 hd1 hm1 hn1 kL
            go_wp2_with fail
            with_reducible refine RP.out.mono ?_
            rintro e w4 ⟨v, rfl, hv, st4, m4⟩
            obtain ⟨Af, cf, rfl, sf⟩ := hv.bysN
            have B4 := Lib.hid (Mod.out HB.out m4 HB.out.size (fun i hi => HF0.out i hi))
            have ST4 := Lib.hid st4
            have SF := Lib.hid sf
            obtain ⟨fl, hfl⟩ : ∃ n, n = (repK false z).length := ⟨_, rfl⟩
            rw [← hfl]
            have HFL := Lib.hid hfl
            have HVO : Hid (∀ a, Af = some a → a.block < w4.heap.size) := Lib.hid (fun a ha => by subst ha; exact (hv.lt a.block rfl).2)
            clear hv st4 m4 sf hfl RP
            have NW := Lib.hid (landP.new w4)
            go_wp2_with fail
            refine NW.out.mono ?_
            rintro e w5 ⟨p, F5, rfl, hp, k5, hF5⟩
            obtain ⟨gp, vp, hpe, -⟩ := id hp
            subst hpe
            have e1 : repK false z = encP z := rfl
            have hfd1 : feedP ([] ++ encP z) = ([z], []) := by
              have h1 := fr_enc (b := z) (by have := HZ5.out; omega) []
              rw [List.append_nil] at h1
              rw [List.nil_append, feed_some h1]
              rfl
            have FD0 := landP.feed hp ((show Sl w4 Af cf (encP z) from SF.out).on k5) (fun a ha e => by have h1 := hF5 _ e; have h2 := HVO.out a ha; omega) (by have := HZ5.out; simp [encP]; omega)
            have FD := Lib.hid FD0
            have FO : Hid (∀ e w', FeedP LandP w5 F5 (.pointer (some ⟨gp, 0, none⟩)) [] (encP z) e w' → ∃ v S, e = .returned v ∧ TxS w' S v [z] ∧ Mod F5 w5 w') := Lib.hid (fun e w' h => by
              obtain ⟨v, F', q1, q2, q3, q4, q5⟩ := h
              rw [hfd1] at q2
              exact ⟨v, _, q1, q2, q4⟩)
            rw [show (encP z).length = fl by rw [HFL.out, e1]] at FD
            have ST5 := Lib.hid (ST4.out.on k5)
            have B5 := Lib.hid (B4.out.trans (k5.mono B4.out.size))
            have HF5 : Hid (∀ i, F5 i → w4.heap.size ≤ i) := Lib.hid hF5
            have SZ4 := Lib.hid B4.out.size
            clear hp k5 hF5 FD0 hfd1 e1 NW
            go_wp2_with fail
            with_reducible refine FD.out.mono ?_
            intro e w6 hfd
            obtain ⟨v6, S6, rfl, tx6, m6⟩ := FO.out e w6 hfd
            obtain ⟨g6, c6, a6, d6, rfl, e60, s6⟩ := tx6.single
            have BW6 := Lib.hid (Mod.out B5.out m6 B5.out.size (fun i hi => by have h1 := HF5.out i hi; have h2 := SZ4.out; omega))
            have EQ := Lib.hid (EqualB_any a6 a1 z z z.length z.length d6 d1 w6 s6.bys (HSZ.out.on BW6.out).bys rfl rfl)
            rw [show (z == z) = true by simp, ← HLZ.out] at EQ
            rw [← HLZ.out] at e60
            have EQD := Lib.hid (fun q => EqualB_any a6 a1 z z z.length z.length d6 d1 (w6.drewN q) (s6.on (below_drewN (Below.refl _ _) q)).bys (HSZ.out.on (below_drewN BW6.out q)).bys rfl rfl)
            rw [show (z == z) = true by simp, ← HLZ.out] at EQD
            have ST6 := Lib.hid (ST5.out.mod m6 (fun i hi e => by have h1 := HF5.out i e; have h2 := ST4.out.lt i hi; omega))
            clear hfd tx6 m6 s6 FD FO
            go_wp2_with fail
            go_quiet ((go_at_call 8; exact (EQD.out _).mono fun _ _ ⟨h1, h2⟩ => ⟨h1, _, h2.symm⟩))
            clear EQ EQD
            have ST7 := Lib.hid (ST6.out.on (below_drewN (Below.refl _ _) nq))
            have BW7 := Lib.hid (below_drewN BW6.out nq)
            go_wp2_with fail
            go_roundw
            case rel => exact ⟨k + 1, by go_num, by omega, by omega, ST7, BW7⟩
            case measure => simp [intOf]; omega
        · have hlt' : ¬ (k : Int) < (np : Int) := by omega
          have HF : Hid (∃ F, StM wr F ga (startK false) ∧ Below w.heap.size w wr) := Lib.hid ⟨F0, HST.out, HB.out⟩
          clear HST HB
          go_wp2_with fail
          go_meet
          exact HF.out
    case rest =>
      obtain ⟨F1, st1, b1⟩ := hcut
      have ED := Lib.hid (endedK_any ga F1 (startK false) _ st1)
      have B1 := Lib.hid b1
      clear st1 b1 STC HBC HF0
      go_wp2_with fail
      refine ED.out.mono ?_
      rintro e w6 ⟨rfl, rfl⟩
      clear ED
      go_wp2_with fail
      go_ret
      exact ⟨rfl, B1.out⟩

set_option maxHeartbeats 4000000 in
set_option maxRecDepth 100000 in
theorem StreamTalks_true (kind : Int) (r1 : Int.tmod (IntKind.u64.wrap kind) 2 = 1) (A : Option Addr) (L : List Bs) (c : Nat) (Ap : Option Addr) (Lp : List Bs) (cp : Nat) (t : Int) (w : World) (hL : Byss w A L) (hm : L.length ≤ 9223372036854775807) (hP : Byss w Ap Lp) (hmp : Lp.length ≤ 9223372036854775807) (ht : 0 ≤ t ∧ t ≤ 18446744073709551615) (hM : MaxL w) (hI : ∀ n w', n ≤ 65535 → Below w.heap.size w w' → IT n w') : Calls Tryz.prog 3 #[.int .i64 kind, .slice A L.length c, .slice Ap Lp.length cp, .int .u64 t] w fun e w' => e = .returned (.bool true) ∧ Below w.heap.size w w' := by
  have HL := Lib.hid hL
  have HPL := Lib.hid hP
  have HM9 := Lib.hid hM
  have HTT := Lib.hid ht
  have HI := Lib.hid hI
  obtain ⟨n, hn⟩ : ∃ n, n = L.length := ⟨_, rfl⟩
  obtain ⟨np, hnp⟩ : ∃ n, n = Lp.length := ⟨_, rfl⟩
  rw [← hn, ← hnp]
  rw [← hn] at hm
  rw [← hnp] at hmp
  have HN := Lib.hid hn
  have HNP := Lib.hid hnp
  have NEW := Lib.hid (fun W => newK_any true W)
  simp only [if_true] at NEW
  have KW := Lib.hid (Below.alloc (Below.refl w.heap.size w) (Nat.le_refl _) (.cells #[.int .i64 1, .int .i64 2] 3))
  clear hL hP hn hnp hM ht hI
  go_enter Tryz.func3, Tryz.ntmps3
  go_wp2_with fail
  refine (NEW.out _).mono ?_
  rintro e w1 ⟨ga, Fa, rfl, ka, sta, hFa⟩
  have KA := Lib.hid (KW.out.trans (ka.mono (by simp)))
  have STA := Lib.hid sta
  have HFA : Hid (∀ j, Fa j → w.heap.size ≤ j) := Lib.hid (fun j hj => by have := hFa j hj; simp at this; omega)
  clear ka sta hFa KW NEW
  go_upto_block 0 with fail
  go_cut [40] (fun _ wx => ∃ F, StM wx F ga (startK true) ∧ (∀ j, F j → w.heap.size ≤ j) ∧ Below w.heap.size w wx)
  case first =>
    go_wp2_with fail
    go_loopw [40] (fun v40 wr => ∃ (k : Nat) (F : Nat → Prop), v40 = .int .i64 k ∧ k ≤ n ∧ k ≤ 11 ∧ Hid (StM wr F ga (startK true)) ∧ Hid (∀ j, F j → w.heap.size ≤ j) ∧ Hid (Below w.heap.size w wr)) (fun v40 _ => n - (intOf v40).toNat)
    case atStart => exact ⟨0, Fa, rfl, by omega, by omega, STA, HFA, KA⟩
    case round =>
      obtain ⟨k, F, rfl, hk, hk11, HST, HF, HB⟩ := hrel
      rename World => wr
      clear STA HFA KA
      by_cases hlt : k < n
      · have hlt' : (k : Int) < (n : Int) := by omega
        have kL : k < L.length := by have := HN.out; omega
        obtain ⟨g1, o1, rfl, hc1⟩ := HL.out (by omega)
        obtain ⟨a1, d1, C1, D1, hd1, hm1, hn1⟩ := hc1 k kL
        have C1' := cell_on C1 HB.out
        by_cases h20 : (10 : Int) < (k : Int)
        · have hk2 : k = 11 := by omega
          subst hk2
          have HF : Hid (∃ F, StM wr F ga (startK true) ∧ (∀ j, F j → w.heap.size ≤ j) ∧ Below w.heap.size w wr) := Lib.hid ⟨F, HST.out, HF.out, HB.out⟩
          generalize L[11] = y at *
          clear hc1 C1 D1 HST HB
          go_wp2_with fail
          go_meet
          exact HF.out
        · have h20' : ¬ (k : Int) > 10 := by omega
          generalize L[k] = y at *
          obtain ⟨z, hzl, sz0, sp⟩ := cut_in (m := 400) D1 hd1 hm1 hn1
          obtain ⟨ly, hly⟩ : ∃ n, n = y.length := ⟨_, rfl⟩
          obtain ⟨lz, hlz⟩ : ∃ n, n = z.length := ⟨_, rfl⟩
          rw [← hly] at sp C1' hzl
          rw [← hlz] at sp hzl
          have hmin : min (ly : Int) 400 = (lz : Int) := by omega
          have hlz5 : z.length ≤ 500 := by rw [← hlz]; omega
          obtain ⟨cb, hcb⟩ : ∃ cb, cb = chK t k := ⟨_, rfl⟩
          have E0 := Lib.hid (encK_any a1 z d1 cb wr (sz0.on HB.out) (by omega))
          have E1 := Lib.hid (fun W (kk : Below wr.heap.size wr W) => rAsk_any a1 z d1 cb W (sz0.on (HB.out.trans (kk.mono HB.out.size))) (by omega))
          rw [← hlz] at E1
          have hrm : Int.tmod (k : Int) 32 = (k : Int) := Int.tmod_eq_of_lt (by omega) (by omega)
          have hbit : (bits .and .u64 (t / 2 ^ k) 1 == 1) = cb := hcb.symm
          rw [← hlz] at E0
          have HLZ := Lib.hid hlz
          have HZ5 := Lib.hid hlz5
          have HSZ := Lib.hid sz0
          clear hcb hly hlz hzl sz0 hc1 C1 D1 hd1 hm1 hn1 kL hlz5
          go_wp2_with fail
          refine E0.out.mono ?_
          rintro e w4 ⟨v, rfl, hv, k4⟩
          obtain ⟨Af, cf, rfl, sf⟩ := hv.bysN
          have K4 := Lib.hid k4
          clear hv sf k4 E0
          go_wp2_with fail
          refine (E1.out _ K4.out).mono ?_
          rintro e w5 ⟨v5, rfl, hv, k5⟩
          obtain ⟨Af, cf, rfl, sf⟩ := hv.bysN
          have k1 : Below wr.heap.size wr w5 := Below.trans K4.out (k5.mono K4.out.size)
          replace hv := hv.mono K4.out.size
          clear k5 E1 K4
          obtain ⟨good, one, back⟩ := one_all true cb z HZ5.out
          have hfl0 := askK_len true cb z HZ5.out
          have szw := k1.size
          have offF : Off F Af := fun a ha e => by
            have h1 := HST.out.lt _ e
            subst ha
            have h2 := (hv.lt a.block rfl).1
            omega
          have BW5 := Lib.hid (HB.out.trans (k1.mono HB.out.size))
          have FD := Lib.hid (feedS_any ga F (startK true) (askK true cb z) Af cf w5 (HST.out.on k1) sf offF (HM9.out.on BW5.out) (fun e => by have h1 := HF.out _ e; have h2 := HM9.out.lt; omega) good (by have : lenK (startK true) = 0 := rfl; omega) (by rw [one]; simp))
          have FO : Hid (∀ e w', FeedKP w5 F ga (startK true) (askK true cb z) e w' → ∃ v F1, e = .returned v ∧ StM w' F1 ga (startK true) ∧ Mod F w5 w' ∧ (∀ j, F1 j → F j ∨ w5.heap.size ≤ j) ∧ ∃ S, FrS w' S v [z]) := Lib.hid (fun e w' h => by
            obtain ⟨v, F1, q1, q2, q3, q4, q5⟩ := h
            rw [back] at q2
            rw [one] at q5
            exact ⟨v, F1, q1, q2, q3, q4, _, q5⟩)
          obtain ⟨fl, hfl⟩ : ∃ n, n = (askK true cb z).length := ⟨_, rfl⟩
          rw [← hfl] at FD ⊢
          have SZW := Lib.hid szw
          clear good one back hfl0 szw offF hv sf k1 hfl
          go_wp2_with fail
          with_reducible refine FD.out.mono ?_
          intro e w6 hfd
          obtain ⟨v6, F1, rfl, st6, m6, hF1, S6, fr6⟩ := FO.out e w6 hfd
          obtain ⟨g6, c6, a6, d6, rfl, e60, e61, s6⟩ := fr6.lone
          have BW6 := Lib.hid (Mod.out BW5.out m6 BW5.out.size (fun i hi => HF.out i hi))
          have EQ := Lib.hid (EqualB_any a6 a1 z z z.length z.length d6 d1 w6 s6.bys (HSZ.out.on BW6.out).bys rfl rfl)
          rw [show (z == z) = true by simp, ← HLZ.out] at EQ
          rw [← HLZ.out] at e60
          have ST6 := Lib.hid st6
          have HF6 : Hid (∀ j, F1 j → w.heap.size ≤ j) := Lib.hid (fun j hj => by
            rcases hF1 j hj with h | h
            · exact HF.out j h
            · have := BW5.out.size; omega)
          clear hfd st6 m6 hF1 fr6 s6 FD FO
          go_wp2_with fail
          refine EQ.out.mono ?_
          rintro e w7 ⟨rfl, rfl⟩
          clear EQ e60 e61
          go_wp2_with fail
          go_roundw
          case rel => exact ⟨k + 1, F1, by go_num, by omega, by omega, ST6, HF6, BW6⟩
          case measure => simp [intOf]; omega
      · have hlt' : ¬ (k : Int) < (n : Int) := by omega
        have HF : Hid (∃ F, StM wr F ga (startK true) ∧ (∀ j, F j → w.heap.size ≤ j) ∧ Below w.heap.size w wr) := Lib.hid ⟨F, HST.out, HF.out, HB.out⟩
        clear HST HB
        go_wp2_with fail
        go_meet
        exact HF.out
  case rest =>
    obtain ⟨F0, stc, hF0, bc⟩ := hcut
    have STC := Lib.hid stc
    have HF0 := Lib.hid hF0
    have HBC := Lib.hid bc
    clear stc hF0 bc STA HFA KA HL HN hm
    go_upto_block 2 with fail
    go_cut [98] (fun _ wx => ∃ F, StM wx F ga (startK true) ∧ Below w.heap.size w wx)
    case first =>
      go_wp2_with fail
      go_loopw [98] (fun v98 wr => ∃ (k : Nat), v98 = .int .i64 k ∧ k ≤ np ∧ k ≤ 11 ∧ Hid (StM wr F0 ga (startK true)) ∧ Hid (Below w.heap.size w wr)) (fun v98 _ => np - (intOf v98).toNat)
      case atStart => exact ⟨0, rfl, by omega, by omega, STC, HBC⟩
      case round =>
        obtain ⟨k, rfl, hk, hk11, HST, HB⟩ := hrel
        rename World => wr
        clear STC HBC
        by_cases hlt : k < np
        · have hlt' : (k : Int) < (np : Int) := by omega
          have kL : k < Lp.length := by have := HNP.out; omega
          obtain ⟨g1, o1, rfl, hc1⟩ := HPL.out (by omega)
          obtain ⟨a1, d1, C1, D1, hd1, hm1, hn1⟩ := hc1 k kL
          have C1' := cell_on C1 HB.out
          by_cases h20 : (10 : Int) < (k : Int)
          · have hk2 : k = 11 := by omega
            subst hk2
            have HF : Hid (∃ F, StM wr F ga (startK true) ∧ Below w.heap.size w wr) := Lib.hid ⟨F0, HST.out, HB.out⟩
            generalize Lp[11] = y at *
            clear hc1 C1 D1 HST HB
            go_wp2_with fail
            go_meet
            exact HF.out
          · have h20' : ¬ (k : Int) > 10 := by omega
            generalize Lp[k] = y at *
            obtain ⟨z, hzl, sz0, sp⟩ := cut_in (m := 400) D1 hd1 hm1 hn1
            obtain ⟨ly, hly⟩ : ∃ n, n = y.length := ⟨_, rfl⟩
            obtain ⟨lz, hlz⟩ : ∃ n, n = z.length := ⟨_, rfl⟩
            rw [← hly] at sp C1' hzl
            rw [← hlz] at sp hzl
            have hmin : min (ly : Int) 400 = (lz : Int) := by omega
            have RP := Lib.hid (replyS_any true ga F0 z a1 d1 wr HST.out (sz0.on HB.out) (by omega) (fun W kk => HI.out _ W (by omega) (HB.out.trans (kk.mono HB.out.size))))
            rw [← hlz] at RP
            have HLZ := Lib.hid hlz
            have HZ5 : Hid (z.length ≤ 500) := Lib.hid (by omega)
            have HSZ := Lib.hid sz0
            clear hly hlz hzl sz0 hc1 C1 D1 hd1 hm1 hn1 kL
            go_wp2_with fail
            with_reducible refine RP.out.mono ?_
            rintro e w4 ⟨v, rfl, hv, st4, m4⟩
            obtain ⟨Af, cf, rfl, sf⟩ := hv.bysN
            have B4 := Lib.hid (Mod.out HB.out m4 HB.out.size (fun i hi => HF0.out i hi))
            have ST4 := Lib.hid st4
            have SF := Lib.hid sf
            obtain ⟨fl, hfl⟩ : ∃ n, n = (repK true z).length := ⟨_, rfl⟩
            rw [← hfl]
            have HFL := Lib.hid hfl
            have HVO : Hid (∀ a, Af = some a → a.block < w4.heap.size) := Lib.hid (fun a ha => by subst ha; exact (hv.lt a.block rfl).2)
            clear hv st4 m4 sf hfl RP
            have e1 : repK true z = headR true z.length true ++ z := rfl
            have pw : parseR (repK true z) = (some (true, z, []), 0) := by
              rw [e1, ← List.append_nil (headR true z.length true ++ z)]
              exact parse_whole (by have := HZ5.out; omega) true z [] rfl
            have PR0 := parseReply_any Af (repK true z) cf w4 SF.out (by rw [pw]; intro ok x y e; simp only [Option.some.injEq, Prod.mk.injEq] at e; obtain ⟨-, -, rfl⟩ := e; simp) (fun n w' hn kk => HI.out n w' hn (B4.out.trans (kk.mono B4.out.size)))
            rw [pw, ← HFL.out] at PR0
            have PR := Lib.hid PR0
            have PO : Hid (∀ e w', ParseP w4 (some (true, z, []), 0) e w' → ∃ vx vy, e = .returned (.tuple #[.int .i64 200, vx, vy, .int .i64 0]) ∧ OwnB w' w4.heap.size vx z ∧ OwnB w' w4.heap.size vy [] ∧ Below w4.heap.size w4 w') := Lib.hid (fun e w' h => by
              obtain ⟨kb, h⟩ := h
              rcases h with ⟨h, -⟩ | ⟨ok, x, y, vx, vy, h1, h2, h3, h4⟩
              · cases h
              · simp only [Option.some.injEq, Prod.mk.injEq] at h1
                obtain ⟨rfl, rfl, rfl⟩ := h1
                exact ⟨vx, vy, h2, h3, h4, kb⟩)
            clear PR0 pw e1
            go_wp2_with fail
            with_reducible refine PR.out.mono ?_
            intro e w6 hfd
            obtain ⟨vx, vy, rfl, ox, oy, k6⟩ := PO.out e w6 hfd
            obtain ⟨a6, d6, rfl, s6⟩ := ox.bysN
            obtain ⟨a7, d7, rfl, s7⟩ := oy.bysN
            have BW6 := Lib.hid (B4.out.trans (k6.mono B4.out.size))
            have EQ := Lib.hid (EqualB_any a6 a1 z z z.length z.length d6 d1 w6 s6.bys (HSZ.out.on BW6.out).bys rfl rfl)
            rw [show (z == z) = true by simp, ← HLZ.out] at EQ
            rw [← HLZ.out]
            rw [show (([] : Bs).length) = 0 from rfl]
            have ST6 := Lib.hid (ST4.out.on k6)
            clear hfd ox oy k6 s6 s7 PR PO
            go_wp2_with fail
            refine EQ.out.mono ?_
            rintro e w7 ⟨rfl, rfl⟩
            clear EQ
            go_wp2_with fail
            go_roundw
            case rel => exact ⟨k + 1, by go_num, by omega, by omega, ST6, BW6⟩
            case measure => simp [intOf]; omega
        · have hlt' : ¬ (k : Int) < (np : Int) := by omega
          have HF : Hid (∃ F, StM wr F ga (startK true) ∧ Below w.heap.size w wr) := Lib.hid ⟨F0, HST.out, HB.out⟩
          clear HST HB
          go_wp2_with fail
          go_meet
          exact HF.out
    case rest =>
      obtain ⟨F1, st1, b1⟩ := hcut
      have ED := Lib.hid (endedK_any ga F1 (startK true) _ st1)
      have B1 := Lib.hid b1
      clear st1 b1 STC HBC HF0
      go_wp2_with fail
      refine ED.out.mono ?_
      rintro e w6 ⟨rfl, rfl⟩
      clear ED
      go_wp2_with fail
      go_ret
      exact ⟨rfl, B1.out⟩
theorem StreamTalks_any (kind : Int) (A : Option Addr) (L : List Bs) (c : Nat) (Ap : Option Addr) (Lp : List Bs) (cp : Nat) (t : Int) (w : World) (hL : Byss w A L) (hm : L.length ≤ 9223372036854775807) (hP : Byss w Ap Lp) (hmp : Lp.length ≤ 9223372036854775807) (ht : 0 ≤ t ∧ t ≤ 18446744073709551615) (hM : MaxL w) (hI : ∀ n w', n ≤ 65535 → Below w.heap.size w w' → IT n w') : Calls Tryz.prog 3 #[.int .i64 kind, .slice A L.length c, .slice Ap Lp.length cp, .int .u64 t] w fun e w' => e = .returned (.bool true) ∧ Below w.heap.size w w' := by
  obtain ⟨q, r1, r2, -⟩ := rem_u64 kind 2 (by omega) (by omega)
  have hk : q = 0 ∨ q = 1 := by omega
  rcases hk with rfl | rfl
  · exact StreamTalks_false kind r1 A L c Ap Lp cp t w hL hm hP hmp ht hM hI
  · exact StreamTalks_true kind r1 A L c Ap Lp cp t w hL hm hP hmp ht hM hI
end Go.Proofs.YtjhameebehkdjaaGreatDoor
