/-
  The walk of ChunkLives.
-/
import Derived.Test.YtdifemaidngnjaaCkG
import Derived.Lib.SlBytesConst
namespace Go.Proofs.Ytdifemaidngnjaa
open Go.RowKit
set_option linter.unusedVariables false
set_option maxRecDepth 100000

/-- Readers beside each other. -/
structure TwoC (CR : RdrC) (w wr : World) (p q : Value) (s : Ck) (F G : Nat → Prop) : Prop where
  a : CR wr F p s
  b : DocC wr G q s
  off : ∀ k, F k → ¬ G k
  fa : ∀ k, F k → w.heap.size ≤ k
  fb : ∀ k, G k → w.heap.size ≤ k
  bel : Below w.heap.size w wr
theorem TwoC.on {CR : RdrC} {fN fF fB : FuncId} (I : CkI fN fF fB CR) {w wr w1 : World} {p q : Value} {s : Ck} {F G : Nat → Prop} (h : TwoC CR w wr p q s F G) (k : Below wr.heap.size wr w1) : TwoC CR w w1 p q s F G :=
  ⟨I.on h.a k, docC.on h.b k, h.off, h.fa, h.fb, Below.trans h.bel (k.mono h.bel.size)⟩
theorem Sl.madeF {w : World} {cs : Array Value} {t : TypeId} {l : Bs} (fr : Nat × Nat) (h : cs = (l.map byteV).toArray) (hl : l.length ≤ 9223372036854775807) : Sl (w.alloc (.cells cs t fr)) (some ⟨w.heap.size, 0, Option.none⟩) l.length l := by
  subst h
  refine ⟨fun _ => ⟨_, 0, rfl, fun j hj => ?_⟩, Nat.le_refl _, hl, fun h => by cases h⟩
  have e : (w.alloc (.cells (l.map byteV).toArray t fr)).heap[w.heap.size]? = some (.cells (l.map byteV).toArray t fr) := by
    show (w.heap.push _)[w.heap.size]? = _
    simp
  rw [Nat.zero_add]
  unfold World.cell?
  rw [e]
  simp [byteV, hj]
def zBs : Bs := [49, 13, 10, 97, 13, 10, 48, 13, 10, 13, 10, 122]
theorem feed_z : (feedC (newC 9) zBs).1 = (11, true, 0) := by decide

set_option maxHeartbeats 4000000 in
set_option maxRecDepth 100000 in
theorem ChunkLives_any {CR : RdrC} (I : CkI 19 21 23 CR) (most : Int) (hm0 : -9223372036854775808 ≤ most) (hm1 : most ≤ 9223372036854775807) (A : Option Addr) (L : List Bs) (c : Nat) (w : World) (hL : Byss w A L) (hm : L.length ≤ 9223372036854775807) :
    Calls Try.prog 8 #[.int .i64 most, .slice A L.length c] w fun e w' => e = .returned (.bool true) ∧ Below w.heap.size w w' := by
  have HL := Lib.hid hL
  obtain ⟨n, hn⟩ : ∃ n, n = L.length := ⟨_, rfl⟩
  rw [← hn]
  rw [← hn] at hm
  have HN := Lib.hid hn
  have N1 := Lib.hid (I.new most w hm0 hm1)
  have HM0 := Lib.hid hm0
  have HM1 := Lib.hid hm1
  have N2 := Lib.hid (fun W => docC.new most W HM0.out HM1.out)
  have B9 := Lib.hid (fun W => I.new 9 W (by omega) (by omega))
  have kc := fun (w : World) (C : Array Value) (n c : Nat) => Lib.run_convert_bytes_const (P := Try.prog) w 26 5 C n c Try.underlying26 Try.underlying5
  clear hL hn hm0 hm1
  go_enter Try.func8, Try.ntmps8
  go_wp2_with fail
  refine N1.out.mono ?_
  rintro e w1 ⟨p, F0, rfl, p1, k1, f1⟩
  have P1 := Lib.hid p1
  have K1 := Lib.hid k1
  have F1 := Lib.hid f1
  clear p1 k1 f1 N1
  go_wp2_with fail
  refine (N2.out _).mono ?_
  rintro e w2 ⟨q, G0, rfl, q1, k2, g1⟩
  have T0 : TwoC CR w w2 p q (newC most) F0 G0 := ⟨I.on P1.out k2, q1, fun k hf hg => by have := I.lt P1.out k hf; have := g1 k hg; omega, F1.out, fun k hk => Nat.le_trans K1.out.size (g1 k hk), Below.trans K1.out (k2.mono K1.out.size)⟩
  have HT0 := Lib.hid T0
  clear q1 k2 g1 P1 K1 F1 N2 T0
  go_wp2_with fail
  go_loopw [24] (fun i wr => ∃ (k : Nat) (s : Ck) (F G : Nat → Prop), i = .int .i64 k ∧ k ≤ n ∧ TwoC CR w wr p q s F G) (fun i _ => n - (intOf i).toNat)
  case atStart => exact ⟨0, _, _, _, rfl, by omega, HT0.out⟩
  case round =>
    clear HT0
    obtain ⟨k, s, F, G, rfl, hk, hT⟩ := hrel
    have T := Lib.hid hT
    by_cases hlt : k < n
    · have kL : k < L.length := by have := HN.out; omega
      obtain ⟨g1, o1, rfl, hc1⟩ := HL.out (by omega)
      obtain ⟨a1, d1, C1, D1, hd1, hmx1, hn1⟩ := hc1 k kL
      have C1' := cell_on C1 hT.bel
      obtain ⟨y, hy⟩ : ∃ y, y = L[k] := ⟨_, rfl⟩
      rw [← hy] at C1' D1 hd1
      have sl0 : Sl w a1 d1 y := ⟨D1, hd1, hmx1, hn1⟩
      have hoff : ∀ F : Nat → Prop, (∀ k, F k → w.heap.size ≤ k) → y ≠ [] → Off F a1 := fun F hF hne a ha hf => by
        obtain ⟨g, o, hA, hcs⟩ := D1 (List.length_pos_iff.2 hne)
        rw [ha] at hA
        injection hA with hA
        rw [hA] at hf
        have := World.block_lt_of_cell? w _ (hcs 0 (List.length_pos_iff.2 hne))
        have := hF _ hf
        simp at *
        omega
      have E1 := Lib.hid (I.feed hT.a (sl0.on hT.bel) (hoff F hT.fa))
      obtain ⟨ny, hny⟩ : ∃ m, m = y.length := ⟨_, rfl⟩
      rw [← hny] at E1 C1'
      have HNY := Lib.hid hny
      have HS := Lib.hid sl0
      have HOFF := Lib.hid hoff
      have hlt' : (k : Int) < (n : Int) := by omega
      clear hT hc1 C1 D1 hd1 hmx1 hn1 hy hny sl0 hoff kL
      go_wp2_with fail
      refine E1.out.mono ?_
      rintro e w3 ⟨F3, rfl, a3, m3, f3⟩
      have B3 : Below w.heap.size w w3 := Mod.out T.out.bel m3 T.out.bel.size T.out.fa
      have F3a : ∀ k, F3 k → w.heap.size ≤ k := fun k hk => (f3 k hk).elim (T.out.fa k) (fun h => Nat.le_trans T.out.bel.size h)
      have b3 : DocC w3 G q s := docC.mod T.out.b m3 (fun i hi hf => T.out.off i hf hi)
      have off3 : ∀ k, F3 k → ¬ G k := fun k hk hg => by
        rcases f3 k hk with h | h
        · exact T.out.off k h hg
        · have := docC.lt T.out.b k hg; omega
      have E2 := Lib.hid (docC.feed b3 (HS.out.on B3) (HOFF.out G T.out.fb))
      rw [← HNY.out] at E2
      have HB3 := Lib.hid B3
      have HA3 := Lib.hid a3
      have HF3 := Lib.hid F3a
      have HO3 := Lib.hid off3
      have HGB := Lib.hid T.out.fb
      clear E1 a3 m3 f3 B3 F3a b3 off3 T
      go_wp2_with fail
      refine E2.out.mono ?_
      rintro e w4 ⟨G4, rfl, b4, m4, g4⟩
      have T4 : TwoC CR w w4 p q (feedC s y).2 F3 G4 := ⟨I.mod HA3.out m4 (fun i hi hg => HO3.out i hi hg), b4, fun k hk hg => by
        rcases g4 k hg with h | h
        · exact HO3.out k hk h
        · have := I.lt HA3.out k hk; omega, HF3.out, fun k hk => (g4 k hk).elim (HGB.out k) (fun h => Nat.le_trans HB3.out.size h), Mod.out HB3.out m4 HB3.out.size HGB.out⟩
      obtain ⟨⟨⟨n1, wh1, e1⟩, s4⟩, hr⟩ : ∃ r, r = feedC s y := ⟨_, rfl⟩
      rw [← hr] at T4 ⊢
      have T4h := Lib.hid T4
      have X1 := Lib.hid (I.body T4.a)
      have y1 : ((n1 : Int) != (n1 : Int)) = false := by simp
      have y2 : (wh1 != wh1) = false := by simp
      have y3 : ((e1 : Int) != (e1 : Int)) = false := by simp
      clear b4 m4 g4 T4 HB3 HA3 HF3 HO3 HGB hr E2
      simp only at X1
      go_wp2_with fail
      refine X1.out.mono ?_
      rintro e w5 ⟨v5, rfl, o5, k5⟩
      have T5 := T4h.out.on I k5
      have X2 := Lib.hid (docC.body T5.b)
      have HT5 := Lib.hid T5
      have HO5 := Lib.hid o5
      clear o5 k5 T4h X1 T5
      go_wp2_with fail
      refine X2.out.mono ?_
      rintro e w6 ⟨v6, rfl, o6, k6⟩
      have o56 := HO5.out.below k6 (Nat.le_refl _)
      have T6 := HT5.out.on I k6
      obtain ⟨x, hx⟩ : ∃ x, x = s4.body := ⟨_, rfl⟩
      rw [← hx] at o56 o6
      obtain ⟨A5, c5, rfl, z5⟩ := o56.bysN
      obtain ⟨A6, c6, rfl, z6⟩ := o6.bysN
      have EQ := Lib.hid (EqualB_any A5 A6 x x x.length x.length c5 c6 w6 z5.bys z6.bys rfl rfl)
      rw [show (x == x) = true by simp] at EQ
      generalize x.length = xn at *
      have HT6 := Lib.hid T6
      clear o6 k6 o56 T6 hx z5 z6 HO5 HT5 X2
      go_wp2_with fail
      refine EQ.out.mono ?_
      rintro e w7 ⟨rfl, rfl⟩
      go_wp2_with fail
      go_roundw
      case rel => exact ⟨k + 1, s4, F3, G4, by go_num, by omega, HT6.out⟩
      case measure => simp [intOf]; omega
    · obtain rfl : k = n := by omega
      have HBl := Lib.hid hT.bel
      clear hT
      go_wp2_with fail
      refine (B9.out _).mono ?_
      rintro e w3 ⟨p9, F9, rfl, r9, k9, f9⟩
      have T3 := Lib.hid (T.out.on I k9)
      have R9 := Lib.hid r9
      have hK9 := Lib.hid k9
      have HF9 := Lib.hid f9
      have HZ : Hid (zBs.length = 12) := Lib.hid rfl
      have b0 : Below w3.heap.size w3 (w3.alloc (.cells #[.int .u8 49, .int .u8 13, .int .u8 10, .int .u8 97, .int .u8 13, .int .u8 10, .int .u8 48, .int .u8 13, .int .u8 10, .int .u8 13, .int .u8 10, .int .u8 122] 5 (12, 13))) := Below.alloc (Below.refl _ _) (Nat.le_refl _) _
      have HSZ : Hid (Sl (w3.alloc (.cells #[.int .u8 49, .int .u8 13, .int .u8 10, .int .u8 97, .int .u8 13, .int .u8 10, .int .u8 48, .int .u8 13, .int .u8 10, .int .u8 13, .int .u8 10, .int .u8 122] 5 (12, 13))) (some ⟨w3.heap.size, 0, none⟩) 12 zBs) := Lib.hid (Sl.madeF (l := zBs) _ rfl (by decide))
      have E9 := Lib.hid (I.feed (I.on r9 b0) HSZ.out (fun _ a ha hf => by injection ha with ha; subst ha; have := I.lt R9.out _ hf; simp at this))
      rw [HZ.out] at E9
      have T3a := Lib.hid (T3.out.on I b0)
      clear r9 k9 f9 b0 B9 HSZ HZ
      go_wp2_with fail
      refine E9.out.mono ?_
      rintro e w4 ⟨F4, rfl, a4, m4, f4⟩
      rw [feed_z] at *
      have T4 : TwoC CR w w4 p q s F G := ⟨I.mod T3a.out.a m4 (fun i hi hg => by have := HF9.out i hg; have := I.lt T.out.a i hi; omega), docC.mod T3a.out.b m4 (fun i hi hg => by have := HF9.out i hg; have := docC.lt T.out.b i hi; omega), T.out.off, T.out.fa, T.out.fb, Mod.out T3a.out.bel m4 T3a.out.bel.size (fun i hi => by have := HF9.out i hi; have := T.out.bel.size; omega)⟩
      have HT4 := Lib.hid T4
      have X1 := Lib.hid (I.body T4.a)
      clear a4 m4 f4 T4 T3 T3a hK9 R9 E9
      go_wp2_with fail
      refine X1.out.mono ?_
      rintro e w5 ⟨v5, rfl, o5, k5⟩
      have T5 := HT4.out.on I k5
      have X2 := Lib.hid (docC.body T5.b)
      have HT5 := Lib.hid T5
      have HO5 := Lib.hid o5
      clear o5 k5 HT4 X1 T5
      go_wp2_with fail
      refine X2.out.mono ?_
      rintro e w6 ⟨v6, rfl, o6, k6⟩
      have o56 := HO5.out.below k6 (Nat.le_refl _)
      have T6 := HT5.out.on I k6
      obtain ⟨x, hx⟩ : ∃ x, x = s.body := ⟨_, rfl⟩
      rw [← hx] at o56 o6
      obtain ⟨A5, c5, rfl, z5⟩ := o56.bysN
      obtain ⟨A6, c6, rfl, z6⟩ := o6.bysN
      have EQ := Lib.hid (EqualB_any A5 A6 x x x.length x.length c5 c6 w6 z5.bys z6.bys rfl rfl)
      rw [show (x == x) = true by simp] at EQ
      generalize x.length = xn at *
      have HT6 := Lib.hid T6
      clear o6 k6 o56 T6 hx z5 z6 HO5 HT5 X2
      go_wp2_with fail
      refine EQ.out.mono ?_
      rintro e w7 ⟨rfl, rfl⟩
      go_wp2_with fail
      go_ret
      exact ⟨rfl, HT6.out.bel⟩
end Go.Proofs.Ytdifemaidngnjaa
