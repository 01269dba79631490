/-
  A request that is asked, and one more line in it, ahead of its host: plain bytes.
  The walk of HttpCloses.
  The tables of strconv and math/bits, as the row lists them; Itoa's contract.
-/
import Derived.Test.YtjhmjokmjoldkaaGreatDoorHtX
import Derived.Lib.Index
import Derived.Test.YtjhmjokmjoldkaaGreatDoorHtW
import Derived.Test.YtjhmjokmjoldkaaGreatDoorQw
import Derived.Test.YtjhmjokmjoldkaaGreatDoorEnN
import Derived.Shelf.Bytes.SlIndexWhole
import Derived.Lib.SlBytesConst
import Derived.Shelf.Strconv.Itoa3
import Derived.Test.YtjhmjokmjoldkaaGreatDoorSh
import Derived.Lib.AppendIntMem
import Derived.Test.YtjhmjokmjoldkaaGreatDoorCards
import Derived.Lib.LaidTab
import Derived.Stop.LaidErr
import Derived.WalkSmall
namespace Go.Proofs.YtjhmjokmjoldkaaGreatDoor
open Go.RowKit
set_option linter.unusedVariables false
set_option maxRecDepth 100000

def kHost : Bs := [72, 111, 115, 116, 58]
def preH : Bs := [80, 79, 83, 84, 32, 47, 100, 110, 115, 45, 113, 117, 101, 114, 121, 32, 72, 84, 84, 80, 47, 49, 46, 49, 13, 10]
def lineK : Bs := [67, 79, 78, 78, 69, 67, 84, 73, 79, 78, 58, 32, 32, 67, 108, 111, 115, 101, 32, 13, 10]
theorem lineK_len : lineK.length = 21 := by decide
theorem index_step {c : UInt8} {l : Bs} {k : Int} (h0 : 0 ≤ k) (h : kHost.isPrefixOf (c :: l) = false) (hk : Lib.index l kHost = k) : Lib.index (c :: l) kHost = k + 1 := by
  rw [Lib.index, h, hk, if_neg (by simp), if_neg (by simp; omega)]
theorem index_here (u : Bs) : Lib.index (kHost ++ u) kHost = 0 := by kernel_rfl
theorem index_host (u : Bs) : Lib.index (preH ++ (kHost ++ u)) kHost = 26 := (index_step (k := 25) (by decide) (by kernel_rfl) (index_step (k := 24) (by decide) (by kernel_rfl) (index_step (k := 23) (by decide) (by kernel_rfl) (index_step (k := 22) (by decide) (by kernel_rfl) (index_step (k := 21) (by decide) (by kernel_rfl) (index_step (k := 20) (by decide) (by kernel_rfl) (index_step (k := 19) (by decide) (by kernel_rfl) (index_step (k := 18) (by decide) (by kernel_rfl) (index_step (k := 17) (by decide) (by kernel_rfl) (index_step (k := 16) (by decide) (by kernel_rfl) (index_step (k := 15) (by decide) (by kernel_rfl) (index_step (k := 14) (by decide) (by kernel_rfl) (index_step (k := 13) (by decide) (by kernel_rfl) (index_step (k := 12) (by decide) (by kernel_rfl) (index_step (k := 11) (by decide) (by kernel_rfl) (index_step (k := 10) (by decide) (by kernel_rfl) (index_step (k := 9) (by decide) (by kernel_rfl) (index_step (k := 8) (by decide) (by kernel_rfl) (index_step (k := 7) (by decide) (by kernel_rfl) (index_step (k := 6) (by decide) (by kernel_rfl) (index_step (k := 5) (by decide) (by kernel_rfl) (index_step (k := 4) (by decide) (by kernel_rfl) (index_step (k := 3) (by decide) (by kernel_rfl) (index_step (k := 2) (by decide) (by kernel_rfl) (index_step (k := 1) (by decide) (by kernel_rfl) (index_step (k := 0) (by decide) (by kernel_rfl) (index_here u)))))))))))))))))))))))))))
theorem preH_len : preH.length = 26 := by decide
/-- What is asked, parted ahead of the host; the same with one more line. -/
theorem ask_parts (n : Nat) (b : Bs) : ∃ u, askH n ++ b = preH ++ (kHost ++ u) ∧ closeH n ++ b = (preH ++ lineK) ++ (kHost ++ u) := by
  have e1 : ∀ M, catL (reqL :: lHost :: M) = preH ++ (kHost ++ ([32, 114, 101, 115, 111, 108, 118, 101, 114, 13, 10] ++ catL M)) := fun M => by kernel_rfl
  have e2 : ∀ M, catL (reqL :: lConn :: lHost :: M) = (preH ++ lineK) ++ (kHost ++ ([32, 114, 101, 115, 111, 108, 118, 101, 114, 13, 10] ++ catL M)) := fun M => by kernel_rfl
  refine ⟨[32, 114, 101, 115, 111, 108, 118, 101, 114, 13, 10] ++ catL [lType, sLen ++ decD n] ++ [13, 10] ++ b, ?_, ?_⟩
  · rw [askH_cat, e1]
    simp only [List.append_assoc]
  · rw [closeH, e2]
    simp only [List.append_assoc]
theorem ask_index (n : Nat) (b : Bs) : Lib.index (askH n ++ b) kHost = 26 := by
  obtain ⟨u, e, -⟩ := ask_parts n b
  rw [e]
  exact index_host u
theorem ask_cut (n : Nat) (b : Bs) : ((askH n ++ b).take 26 ++ lineK) ++ (askH n ++ b).drop 26 = closeH n ++ b := by
  obtain ⟨u, e1, e2⟩ := ask_parts n b
  rw [e1, e2, List.take_left' preH_len, List.drop_left' preH_len]
theorem ask_len (n : Nat) (b : Bs) (h : n ≤ 65535) : 81 ≤ (askH n ++ b).length ∧ (askH n ++ b).length ≤ 300 + b.length := by
  have h1 := askH_len (n := n) (by omega)
  have h2 : sAsk.length = 81 := by decide
  refine ⟨?_, ?_⟩
  · rw [List.length_append, askH, List.length_append, h2]; omega
  · rw [List.length_append]; omega
end Go.Proofs.YtjhmjokmjoldkaaGreatDoor
namespace Go.Proofs.YtjhmjokmjoldkaaGreatDoor
open Go.RowKit Go.Shelf
set_option linter.unusedVariables false
set_option maxRecDepth 100000

theorem numsI_in (l : Bs) : ∀ x ∈ numsI l, 0 ≤ x ∧ x < 256 := fun x hx => by
  obtain ⟨b, _, rfl⟩ := List.mem_map.1 hx
  have := b.toNat_lt
  omega
theorem index_any (A B : Option Addr) (x : Bs) (c d : Nat) (w : World) (hx : Sl w A c x) (hy : Sl w B d kHost) (h0 : 0 < x.length) (hs : x.length < 4294967281) (hM : MaxL w) :
    Calls Tryz.prog 11 #[.slice A x.length c, .slice B 5 d] w fun e w' => e = .returned (.int .i64 (Lib.index x kHost)) ∧ Below w.heap.size w w' := by
  obtain ⟨m, hm⟩ := hM
  obtain ⟨b1, o1, rfl, h1⟩ := hx.bytesIn h0
  obtain ⟨b2, o2, rfl, h2⟩ := hy.bytesIn (by decide)
  have K := Any.bytes_Index_at Tryz.lays185 ⟨b1, o1, none⟩ ⟨b2, o2, none⟩ x.length c 5 d (numsI x) (numsI kHost) m w (by simp [numsI]) rfl (numsI_in x) (numsI_in kHost) (fun i hi => by rw [Lib.add_plain']; exact h1 i hi) (fun i hi => by rw [Lib.add_plain']; exact h2 i hi) hx.le hs (by omega) hm
  rw [numsI_bytes, numsI_bytes] at K
  refine K.mono ?_
  rintro e w' ⟨rfl, q, rfl⟩
  exact ⟨rfl, below_drewN (Below.refl _ _) q⟩
set_option maxHeartbeats 4000000 in
set_option maxRecDepth 100000 in
theorem HttpCloses_any (A1 A2 : Option Addr) (l1 l2 : Bs) (c1 c2 : Nat) (w : World) (h1 : Sl w A1 c1 l1) (h2 : Sl w A2 c2 l2) (hl2 : l2.length ≤ 140737488351232) (hM : MaxL w) (hI : ∀ n w', n ≤ 65535 → Below w.heap.size w w' → IT n w') : Calls Tryz.prog 4 #[.slice A1 l1.length c1, .slice A2 l2.length c2] w fun e w' => e = .returned (.bool true) ∧ Below w.heap.size w w' := by
  obtain ⟨m, hm⟩ : ∃ m, m = min l1.length 500 := ⟨_, rfl⟩
  have sp := slice_pre A1 l1 c1 m (m : Int) (by omega) h1.le rfl
  obtain ⟨b, hb⟩ : ∃ b, b = l1.take m := ⟨_, rfl⟩
  have hbl : b.length = m := by rw [hb, List.length_take]; omega
  rw [← hb, hbl] at sp
  have sb : Sl w A1 c1 b := by rw [hb]; exact ⟨h1.bys.pre m, by rw [List.length_take]; have := h1.le; omega, h1.max, h1.nil⟩
  have AK := ask_plain A1 b c1 w sb (by omega) (hI b.length w (by omega) (Below.refl _ _))
  have GO := go_close b l2 (by omega)
  have CUT := ask_cut m b
  have IDX := ask_index m b
  have LEN := ask_len m b (by omega)
  rw [hbl] at AK GO
  obtain ⟨x, hx⟩ : ∃ x, x = askH m ++ b := ⟨_, rfl⟩
  rw [← hx] at AK CUT IDX LEN
  obtain ⟨z, hz⟩ : ∃ z, z = closeH m ++ b := ⟨_, rfl⟩
  rw [← hz] at CUT GO
  have hm5 : m ≤ 500 := by omega
  have hzl : z.length ≤ 900 := by
    rw [← CUT, List.length_append, List.length_append, List.length_take, List.length_drop, lineK_len]
    omega
  have hmin : min (l1.length : Int) 500 = (m : Int) := by omega
  have hl1 : (l1.length : Int) ≤ 9223372036854775807 := by have := Nat.le_trans h1.le h1.max; omega
  obtain ⟨nl, hnl⟩ : ∃ k, k = l1.length := ⟨_, rfl⟩
  rw [← hnl] at sp hmin hl1 ⊢
  obtain ⟨n2, hn2⟩ : ∃ k, k = l2.length := ⟨_, rfl⟩
  rw [← hn2] at hl2 ⊢
  obtain ⟨nx, hnx⟩ : ∃ k, k = x.length := ⟨_, rfl⟩
  rw [← hnx, hbl] at LEN
  obtain ⟨hx1, hx2⟩ := LEN
  obtain ⟨p, hp⟩ : ∃ p, p = x.take 26 := ⟨_, rfl⟩
  obtain ⟨r, hr⟩ : ∃ r, r = x.drop 26 := ⟨_, rfl⟩
  rw [← hp, ← hr] at CUT
  have hpl : p.length = 26 := by rw [hp, List.length_take]; omega
  have hrl : r.length = nx - 26 := by rw [hr, List.length_drop]; omega
  have AK := Lib.hid AK
  have GO := Lib.hid GO
  have CUT := Lib.hid CUT
  have IDX := Lib.hid IDX
  have H2 := Lib.hid h2
  have SB := Lib.hid sb
  have HM := Lib.hid hM
  have HN2 := Lib.hid hn2
  have HNX := Lib.hid hnx
  have HBL := Lib.hid hbl
  have HP := Lib.hid hp
  have HR := Lib.hid hr
  have HPL := Lib.hid hpl
  have HRL := Lib.hid hrl
  have HZL := Lib.hid hzl
  clear h1 h2 hM hI hm hb hbl sb hx hz hnl hn2 hnx hp hr hpl hrl hzl
  go_enter Tryz.func4, Tryz.ntmps4
  go_wp2_with fail
  refine AK.out.mono ?_
  rintro e w1 ⟨v1, rfl, o1, k1⟩
  obtain ⟨A3, c3, rfl, s3⟩ := o1.bysN
  rw [← HNX.out]
  obtain ⟨W1, hW1⟩ : ∃ W, W = w1.alloc (.cells #[.int .u8 72, .int .u8 111, .int .u8 115, .int .u8 116, .int .u8 58] 5 (5, 6)) := ⟨_, rfl⟩
  have b1 : Below w1.heap.size w1 W1 := by rw [hW1]; exact Below.alloc (Below.refl _ _) (Nat.le_refl _) _
  have s5 : Sl W1 (some ⟨w1.heap.size, 0, none⟩) 5 kHost := by rw [hW1]; exact Sl.madeF (l := kHost) (5, 6) rfl (by decide)
  have k1' := k1.trans (b1.mono k1.size)
  have IX := index_any A3 (some ⟨w1.heap.size, 0, none⟩) x c3 5 W1 (s3.on b1) s5 (by rw [← HNX.out]; omega) (by rw [← HNX.out]; omega) (HM.out.on k1')
  rw [← HNX.out, IDX.out] at IX
  have IX := Lib.hid IX
  have HW1 := Lib.hid hW1
  have K1 := Lib.hid k1'
  have S3 := Lib.hid (s3.on b1)
  have kc := fun (w : World) (C : Array Value) (n c : Nat) => Lib.run_convert_bytes_const (P := Tryz.prog) w 22 5 C n c Tryz.underlying22 Tryz.underlying5
  clear AK o1 s3 k1 b1 s5 k1' hW1
  go_wp2_with fail
  rw [← HW1.out]
  refine IX.out.mono ?_
  rintro e w2 ⟨rfl, k2⟩
  have K2 := Lib.hid (K1.out.trans (k2.mono K1.out.size))
  have s2 := S3.out.on k2
  have S2 := Lib.hid s2
  have hx0 : 0 < x.length := by rw [← HNX.out]; omega
  have spx := slice_pre A3 x c3 26 (26 : Int) (by rw [← HNX.out]; omega) s2.le rfl
  rw [← HP.out, HPL.out, ← HNX.out] at spx
  obtain ⟨A4, slx, s4, -⟩ := s2.rest 26 (26 : Int) (by rw [← HNX.out]; omega) rfl
  rw [← HR.out, HRL.out, ← HNX.out] at slx
  rw [← HR.out] at s4
  obtain ⟨g4, f4, rfl, -⟩ := s4.bys (by rw [HRL.out]; omega)
  have S4 := Lib.hid s4
  have s2p : Sl w2 A3 c3 p := by rw [HP.out]; exact ⟨s2.bys.pre 26, by rw [List.length_take]; have := s2.le; omega, s2.max, s2.nil⟩
  have C1 : Hid (∀ w', Below w2.heap.size w2 w' → Calls Tryz.prog 5 #[.slice A3 26 c3] w' fun e w'' => ∃ v', e = .returned v' ∧ OwnR w'' w'.heap.size v' p ∧ Below w'.heap.size w' w'') := Lib.hid (fun w' kk => (CloneW_any A3 p 26 c3 w' (s2p.on kk).bys HPL.out.symm (by omega) (fun q hq h0 => (s2p.on kk).inside q hq (by rw [HPL.out]; omega))).mono (by
    rintro e w'' ⟨v', rfl, ho, hbe, -⟩
    exact ⟨v', rfl, by unfold OwnR; rw [HPL.out]; exact ho, hbe⟩))
  have kd : Below w2.heap.size w2 w2.drew := Below.drew (Below.refl _ _)
  have G1 : Hid (p.length + lineK.length ≤ 140737488355328) := Lib.hid (by rw [HPL.out, lineK_len]; omega)
  have G2 : Hid ((p ++ lineK).length + r.length ≤ 140737488355328) := Lib.hid (by rw [List.length_append, HPL.out, lineK_len, HRL.out]; omega)
  clear IX k2 K1 HW1 S3 s2 s4 s2p hx0 kc
  go_wp2_with fail
  go_region_held3 (fun w' => Below w2.heap.size w2 w')
    (first | assumption | exact Below.drew (by assumption))
    (first
      | (go_at_call 5; (with_reducible refine (C1.out _ kd).mono ?_); rintro e w3 ⟨v3, rfl, o3, k3⟩; have kw3 : Below w2.heap.size w2 w3 := kd.trans (k3.mono kd.size); have z3 : w2.heap.size ≤ w3.heap.size := kw3.size; replace o3 : OwnR w3 w2.heap.size v3 p := o3; clear k3)
      | ((refine step_str (by rfl) _ _ (by rfl) w2.heap.size _ p (by rfl) (by assumption) lineK (by rfl) G1.out (by assumption) ?_); intro v4 w4 o4 g4; have kw4 : Below w2.heap.size w2 w4 := kw3.grown g4 z3 (fun k hk => (o3.lt k hk).1); have z4 : w2.heap.size ≤ w4.heap.size := kw4.size)
      | ((refine step_app (by rfl) _ _ (by rfl) w2.heap.size _ (p ++ lineK) (by rfl) (by assumption) _ _ _ (by rfl) r HRL.out.symm (S4.out.on kw4).bys G2.out (by assumption) ?_); intro v5 w5 o5 g5; have kw5 : Below w2.heap.size w2 w5 := kw4.grown g5 z4 (fun k hk => (o4.lt k hk).1)))
  rw [CUT.out] at o5
  have K5 := Lib.hid (K2.out.trans (kw5.mono K2.out.size))
  have O5 := Lib.hid o5.ownB
  have hz2 := K2.out.size
  have hz5 := kw5.size
  clear C1 kd G1 G2 S2 S4 o3 kw3 z3 o4 g4 kw4 z4 o5 g5 kw5 spx slx CUT HP HR HPL HRL
  go_wp2_with fail
  refine (newH_any w5).mono ?_
  rintro e w6 ⟨g, F, rfl, k6, hg, st, hF⟩
  have K6 := Lib.hid (K5.out.trans (k6.mono K5.out.size))
  have O6 := Lib.hid (O5.out.below k6 (Nat.le_refl _))
  have OL : Hid (∀ k, v5.ownBlock = some k → w2.heap.size ≤ k ∧ k < w5.heap.size) := Lib.hid (fun k hk => O5.out.lt k hk)
  have ST6 := Lib.hid st
  have HF := Lib.hid hF
  have HG := Lib.hid hg
  have hz6 : w2.heap.size ≤ w6.heap.size := Nat.le_trans hz5 k6.size
  have H26 := Lib.hid (H2.out.on K6.out)
  clear k6 hg st hF O5
  go_wp2_with (first
    | (at_builtin; refine wpList_append_bys rfl (.tmp 42) (.tmp 43) rfl w2.heap.size _ z rfl O6.out A2 c2 n2 l2 rfl HN2.out H26.out.bys H26.out.nil (by rw [← HN2.out]; have := HZL.out; omega) hz6 ?_)
    | fail)
  intro v7 w7 o7 g7 q7
  have K7 := Lib.hid (K6.out.grown g7 K6.out.size (fun k hk => Nat.le_trans hz2 (OL.out k hk).1))
  obtain ⟨A7, c7, rfl, s7⟩ := o7.bysN
  have st7 := ST6.out.mod (Mod.grown (S := fun j => v5.ownBlock = some j) g7 (fun k hk => hk)) (fun j hj e => by
    have h1 := (HF.out j).1 hj
    have h2 := (OL.out j e).2
    have h3 := HG.out
    omega)
  have FD := feed_any g F (.hd []) A7 (z ++ l2) c7 w7 st7 HsOk.start s7 (fun hne q hq hf => by
    have h1 := (HF.out _).1 hf
    have h3 := HG.out
    rcases q7 q.block (by rw [hq]; rfl) with h | h
    · have := (OL.out _ h).2; omega
    · have := ST6.out.lt g ((HF.out g).2 rfl); omega) (HM.out.on K7.out) (fun hf => by
    have h1 := (HF.out _).1 hf
    have h2 := HM.out.lt
    have h3 := HG.out
    have h4 := K5.out.size
    omega) (by rw [GO.out]; simp)
  obtain ⟨n7, hn7⟩ : ∃ k, k = (z ++ l2).length := ⟨_, rfl⟩
  rw [← hn7] at FD ⊢
  have FD := Lib.hid FD
  have HFW : Hid (∀ j, F j → w.heap.size ≤ j) := Lib.hid (fun j hj => by
    have h1 := (HF.out j).1 hj
    have h3 := HG.out
    have h4 := K5.out.size
    omega)
  clear o7 g7 q7 s7 st7 hn7 O6 OL ST6 HF HG H26
  go_wp2_with fail
  refine FD.out.mono ?_
  rintro e w8 ⟨v8, F8, he, st8, -, m8, hf8, rq8⟩
  rw [GO.out] at he st8 rq8
  have K8 := Lib.hid (Mod.out K7.out m8 K7.out.size HFW.out)
  have HF8 : Hid (∀ j, F8 j → w.heap.size ≤ j) := Lib.hid (fun j hj => by
    rcases hf8 j hj with h | h
    · exact HFW.out j h
    · have := K7.out.size; omega)
  obtain ⟨A8, c8, rfl⟩ := rq8.sl
  have he : e = .returned (.tuple #[.slice A8 1 c8, .int .i64 0]) := he
  subst he
  have FD2 := feed_any g F8 .dead A2 l2 c2 w8 st8 HsOk.dead (H2.out.on K8.out) (fun hne q hq hf => by
    have h1 := H2.out.inside q hq (List.length_pos_iff.2 hne)
    have h2 := HF8.out _ hf
    omega) (HM.out.on K8.out) (fun hf => by
    have h1 := HM.out.lt
    have h2 := HF8.out _ hf
    omega) (by rw [goH_dead]; simp)
  rw [← HN2.out] at FD2
  have FD2 := Lib.hid FD2
  have RQ8 := Lib.hid rq8
  clear FD st8 m8 hf8 rq8
  go_wp2_with fail
  refine FD2.out.mono ?_
  rintro e w9 ⟨v9, F9, he, st9, -, m9, hf9, rq9⟩
  rw [goH_dead] at he st9 rq9
  obtain ⟨A9, c9, rfl⟩ := rq9.sl
  have he : e = .returned (.tuple #[.slice A9 0 c9, .int .i64 0]) := he
  subst he
  have K9 := Lib.hid (Mod.out K8.out m9 K8.out.size HF8.out)
  obtain ⟨G, c8', hsl, hat⟩ := (RQ8.out.mod m9 (fun i hi => .inl hi)).at (by simp)
  injection hsl with e1 e2 e3
  subst e1
  obtain ⟨A5, d5, -, y1, y2, sq⟩ := hat 0 (by simp)
  have y1 : w9.cell? ⟨G, 1, none⟩ = some (.slice A5 b.length d5) := y1
  have y2 : w9.cell? ⟨G, 2, none⟩ = some (.bool false) := y2
  have sq : Sl w9 A5 d5 b := sq
  have EQ := EqualB_any A5 A1 b b b.length m d5 c1 w9 sq.bys (SB.out.on K9.out).bys rfl HBL.out.symm
  rw [show (b == b) = true by simp] at EQ
  have EQ := Lib.hid EQ
  obtain ⟨hv, bv, kb, r9, -⟩ := st9
  have ED := Lib.hid (endedH_any g true hv bv kb w9 r9)
  clear FD2 m9 hf9 rq9 hat sq r9 e2 e3 RQ8
  go_wp2_with fail
  refine EQ.out.mono ?_
  rintro e w10 ⟨rfl, rfl⟩
  go_wp2_with fail
  refine ED.out.mono ?_
  rintro e w11 ⟨rfl, rfl⟩
  go_wp2_with fail
  go_ret
  exact ⟨rfl, K9.out⟩
end Go.Proofs.YtjhmjokmjoldkaaGreatDoor
namespace Go.Proofs.YtjhmjokmjoldkaaGreatDoor
open Go.ChangeShapes Go.WideShapes Go.ChangeAt Go.RowKit Go.Deep Go.Shelf
set_option linter.unusedVariables false
set_option maxRecDepth 100000

/-- Itoa's contract, where its table lies. -/
theorem IT_of (n : Nat) (w : World) (hn : n ≤ 9223372036854775807) (hT : Lib.TabIs Tryz.prog w "internal/strconv.uint64pow10" .u64 Lib.pow10Tab) : IT n w := by
  unfold IT decD
  refine (Any.strconv_Itoa Tryz.laysM171 (n : Int) (by omega) (by omega) w hT).mono ?_
  rintro e w' ⟨rfl, k, os, rfl⟩
  refine ⟨?_, ?_⟩
  · unfold Lib.itoa
    rw [if_neg (by omega), Int.toNat_natCast]
  · exact Lib.below_grow w.heap.size w (Nat.le_refl _) k os
theorem pow_name : Tryz.prog.globalNamed "internal/strconv.uint64pow10" = some 3 := by kernel_rfl
theorem pow_type : (Tryz.prog.globals[3]?).map (·.type) = some 121 := by kernel_rfl
theorem pow_data : (Rows.laid_internal_strconv_uint64pow10 : DataW Unit) = Lib.tabData .u64 Lib.pow10Tab := by kernel_rfl
theorem tabP_of {W : World} (h : laidMetH Tryz.prog Rows.httpClosesRow.laid W) : Lib.TabIs Tryz.prog W "internal/strconv.uint64pow10" .u64 Lib.pow10Tab := by
  have h' : laidMet Tryz.prog [("math/bits.deBruijn32tab", Rows.laid_math_bits_deBruijn32tab), ("math/bits.deBruijn64tab", Rows.laid_math_bits_deBruijn64tab), ("internal/strconv.uint64pow10", Rows.laid_internal_strconv_uint64pow10), ("unicode/utf8.acceptRanges", Rows.laid_unicode_utf8_acceptRanges), ("unicode.CaseRanges", Rows.laid_unicode_CaseRanges), ("unicode/utf8.first", Rows.laid_unicode_utf8_first)] W := h
  have h2 := (laidMet.tail (laidMet.tail h'))
  rw [pow_data] at h2
  exact Lib.tabIs_of_head pow_name pow_type Tryz.underlying121 Tryz.underlying100 (by kernel_rfl) (by kernel_rfl) h2
theorem tabP_on {W W1 : World} (h : Lib.TabIs Tryz.prog W "internal/strconv.uint64pow10" .u64 Lib.pow10Tab) (k : Below W.heap.size W W1) : Lib.TabIs Tryz.prog W1 "internal/strconv.uint64pow10" .u64 Lib.pow10Tab := by
  have hc := Lib.TabIs.cell h pow_name 0 (by rw [Lib.pow10Tab_length]; omega)
  have := World.block_lt_of_cell? W _ hc
  unfold Lib.TabIs at h ⊢
  exact var?_below k pow_name this h
end Go.Proofs.YtjhmjokmjoldkaaGreatDoor
