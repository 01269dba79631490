/-
  The walk of WireTrail: a byte more, a byte less.
-/
import Derived.Test.YtknpkifhkefikaaDoorDcL
namespace Go.Proofs.YtknpkifhkefikaaDoor
open Go.RowKit Go.Maps
set_option linter.unusedVariables false
set_option maxRecDepth 100000
attribute [local go_sem ↓] exec_loadMg

/-- An error is never 0. -/
def Rd.nz {α : Type} (r : Rd α) : Prop := ∀ e, r = .no e → e ≠ 0
theorem nz_ok {α : Type} (x : α) (z : Nat) : (Rd.ok x z).nz := fun e h => by cases h
theorem nz_no {α : Type} {k : Nat} (h : k ≠ 0) : (Rd.no k : Rd α).nz := fun e he => by injection he with he; omega
theorem nz_then {α β : Type} {r : Rd α} {f : α → Nat → Rd β} (h : r.nz) (hf : ∀ x z, (f x z).nz) : (r.then f).nz := by
  cases r with
  | ok x z => exact hf x z
  | no k => exact fun e he => by injection he with he; exact he ▸ h k rfl
theorem nz_take {sh : Nat} (h : sh ≠ 0) (b : Bs) (p k : Nat) : (takR sh b p k).nz := by
  unfold takR
  split
  · exact nz_no h
  · exact nz_ok _ _
theorem nz_num {sh : Nat} (h : sh ≠ 0) (b : Bs) (p k : Nat) : (numR sh b p k).nz := nz_then (nz_take h b p k) (fun _ _ => nz_ok _ _)
theorem nz_nm {sh : Nat} (h : sh ≠ 0) (b : Bs) (g p bh : Nat) (acc : Bs) : (nmR sh b g p bh acc).nz := by
  by_cases h0 : p < b.length
  · by_cases h1 : 192 ≤ b[p].toNat
    · by_cases h2 : p + 1 < b.length
      · by_cases h3 : (b[p].toNat - 192) * 256 + b[p + 1].toNat < g
        · rw [nmR_back h0 h1 h2 h3]
          exact nz_nm h b _ _ _ _
        · rw [nmR_ahead h0 h1 h2 h3]; exact nz_no (by decide)
      · rw [nmR_half h0 h1 h2]; exact nz_no h
    · by_cases h2 : 63 < b[p].toNat
      · rw [nmR_wide h0 h1 h2]; exact nz_no (by decide)
      · by_cases hz : b[p].toNat = 0
        · rw [nmR_root h0 hz]; exact nz_ok _ _
        · by_cases h3 : p + 1 + b[p].toNat ≤ b.length
          · by_cases h4 : 255 < acc.length + b[p].toNat + 2
            · rw [nmR_long h0 h2 h3 hz h4]; exact nz_no (by decide)
            · rw [nmR_label h0 h2 h3 hz h4]
              exact nz_nm h b g _ bh _
          · rw [nmR_cut h0 h2 h3]; exact nz_no h
  · rw [nmR_end h0]; exact nz_no h
termination_by (g, b.length - p)
decreasing_by
  · exact Prod.Lex.left _ _ h3
  · exact Prod.Lex.right _ (by omega)
theorem nz_ns {sh : Nat} (h : sh ≠ 0) (b : Bs) : ∀ (k p : Nat) (acc : Bs), (nsR sh b k p acc).nz
  | 0, p, acc => nz_ok _ _
  | k + 1, p, acc => nz_then (nz_nm h b p p 0 []) (fun _ _ => nz_ns h b k _ _)
theorem nz_da (b : Bs) (t : Int) (p size : Nat) : (daR b t p size).nz :=
  nz_then (nz_take (by decide) b p size) fun _ _ => nz_then (nz_take (by decide) _ _ _) fun _ _ => nz_then (nz_ns (by decide) _ _ _ _) fun _ _ => by
    split
    · exact nz_ok _ _
    · exact nz_no (by decide)
theorem nz_qu (b : Bs) (p : Nat) : (quR b p).nz := nz_then (nz_nm (by decide) b p p 0 []) fun _ _ => nz_then (nz_num (by decide) _ _ _) fun _ _ => nz_then (nz_num (by decide) _ _ _) fun _ _ => nz_ok _ _
theorem nz_re (b : Bs) (p : Nat) : (reR b p).nz := nz_then (nz_nm (by decide) b p p 0 []) fun _ _ => nz_then (nz_num (by decide) _ _ _) fun _ _ => nz_then (nz_num (by decide) _ _ _) fun _ _ => nz_then (nz_num (by decide) _ _ _) fun _ _ => nz_then (nz_num (by decide) _ _ _) fun _ _ => nz_then (nz_da _ _ _ _) fun _ _ => nz_ok _ _
theorem nz_many {α : Type} {f : Nat → Rd α} (hf : ∀ p, (f p).nz) : ∀ (k p : Nat) (acc : List α), (manyR f k p acc).nz
  | 0, p, acc => nz_ok _ _
  | k + 1, p, acc => nz_then (hf p) (fun _ _ => nz_many hf k _ _)
theorem nz_ms (b : Bs) (n0 n1 n2 n3 : Nat) : (msR b n0 n1 n2 n3).nz := nz_then (nz_many (nz_qu b) _ _ _) fun _ _ => nz_then (nz_many (nz_re b) _ _ _) fun _ _ => nz_then (nz_many (nz_re b) _ _ _) fun _ _ => nz_then (nz_many (nz_re b) _ _ _) fun _ _ => by
  split
  · exact nz_no (by decide)
  · exact nz_ok _ _
theorem zB_pre {a b : Bs} (h : a <+: b) {i : Nat} (hi : i < a.length) : zB b i = zB a i := by unfold zB; rw [getD_pre h hi]
theorem ctB_pre {a b : Bs} (h : a <+: b) {i : Nat} (hi : i + 1 < a.length) : ctB b i = ctB a i := by unfold ctB; rw [getD_pre h (by omega), getD_pre h hi]
/-- A byte behind. -/
theorem mR_trail {b : Bs} {x : Parts} {z : Nat} (c : UInt8) (hb : 12 ≤ b.length) (h : mR b = .ok x z) (hz : bits .and .i64 (zB b 2 * 256 + zB b 3) 112 = 0) : mR (b ++ [c]) = .no 41 ∧ bits .and .i64 (zB (b ++ [c]) 2 * 256 + zB (b ++ [c]) 3) 112 = 0 := by
  have hp : b <+: b ++ [c] := ⟨_, rfl⟩
  unfold mR at h ⊢
  rw [ctB_pre hp (by omega), ctB_pre hp (by omega), ctB_pre hp (by omega), ctB_pre hp (by omega), zB_pre hp (by omega), zB_pre hp (by omega)]
  exact ⟨msR_trail c hb h, hz⟩
/-- A byte less. -/
theorem mR_less {b : Bs} {x : Parts} {z : Nat} (hb : 13 ≤ b.length) (h : mR b = .ok x z) (hz : bits .and .i64 (zB b 2 * 256 + zB b 3) 112 = 0) : (∃ k, k ≠ 0 ∧ mR (b.take (b.length - 1)) = .no k) ∧ bits .and .i64 (zB (b.take (b.length - 1)) 2 * 256 + zB (b.take (b.length - 1)) 3) 112 = 0 := by
  have hne : b ≠ [] := by intro e; subst e; simp at hb
  have hl : (b.take (b.length - 1)).length = b.length - 1 := by rw [List.length_take]; omega
  have hp : b.take (b.length - 1) <+: b := List.take_prefix _ _
  have hz2 : bits .and .i64 (zB (b.take (b.length - 1)) 2 * 256 + zB (b.take (b.length - 1)) 3) 112 = 0 := by rw [← zB_pre hp (by omega), ← zB_pre hp (by omega)]; exact hz
  refine ⟨?_, hz2⟩
  cases hr : mR (b.take (b.length - 1)) with
  | no k => exact ⟨k, nz_ms _ _ _ _ _ k hr, rfl⟩
  | ok y q =>
    have h2 := (mR_trail (b.getLast hne) (by omega) hr hz2).1
    rw [← List.dropLast_eq_take, List.dropLast_concat_getLast hne, h] at h2
    cases h2
set_option maxHeartbeats 4000000 in
set_option maxRecDepth 100000 in
theorem WireTrail_any (m : Msg) (v : MV) (c : UInt8) (w : World) (hM : Ms w m v) (hk : Masks w) : Calls Tryd.prog 6 #[.agg (msL m v).toArray, .int .u8 c.toNat] w fun e w' => e = .returned (.bool true) ∧ Below w.heap.size w w' := by
  obtain ⟨la, hla⟩ : ∃ x, x = (msL m v).toArray := ⟨_, rfl⟩
  have b0 : Below w.heap.size w (w.alloc (.cells la 27 (0, 0))) := Below.alloc (Below.refl _ _) (Nat.le_refl _) _
  have r0 : (w.alloc (.cells la 27 (0, 0))).heap[w.heap.size]? = some (.cells la 27 (0, 0)) := row_new _ rfl
  have iA : Hid ((Tryd.prog.info? 27).map (·.size) = some la.size) := Lib.hid (by rw [hla]; exact info_ms)
  have fa : loadMg (.pointer (some ⟨w.heap.size, 0, none⟩)) (w.alloc (.cells la 27 (0, 0))) = .ok (.value (.agg la)) (w.alloc (.cells la 27 (0, 0))) := loadMg_row r0 iA.out
  have E1 := (Encode_any m v _ (hM.on b0) (hk.on b0)).mono fun e w' h => h.tell
  have E2 := Lib.hid (fun W (h : Below w.heap.size w W) => (dEncode_any m v W (hM.on h) (hk.on h)).mono fun e w' h => h.tell)
  rw [← hla] at E1 E2 ⊢
  have E1 := Lib.hid E1
  obtain ⟨l, hl⟩ : ∃ l, l = encL m := ⟨_, rfl⟩
  obtain ⟨k, hkk⟩ : ∃ k, k = encN m := ⟨_, rfl⟩
  obtain ⟨n, hn⟩ : ∃ n, n = l.length := ⟨_, rfl⟩
  rw [← hl, ← hkk, ← hn] at E1 E2
  have HL := Lib.hid hl
  have HK := Lib.hid hkk
  have HN := Lib.hid hn
  have HLA := Lib.hid hla
  have HR0 := Lib.hid r0
  have HB0 := Lib.hid b0
  have HM := Lib.hid hM
  have HMK := Lib.hid hk
  obtain ⟨cn, hcn⟩ : ∃ x, x = c.toNat := ⟨_, rfl⟩
  rw [← hcn]
  have HCN := Lib.hid hcn
  clear hla b0 r0 hM hk hl hkk hn hcn
  go_enter Tryd.func6, Tryd.ntmps6
  go_wp2_with fail
  refine E1.out.mono ?_
  rintro e w1 ⟨A1, c1, rfl, b1, s1⟩
  have B1 : Below w.heap.size w w1 := Below.trans HB0.out (b1.mono HB0.out.size)
  have R1 : w1.heap[w.heap.size]? = some (.cells la 27 (0, 0)) := (b1.block _ (Array.getElem?_eq_some_iff.1 HR0.out).1).trans HR0.out
  have fa1 : loadMg (.pointer (some ⟨w.heap.size, 0, none⟩)) w1 = .ok (.value (.agg la)) w1 := loadMg_row R1 iA.out
  have HB1 := Lib.hid B1
  have HS1 := Lib.hid s1
  have hkeq : ((k : Int) == (k : Int)) = true := by simp
  clear b1 s1 R1 E1 fa
  by_cases h0 : k = 0
  · obtain ⟨X, x1, x2, x3⟩ := enc_ok (HK.out ▸ h0)
    obtain ⟨y1, y2, y3, y4, y5⟩ := enc_back x1 x2
    rw [← x3, ← HL.out] at y1 y2 y3 y4 y5
    have hk0 : ((k : Int) != 0) = false := by simp [h0]
    by_cases hbig : 65000 < n
    · have hbig' : (65000 : Int) < (n : Int) := by omega
      have E2 := Lib.hid (E2.out w1 HB1.out)
      clear x1 x2 x3 y1 y2 y3 y4 y5 h0 B1
      go_wp2_with fail
      refine E2.out.mono ?_
      rintro e w2 ⟨A2, c2, rfl, b2, -⟩
      have B2 : Below w.heap.size w w2 := Below.trans HB1.out (b2.mono HB1.out.size)
      have HB2 := Lib.hid B2
      have AW := Lib.hid (awake4_any w2 (HMK.out.on B2))
      clear b2 B2 E2 fa1
      go_wp2_with fail
      refine AW.out.mono ?_
      rintro e w3 ⟨rfl, b3⟩
      have HB3 := Lib.hid (Below.trans HB2.out (b3.mono HB2.out.size))
      go_wp2_with fail
      go_ret
      exact ⟨rfl, HB3.out⟩
    · have hbig' : ¬ (65000 : Int) < (n : Int) := by omega
      have hn12 : 12 ≤ n := by rw [HN.out]; exact y1
      have h12' : ¬ (n : Int) < 12 := by omega
      have HY1 := Lib.hid y1
      have HY4 := Lib.hid y4
      have HY5 := Lib.hid y5
      have CL := Lib.hid (CloneR_any A1 l n c1 w1 HS1.out.bys HN.out (by omega) (fun q h1 h2 => HS1.out.inside q h1 (by rw [← HN.out]; exact h2)))
      clear x1 x2 x3 y1 y2 y3 y4 y5 h0 B1 E2 fa1
      go_wp2_with fail
      refine CL.out.mono ?_
      rintro e w2 ⟨v2, rfl, ho2, -, b2⟩
      have HB2 := Lib.hid (Below.trans HB1.out (b2.mono HB1.out.size))
      obtain ⟨W2, hW2⟩ : ∃ W2, W2 = w2.alloc (.cells #[.int .u8 cn] 5) := ⟨_, rfl⟩
      have bA : Below w2.heap.size w2 W2 := by rw [hW2]; exact Below.alloc (Below.refl _ _) (Nat.le_refl _) _
      have S2 := Lib.hid (show Sl W2 (some ⟨w2.heap.size, 0, none⟩) 1 [c] by rw [hW2]; exact Sl.made (l := [c]) (by rw [HCN.out]; rfl) (by simp))
      have HO2 := Lib.hid (ho2.below bA)
      have HBA := Lib.hid (Below.trans HB2.out (bA.mono HB2.out.size))
      have HSZ := Lib.hid (show w1.heap.size ≤ W2.heap.size from Nat.le_trans b2.size bA.size)
      have HS2 := Lib.hid ((HS1.out.on b2).on bA)
      have HNB : Hid (n ≤ 65000) := Lib.hid (by omega)
      have HW2 := Lib.hid hW2
      clear ho2 b2 hW2 bA CL hbig
      go_wp2_with (first
        | rw [← HW2.out]
        | (at_builtin; refine wpList_appR rfl (.tmp 41) (.tmp 43) rfl w1.heap.size _ l rfl HO2.out (some ⟨w2.heap.size, 0, none⟩) 1 1 rfl [c] rfl S2.out.bys (fun h => by cases h) (by have := HNB.out; have := HN.out; simp; omega) HSZ.out ?_)
        | fail)
      intro v3 w3 ho3 hg3
      have hm3 : Mod (fun i => v2.ownBlock = some i) W2 w3 := Mod.grown hg3 (fun i hi => hi)
      have HS3 := Lib.hid (HS2.out.mod hm3 (fun q hq e => by
        have h1 := HS1.out.inside q hq (by have := HY1.out; omega)
        have h2 := (HO2.out.ownB.lt q.block e).1
        omega))
      have B3 : Below w.heap.size w w3 := Mod.out HBA.out hm3 HBA.out.size (fun i hi => by have := (HO2.out.ownB.lt i hi).1; have := HB1.out.size; omega)
      obtain ⟨A3, c3, rfl, hs3⟩ := ho3.ownB.bysN
      have hy41 := mR_trail c HY1.out HY4.out HY5.out
      have hyl : (l ++ [c]).length = n + 1 := by rw [List.length_append, ← HN.out]; rfl
      have DC := DecodeD_any A3 c3 (l ++ [c]) w3 hs3 (by have := HY1.out; have := HN.out; omega) (by have := HNB.out; omega) (HMK.out.on B3) hy41.2
      rw [hy41.1] at DC
      have DC := Lib.hid DC
      have HB3 := Lib.hid B3
      obtain ⟨ny, hny⟩ : ∃ x, x = (l ++ [c]).length := ⟨_, rfl⟩
      rw [← hny] at DC
      rw [← hny]
      clear hm3 hs3 ho3 hg3 hy41 hyl B3 hny HO2 S2 HW2 HSZ HBA
      go_wp2_with fail
      refine DC.out.mono ?_
      rintro e w4 ⟨rfl, b4⟩
      have HB4 := Lib.hid (Below.trans HB3.out (b4.mono HB3.out.size))
      have HS4 := Lib.hid (HS3.out.on b4)
      obtain ⟨W5, hW5⟩ : ∃ W5, W5 = w4.alloc (.cells zeroM 27) := ⟨_, rfl⟩
      have b5 : Below w4.heap.size w4 W5 := by rw [hW5]; exact Below.alloc (Below.refl _ _) (Nat.le_refl _) _
      have HB5 := Lib.hid (Below.trans HB4.out (b5.mono HB4.out.size))
      have HS5 := Lib.hid (HS4.out.on b5)
      have HW5 := Lib.hid hW5
      obtain ⟨s5, hs5⟩ := HS5.out.headB (n - 1) ((n : Int) - 1) (by have := HN.out; omega) (by omega)
      rw [← HN.out] at s5
      have hw5 : wrap64 ((n : Int) - 1) = (n : Int) - 1 := by unfold wrap64; omega
      have D2 : ∃ kk : Nat, kk ≠ 0 ∧ Calls Tryd.prog 16 #[.slice A1 (n - 1 : Nat) c1] W5 fun e w' => e = .returned (.tuple #[.agg zeroM, .int .i64 kk]) ∧ Below W5.heap.size W5 w' := by
        by_cases h13 : n < 13
        · exact ⟨20, by decide, DecodeD_short A1 c1 (n - 1) W5 (by omega)⟩
        · have hN := HN.out
          obtain ⟨⟨kk, hk0, hR⟩, hz⟩ := mR_less (by omega) HY4.out HY5.out
          have hlt : (l.take (l.length - 1)).length = n - 1 := by rw [List.length_take]; omega
          rw [hN] at hs5
          have D := DecodeD_any A1 c1 (l.take (l.length - 1)) W5 hs5 (by omega) (by have := HNB.out; omega) (HMK.out.on HB5.out) hz
          rw [hR, hlt] at D
          exact ⟨kk, hk0, D⟩
      obtain ⟨kk, hkk0, D2⟩ := D2
      have D2 := Lib.hid D2
      have hkk' : ((kk : Int) != 0) = true := by rw [bne_iff_ne]; omega
      obtain ⟨n1, hn1⟩ : ∃ x, x = n - 1 := ⟨_, rfl⟩
      rw [← hn1] at s5 D2
      clear b4 DC hW5 b5 hs5 hkk0 hn1
      go_upto_region 8 with fail
      rw [← HW5.out]
      go_wp2_with fail
      refine D2.out.mono ?_
      rintro e w6 ⟨rfl, b6⟩
      have HB6 := Lib.hid (Below.trans HB5.out (b6.mono HB5.out.size))
      have HB7 : Hid (Below w.heap.size w (w6.alloc (.cells zeroM 27))) := Lib.hid (Below.alloc HB6.out HB6.out.size _)
      clear b6 D2
      go_wp2_with fail
      go_ret
      exact ⟨rfl, HB7.out⟩
  · have hk0 : ((k : Int) != 0) = true := by rw [bne_iff_ne]; omega
    have E2 := Lib.hid (E2.out w1 HB1.out)
    clear h0 B1
    go_wp2_with fail
    refine E2.out.mono ?_
    rintro e w2 ⟨A2, c2, rfl, b2, -⟩
    have B2 : Below w.heap.size w w2 := Below.trans HB1.out (b2.mono HB1.out.size)
    have HB2 := Lib.hid B2
    have AW := Lib.hid (awake4_any w2 (HMK.out.on B2))
    clear b2 B2 E2 fa1
    go_wp2_with fail
    refine AW.out.mono ?_
    rintro e w3 ⟨rfl, b3⟩
    have HB3 := Lib.hid (Below.trans HB2.out (b3.mono HB2.out.size))
    go_wp2_with fail
    go_ret
    exact ⟨rfl, HB3.out⟩
end Go.Proofs.YtknpkifhkefikaaDoor
