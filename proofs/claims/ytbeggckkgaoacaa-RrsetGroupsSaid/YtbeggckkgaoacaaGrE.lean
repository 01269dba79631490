/-
  The landed groups of records.
-/
import Derived.Test.YtbeggckkgaoacaaGrD
namespace Go.Proofs.Ytbeggckkgaoacaa
open Go.RowKit
set_option linter.unusedVariables false
set_option maxRecDepth 100000
attribute [local go_sem ↓] exec_appRr exec_loadRr

theorem info_sr : (Try.prog.info? 22).map (fun i => (i.zero, i.size, i.bytes)) = some (some (.slice none 0 0), 1, 24) := by kernel_rfl
theorem info_key : (Try.prog.info? 58).map (·.size) = some 3 := by kernel_rfl
theorem group_le {L : List Rr} : ∀ i (h : i < (groupsP L).length), ((groupsP L)[i]).length ≤ L.length := fun i h => by
  simp only [groupsP, List.getElem_map]
  exact List.length_filter_le _ _
theorem idx_lt {L : List Rr} {k : Bs × Int × Int} {i : Nat} (h : idxP (firstsP L) k = some i) : i < (groupsP L).length := by
  obtain ⟨hi, -⟩ := idx_some h
  rw [groups_len]; exact hi

set_option maxHeartbeats 4000000 in
set_option maxRecDepth 100000 in
theorem groups_any (A : Option Addr) (L : List Rr) (c : Nat) (w : World) (hS : Rs w A L) (hl : (L.length + 1) * 64 ≤ 140737488351232) (hK : ∀ r ∈ L, KeyOk (keyR r)) :
    Calls Try.prog 32 #[.slice A L.length c, .func (.func 33) #[] #[]] w fun e w' => ∃ v vs, e = .returned v ∧ w'.ownsRow w.heap.size 22 1 v (groupsP L).length vs ∧ Grp w w' w.heap.size vs (groupsP L) ∧ Below w.heap.size w w' := by
  have hE := fun (args : Array Value) (w : World) => run_enter Try.func33 (by kernel_rfl) (by kernel_rfl) args w
  obtain ⟨i0, hi, hz0, hz1, hz2⟩ := info_parts info_sr
  obtain ⟨n, hn⟩ : ∃ n, n = L.length := ⟨_, rfl⟩
  rw [← hn]
  rw [← hn] at hl
  have HN := Lib.hid hn
  have HS := Lib.hid hS
  have HK := Lib.hid hK
  have P0 := Lib.hid (PlM.new w)
  have B0 : Hid (Below w.heap.size w (w.alloc (.map #[] 0))) := Lib.hid (Below.alloc (Below.refl _ _) (Nat.le_refl _) _)
  have hmm := @run_makeMap Try.prog
  clear hn hS hK
  go_enter Try.func32, Try.ntmps32
  go_wp2_with fail
  clear hmm
  go_loopw [6, 15] (fun v6 v15 wr => ∃ (k : Nat) (vs : List Value), v15 = .int .i64 k ∧ k ≤ n ∧ Hid (wr.ownsRow w.heap.size 22 1 v6 (groupsP (L.take k)).length vs) ∧ Hid (Grp w wr w.heap.size vs (groupsP (L.take k))) ∧ Hid (PlM wr w.heap.size k (firstsP (L.take k))) ∧ Below w.heap.size w wr) (fun _ v15 _ => n - (intOf v15).toNat)
  case atStart => exact ⟨0, [], rfl, by omega, Lib.hid (World.ownsRow_nil _ _ _ _), Lib.hid (Grp.nil _ _ _), P0, B0.out⟩
  case round =>
    obtain ⟨k, vs, rfl, hk, HO, HG, HP, hB⟩ := hrel
    rename World => wr
    clear P0 B0
    by_cases hlt : k < n
    · have hlt' : (k : Int) < (n : Int) := by omega
      have kL : k < L.length := by have := HN.out; omega
      obtain ⟨g1, o1, rfl, hc1⟩ := id HS.out (by omega)
      obtain ⟨a1, d1, D1, R1⟩ := hc1 k kL
      have R1' := range_on R1 hB
      have hkx := HK.out L[k] (List.getElem_mem kL)
      have htk : L.take (k + 1) = L.take k ++ [L[k]] := List.take_succ_eq_append_getElem kL
      have hml := groups_len (L.take k)
      have hfl := firsts_len (L.take k)
      rw [List.length_take] at hfl
      have hge := @group_le (L.take k)
      have hgn := @groups_new (L.take k) L[k]
      have hgo := fun i => @groups_old (L.take k) L[k] i
      have hix := fun i => @idx_lt (L.take k) (keyR L[k]) i
      rw [← htk] at hgn hgo
      rw [List.length_take] at hge
      generalize L[k] = x at *
      have hsz := hB.size
      have i1 : Hid ((Try.prog.info? 39).map (·.size) = some (rrC x a1 d1).size) := Lib.hid info_rr
      have j1 : Hid ((Try.prog.info? 39).map (·.size) = some (rrL x a1 d1).length) := Lib.hid info_rr
      have one1 := Lib.hid (rr_one x a1 d1)
      have z1 : Hid ((rrZ).size = (rrC x a1 d1).size) := Lib.hid rfl
      have rZ := row_new (w := wr) (k := wr.heap.size) (.cells rrZ 39 (0, 0)) rfl
      have r5 := setRow_heap _ _ _ (rrC x a1 d1) _ _ rZ
      have q1 : Below wr.heap.size wr ((wr.alloc (.cells rrZ 39)).setRow wr.heap.size (rrC x a1 d1)) := Below.setRow (Below.alloc (Below.refl _ _) (Nat.le_refl _) _) (Nat.le_refl _) _
      have sz1 : ((wr.alloc (.cells rrZ 39)).setRow wr.heap.size (rrC x a1 d1)).heap.size = wr.heap.size + 1 := by rw [size_setRow]; simp
      rw [rrZ_lit] at rZ r5 q1 sz1 z1
      obtain ⟨W1, hW1⟩ : ∃ W1, W1 = (wr.alloc (.cells #[.string ⟨#[]⟩, .int .i64 0, .int .i64 0, .int .i64 0, .slice none 0 0] 39)).setRow wr.heap.size (rrC x a1 d1) := ⟨_, rfl⟩
      rw [← hW1] at r5 q1 sz1
      have HW1 := Lib.hid hW1
      have bW1 := Below.trans hB (q1.mono hsz)
      have KO := Lib.hid (keyOf_any x a1 d1 W1)
      have R5 := Lib.hid r5
      have BW1 := Lib.hid bW1
      have Q1 := Lib.hid q1
      have HD1 := Lib.hid D1
      have HKX := Lib.hid hkx
      have HTK := Lib.hid htk
      have HML := Lib.hid hml
      have HFL := Lib.hid hfl
      have HGE := Lib.hid hge
      have HGN := Lib.hid hgn
      have HGO := Lib.hid hgo
      have HIX := Lib.hid hix
      have HKV : Hid (keyC x.n x.t x.c = keyV (keyR x)) := Lib.hid rfl
      clear hW1 hc1 D1 R1 hkx htk hml hfl hge hgn hgo hix bW1 q1 r5 hB
      obtain ⟨C, hC⟩ : ∃ C, C = rrC x a1 d1 := ⟨_, rfl⟩
      obtain ⟨l1, hl1⟩ : ∃ l1, l1 = rrL x a1 d1 := ⟨_, rfl⟩
      have hCl : C = l1.toArray := by rw [hC, hl1]; rfl
      have HC := Lib.hid hC
      rw [← hl1] at R1' j1
      rw [← hC] at i1 one1 z1 HW1 R5 KO
      have HCL := Lib.hid hCl
      clear hC hl1 hCl
      go_wp2_with (first
        | (refine wpList_load_mid rfl 39 (.tmp 17) rfl g1 (o1 + k * 5) rfl l1 _ R1' Try.underlying39 rfl j1.out ?_; rw [← HCL.out])
        | (refine wpList_store_row rfl 39 (.tmp 8) (.tmp 18) rfl wr.heap.size C rfl rfl 39 _ rZ i1.out (by first | exact z1.out | exact z1.out.symm) one1.out ?_; rw [← HW1.out])
        | (refine wpList_load_row rfl 39 (.tmp 8) rfl wr.heap.size rfl 39 _ (0, 0) _ R5.out Try.underlying39 rfl i1.out ?_)
        | fail)
      refine KO.out.mono ?_
      rintro e w2 ⟨rfl, b2⟩
      have r8 := (b2.block _ (Array.getElem?_eq_some_iff.1 R5.out).1).trans R5.out
      have sz2 := b2.size
      have bw2 := Below.trans BW1.out (b2.mono BW1.out.size)
      have q2 := Below.trans Q1.out (b2.mono Q1.out.size)
      obtain ⟨D, hDv⟩ : ∃ D, D = keyC x.n x.t x.c := ⟨_, rfl⟩
      have HDV := Lib.hid hDv
      have I2 : Hid ((Try.prog.info? 58).map (·.size) = some D.size) := Lib.hid (by rw [hDv]; exact info_key)
      have O2 : Hid (D.all (·.oneCell') = true) := Lib.hid (by rw [hDv]; simp [keyC, Value.oneCell'])
      have Z2 : Hid ((#[.string ⟨#[]⟩, .int .i64 0, .int .i64 0] : Array Value).size = D.size) := Lib.hid (by rw [hDv]; rfl)
      have rZ2 := row_new (w := w2) (k := w2.heap.size) (.cells #[.string ⟨#[]⟩, .int .i64 0, .int .i64 0] 58 (0, 0)) rfl
      have r9 := setRow_heap _ _ _ D _ _ rZ2
      have q3 : Below w2.heap.size w2 ((w2.alloc (.cells #[.string ⟨#[]⟩, .int .i64 0, .int .i64 0] 58)).setRow w2.heap.size D) := Below.setRow (Below.alloc (Below.refl _ _) (Nat.le_refl _) _) (Nat.le_refl _) _
      obtain ⟨W3, hW3⟩ : ∃ W3, W3 = (w2.alloc (.cells #[.string ⟨#[]⟩, .int .i64 0, .int .i64 0] 58)).setRow w2.heap.size D := ⟨_, rfl⟩
      rw [← hW3] at r9 q3
      have HW3 := Lib.hid hW3
      have r83 := (q3.block _ (by have := (Array.getElem?_eq_some_iff.1 r8).1; omega)).trans r8
      have bw3 := Below.trans bw2 (q3.mono bw2.size)
      have qq := Below.trans q2 (q3.mono q2.size)
      have o3 := ownsRow_below HO.out qq (Nat.le_refl _)
      have G3 := HG.out.below qq
      have P3 := HP.out.below qq
      have lk := P3.look HKX.out D (by rw [hDv]; rfl)
      have HO3 := Lib.hid o3
      have HG3 := Lib.hid G3
      have HP3 := Lib.hid P3
      have R8 := Lib.hid r83
      have R9 := Lib.hid r9
      have BW3 := Lib.hid bw3
      have HKK : Hid (k < 1000000000000000) := Lib.hid (by omega)
      have HMB := Lib.hid HP.out.lt
      have HLT6 := Lib.hid (fun g e => (HO.out.lt g e).2)
      clear b2 r8 bw2 q2 r9 q3 hW3 r83 bw3 qq o3 G3 P3 HO HG HP Q1 BW1 KO HW1 R5 hDv sz2
      rw [← HDV.out]
      cases hix : idxP (firstsP (L.take k)) (keyR x) with
      | some i =>
        rw [hix] at lk
        simp only [Option.getD_some, Option.isSome_some] at lk
        have him := HIX.out i hix
        obtain ⟨hif, hik⟩ := idx_some hix
        obtain ⟨e1, e2⟩ := HGO.out i hif hik
        have hge := HGE.out i him
        obtain ⟨m, hm⟩ : ∃ m, m = (groupsP (L.take k)).length := ⟨_, rfl⟩
        have o3 := HO3.out
        rw [← hm] at o3
        obtain ⟨A6, c6, hv6, -, -⟩ := own_form o3
        have hA6 : ∃ g6, u6 = .slice (some ⟨g6, 0, none⟩) m c6 := by
          rcases o3.2 with ⟨_, h0⟩ | ⟨g, cap, cur, h1, _⟩
          · omega
          · rw [hv6] at h1; injection h1 with h1 h2 h3; exact ⟨g, by rw [hv6, h1]⟩
        obtain ⟨g6, rfl⟩ := hA6
        clear hv6
        obtain ⟨Ai, mi, ci, A', m', c', W5, f1, f2, ap, f3, f4, o7, G7, P7, B7⟩ := grp_step (b8 := wr.heap.size) 22 BW3.out rfl o3 HG3.out him hm HP3.out (by rw [← HC.out]; exact R8.out) HD1.out (by omega)
        rw [show rrC x a1 d1 = #[.string (bs x.n), .int .i64 x.t, .int .i64 x.c, .int .i64 x.ttl, .slice a1 x.d.length d1] from rfl] at f2 ap
        have hCl : C = #[.string (bs x.n), .int .i64 x.t, .int .i64 x.c, .int .i64 x.ttl, .slice a1 x.d.length d1] := HC.out
        have hmi : (i : Int) < (m : Int) := by omega
        have L3 := loadRr_row R8.out i1.out
        have L3' : loadRr (.pointer (some ⟨wr.heap.size, 0, none⟩)) W3.drew = .ok (.value (.agg C)) W3.drew := loadRr_row (w1 := W3.drew) R8.out i1.out
        rw [hCl] at L3 L3'
        clear hCl
        have hml2 : (groupsP (L.take (k + 1))).length = m := by rw [e2, List.length_set, hm]
        rw [← e2] at G7
        have P8 : PlM (W5.setCell ⟨g6, i, none⟩ (.slice A' m' c')) w.heap.size (k + 1) (firstsP (L.take (k + 1))) := by
          rw [e1]
          obtain ⟨DD, d1, d2⟩ := P7
          exact ⟨DD, d1.mono (Nat.le_succ _), d2⟩
        have HO7 := Lib.hid o7
        have HG7 := Lib.hid G7
        have HP7 := Lib.hid P8
        have HB7 := Lib.hid B7
        have HMM := Lib.hid hml2
        clear o7 G7 P7 B7 P8 e1 e2 hge o3 hif hik him hix hm hml2
        go_wp2_with (first
          | (refine wpList_store_row rfl 58 (.tmp 9) (.tmp 21) rfl w2.heap.size D rfl rfl 58 _ rZ2 I2.out (by first | exact Z2.out | exact Z2.out.symm) O2.out ?_; rw [← HW3.out])
          | (refine wpList_load_row rfl 58 (.tmp 9) rfl w2.heap.size rfl 58 _ (0, 0) _ R9.out Try.underlying58 rfl I2.out ?_)
          | fail)
        go_region
        all_goals (go_wp2_with fail; go_roundw)
        case rel => exact ⟨k + 1, vs.set i (.slice A' m' c'), by go_num, by omega, (by rw [HMM.out]; exact HO7), HG7, HP7, HB7.out⟩
        case measure => simp [intOf]; omega
      | none =>
        rw [hix] at lk
        simp only [Option.getD_none, Option.isSome_none] at lk
        have hnm := idx_none hix
        obtain ⟨e1, e2⟩ := HGN.out hnm
        obtain ⟨m, hm⟩ : ∃ m, m = (groupsP (L.take k)).length := ⟨_, rfl⟩
        have hmf : m = (firstsP (L.take k)).length := by rw [hm, HML.out]
        have hmk : m ≤ k := by have := HFL.out; omega
        have o3 := HO3.out
        rw [← hm] at o3
        obtain ⟨A6, c6, rfl, hmc6, hcm6⟩ := own_form o3
        have hc63 : c6 ≤ 9223372036854775807 := by unfold maxLen at hcm6; omega
        obtain ⟨W4, hput, g4, P4⟩ := HP3.out.put HKK.out HKX.out hix D (by rw [HDV.out, HKV.out]) m hmf
        have em : Elsewhere W3 39 (some w.heap.size) := by
          obtain ⟨es, ck, h⟩ := HP3.out.map
          exact elsewhere_map h
        have em2 : Elsewhere W3 22 (some w.heap.size) := by
          obtain ⟨es, ck, h⟩ := HP3.out.map
          exact elsewhere_map h
        have o4 := own_keptE o3 g4 em2
        have G4 := HG3.out.keptE g4 em
        have B4 : Below w.heap.size w W4 := Below.grown BW3.out g4 BW3.out.size (fun k hk => by injection hk with hk; omega)
        have hW3lt := (Array.getElem?_eq_some_iff.1 R8.out).1
        have r84 := (g4.block _ hW3lt (fun e => by injection e with e; have := HMB.out; omega)).trans R8.out
        rw [← e1] at P4
        have b5 : Below W4.heap.size W4 (W4.alloc (.cells #[.slice none 0 0] 22)) := Below.alloc (Below.refl _ _) (Nat.le_refl _) _
        have sz4 := B4.size
        have HO4 := Lib.hid (ownsRow_below o4 b5 (Nat.le_refl _))
        have HG4 := Lib.hid (G4.below b5)
        have HP4 := Lib.hid (P4.below b5)
        have HB4 := Lib.hid (Below.trans B4 (b5.mono B4.size))
        have R84 := Lib.hid ((b5.block _ (Array.getElem?_eq_some_iff.1 r84).1).trans r84)
        have HE2 := Lib.hid e2
        have HM := Lib.hid hm
        clear e1 e2 hm hmf o3 em em2 o4 G4 B4 r84 b5 hix hnm P4 g4 hcm6 HO3 HG3 HP3 BW3 R8 HIX HGO HGN HML
        go_wp2_with (first
          | (refine wpList_store_row rfl 58 (.tmp 9) (.tmp 21) rfl w2.heap.size D rfl rfl 58 _ rZ2 I2.out (by first | exact Z2.out | exact Z2.out.symm) O2.out ?_; rw [← HW3.out])
          | (refine wpList_load_row rfl 58 (.tmp 9) rfl w2.heap.size rfl 58 _ (0, 0) _ R9.out Try.underlying58 rfl I2.out ?_)
          | (at_builtin; refine wpList_append_at rfl _ _ 55 rfl w.heap.size 22 i0 (.slice none 0 0) 1 24 Try.underlying55 hi hz0 hz1 hz2 rfl (by decide) _ m vs rfl HO4.out ⟨W4.heap.size, 0, none⟩ 1 1 [.slice none 0 0] rfl rfl (World.news_of_block (cs := #[.slice none 0 0]) (t := 22) (fr := (0, 0)) (row_new _ rfl)) (by intro u hu; rw [List.mem_singleton.1 hu]; rfl) (by unfold maxLen; omega) (by omega) (by simp; omega) ?_)
          | fail)
        intro v7 W5 o5 g5 _
        have e5 : Elsewhere (W4.alloc (.cells #[.slice none 0 0] 22)) 39 (Value.slice A6 m c6).ownBlock := elsewhere_own HO4.out (by decide)
        have G5 := (HG4.out.keptE g5 e5).more
        have P5 := HP4.out.kept g5 (fun g hg => by
          obtain ⟨cs, fz, h⟩ := own_cells HO4.out g hg
          exact ⟨cs, _, fz, h⟩)
        have B5 : Below w.heap.size w W5 := Below.grown HB4.out g5 HB4.out.size (fun g e => (HO4.out.lt g e).1)
        have r85 := (g5.block _ (Array.getElem?_eq_some_iff.1 R84.out).1 (fun e => by have := HLT6.out _ e.symm; omega)).trans R84.out
        obtain ⟨c7, hv7⟩ : ∃ c7 g7, v7 = .slice (some ⟨g7, 0, none⟩) (m + 1) c7 := by
          rcases o5.2 with ⟨_, h0⟩ | ⟨g, cap, cur, h1, _⟩
          · omega
          · exact ⟨cap, g, h1⟩
        obtain ⟨g7, rfl⟩ := hv7
        have hMl : m < (groupsP (L.take k) ++ [[]]).length := by rw [List.length_append, ← HM.out]; simp
        have hMm : (groupsP (L.take k) ++ [[]])[m] = [] := by rw [List.getElem_append_right (by rw [← HM.out]; exact Nat.le_refl _)]; simp [← HM.out]
        obtain ⟨Ai, mi, ci, A', m', c', W6, f1, f2, ap, f3, f4, o7, G7, P7, B7⟩ := grp_step (b8 := wr.heap.size) 22 B5 rfl o5 G5 hMl (by rw [List.length_append, ← HM.out]; rfl) P5 (by rw [← HC.out]; exact r85) HD1.out (by rw [hMm]; simp)
        rw [show rrC x a1 d1 = #[.string (bs x.n), .int .i64 x.t, .int .i64 x.c, .int .i64 x.ttl, .slice a1 x.d.length d1] from rfl] at f2 ap
        have hCl : C = #[.string (bs x.n), .int .i64 x.t, .int .i64 x.c, .int .i64 x.ttl, .slice a1 x.d.length d1] := HC.out
        have L3 := loadRr_row r85 i1.out
        have L3' : loadRr (.pointer (some ⟨wr.heap.size, 0, none⟩)) W5.drew = .ok (.value (.agg C)) W5.drew := loadRr_row (w1 := W5.drew) r85 i1.out
        rw [hCl] at L3 L3'
        clear hCl
        have hset : (groupsP (L.take k) ++ [[]]).set m ((groupsP (L.take k) ++ [[]])[m] ++ [x]) = groupsP (L.take (k + 1)) := by
          rw [hMm, HE2.out, List.set_append_right _ _ (by rw [← HM.out]; exact Nat.le_refl _), ← HM.out, Nat.sub_self]; rfl
        rw [hset] at G7
        have hml2 : (groupsP (L.take (k + 1))).length = m + 1 := by rw [HE2.out, List.length_append, ← HM.out]; rfl
        have HO7 := Lib.hid o7
        have HG7 := Lib.hid G7
        have HP7 := Lib.hid P7
        have HB7 := Lib.hid B7
        have HMM := Lib.hid hml2
        have hmi : (m : Int) < ((m + 1 : Nat) : Int) := by omega
        obtain ⟨m1, hm1⟩ : ∃ m1, m1 = m + 1 := ⟨_, rfl⟩
        rw [← hm1] at hmi HMM HO7 ⊢
        clear o5 g5 e5 G5 P5 B5 r85 hMl hMm hset hml2 o7 G7 P7 B7 HO4 HG4 HP4 HB4 R84 HE2 HM hm1
        go_wp2_with fail
        go_region
        all_goals (go_wp2_with fail; go_roundw)
        case rel => exact ⟨k + 1, (vs ++ [Value.slice none 0 0]).set m (.slice A' m' c'), by go_num, by omega, (by rw [HMM.out]; exact HO7), HG7, HP7, HB7.out⟩
        case measure => simp [intOf]; omega
    · have hlt' : ¬ (k : Int) < (n : Int) := by omega
      obtain rfl : k = n := by omega
      have hO := HO.out
      have hG := HG.out
      rw [HN.out, List.take_length] at hO hG
      have HO' := Lib.hid hO
      have HG' := Lib.hid hG
      clear HO HG HP hO hG HS
      go_wp2_with fail
      go_ret
      exact ⟨u6, rfl, vs, HO'.out, HG'.out, hB⟩
end Go.Proofs.Ytbeggckkgaoacaa
