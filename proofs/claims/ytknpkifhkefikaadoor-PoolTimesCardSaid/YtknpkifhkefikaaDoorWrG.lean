/-
  The landed writer: data.
-/
import Derived.Test.YtknpkifhkefikaaDoorWrF
namespace Go.Proofs.YtknpkifhkefikaaDoor
open Go.RowKit Go.Maps
set_option linter.unusedVariables false
set_option maxRecDepth 100000
attribute [local go_sem ↓] exec_appSv exec_appBw

/-- An append of bytes in a region that draws, stored over the writer's bytes: what the walk needs, what it leaves. -/
theorem app_step {g m N base : Nat} {v : Value} {X : Wt} {w : World} (h : WtM g m N v base X w) (hN : N ≤ X.b.length) (A : Option Addr) (c k : Nat) (y : Bs) (hk : k = y.length) (hy : Bys w A y) (hA : A = none → c = 0) (hl : X.b.length + y.length ≤ 2000000) :
    ∃ v' w', appB v (.slice A k c) 29 w.drew = .ok (.value v') w' ∧ (w'.cell? ⟨g, 0, none⟩ = some v ∧ w'.frozen? ⟨g, 0, none⟩ = false) ∧ (∃ gv c', v' = .slice (some ⟨gv, 0, none⟩) (X.b ++ y).length c') ∧ WrQ g m v base ⟨X.b ++ y, X.P⟩ w (w'.setCell ⟨g, 0, none⟩ v') N v' := by
  have h2d := h.drew
  obtain ⟨v3, w3, hr3, o3, g3, f3, n3⟩ := run_appRF 29 h2d.row h2d.nn A c k y hk (hy.on (Below.drew (Below.refl _ _))) hA (by omega) h2d.big
  obtain ⟨gv3, k3, hv3, -⟩ := OwnR.slice_form o3 n3
  refine ⟨v3, w3, appB_of hr3, h2d.cellG g3, ⟨gv3, k3, hv3⟩, ⟨WtM.store h2d g3 o3 f3 n3, by rw [List.length_append]; omega, ?_, ?_⟩⟩
  · exact Mod.store ((Mod.below (Below.drew (Below.refl _ _))).trans (Mod.grown (S := Foot3 g m v) g3 (fun k hk => .inr (.inr hk))) (fun i e => .inl e)) _ _ (.inl (.inl rfl))
  · rcases f3 with e | e
    · exact .inl e
    · refine .inr fun k hk => ?_
      rw [e] at hk
      injection hk with hk
      have : w.drew.heap.size = w.heap.size := rfl
      omega
/-- A byte of the writer's is another one now. -/
theorem WrQ.put {g m base N' gv n c : Nat} {v : Value} {X : Wt} {w w' : World} (h : WrQ g m v base X w w' N' (.slice (some ⟨gv, 0, none⟩) n c)) (j : Nat) (x : UInt8) : WrQ g m v base ⟨X.b.set j x, X.P⟩ w (w'.setCell ⟨gv, j, none⟩ (.int .u8 x.toNat)) N' (.slice (some ⟨gv, 0, none⟩) n c) := by
  have hn : n = X.b.length := by
    obtain ⟨_, _, e, _⟩ := h.at'.form
    injection e
  subst hn
  have g1 : g ≠ gv := fun e => h.at'.gv (by rw [e]; rfl)
  have m1 : m ≠ gv := fun e => h.at'.mv (by rw [e]; rfl)
  have hr := OwnR.set (n := X.b.length) (c := c) h.at'.row j x
  refine ⟨⟨row_other _ h.at'.head g1, ?_, h.at'.nn, ?_, fun q p hp => h.at'.ok q p hp, h.at'.bg, h.at'.bm⟩, by rw [List.length_set]; exact h.le, ?_, h.fr⟩
  · exact hr
  · obtain ⟨M, ⟨es, clock, hb, r⟩, h2⟩ := h.at'.map
    exact ⟨M, ⟨es, clock, row_other _ hb m1, r⟩, h2⟩
  · refine Mod.store h.mod _ _ ?_
    rcases h.fr with e | e
    · exact .inl (.inr (.inr (by rw [← e]; rfl)))
    · exact .inr (e gv rfl)
theorem WrQ.drew {g m base N' : Nat} {v v' : Value} {X : Wt} {w w' : World} (h : WrQ g m v base X w w' N' v') : WrQ g m v base X w w'.drew N' v' := ⟨h.at'.drew, h.le, h.mod.drew, h.fr⟩
set_option maxHeartbeats 2000000 in
set_option maxRecDepth 100000 in
theorem data_any (t : Int) (A : Option Addr) (d : Bs) (c : Nat) {g m N base : Nat} {v : Value} {X : Wt} (w : World) (h : WtM g m N v base X w) (hNX : N ≤ X.b.length) (hS : ∀ W, Below base w W → Sl W A c d) (hc : canD t d = true) (hl : X.b.length ≤ 800000) : Calls Tryd.prog 74 #[.pointer (some ⟨g, 0, none⟩), .int .i64 t, .slice A d.length c] w fun e w' => e = .returned (.tuple #[]) ∧ WrP g m v base (daW t d X) w w' := by
  obtain ⟨hnc, hnl, hd⟩ := namesD_can hc
  have hbase : ∀ (X' : Wt) (w' : World) (N' : Nat) (v' : Value), WrQ g m v base X' w w' N' v' → Below base w w' := fun _ _ _ _ q => q.big h.big (fun k hk => h.base_le hk)
  obtain ⟨kk, hnm⟩ := names_any t w
  have hnm0 : ∀ W, ∃ kk : Nat, Calls Tryd.prog 110 #[.int .i64 t] W fun e w' => e = .returned (.tuple #[.int .i64 (aheadW t), .int .i64 kk]) ∧ w' = W := fun W => names_any t W
  obtain ⟨q, hq⟩ : ∃ q, q = X.b.length := ⟨_, rfl⟩
  obtain ⟨n, hn⟩ : ∃ n, n = d.length := ⟨_, rfl⟩
  obtain ⟨a, ha⟩ : ∃ a, a = aheadW t := ⟨_, rfl⟩
  rw [← ha] at hnm0
  have NM := Lib.hid hnm0
  obtain ⟨L, hL⟩ : ∃ L, L = namesD t d := ⟨_, rfl⟩
  have hLl : L.length ≤ 2 := by
    rw [hL]; unfold namesD
    repeat' split
    all_goals first | exact Nat.zero_le _ | exact Nat.le_refl _ | exact Nat.le_succ _
  have HD : Hid (daW t d X = (let X2 := nmsW L ⟨X.b ++ [0, 0] ++ d.take a, X.P⟩; let b3 := X2.b ++ d.drop (a + sumL L); ⟨(b3.set q (UInt8.ofNat ((b3.length - (q + 2)) / 256))).set (q + 1) (UInt8.ofNat (b3.length - (q + 2))), X2.P⟩)) := Lib.hid (by rw [hL, ha, hq]; rfl)
  have H := Lib.hid h
  have HNX := Lib.hid hNX
  have HS := Lib.hid hS
  have DN := Lib.hid (fun W (k : Below base w W) => by have := dNamesT_any t A d c W (hS W k).bys (hS W k).le (hS W k).max; rw [← hL, ← hn] at this; exact this)
  rw [← hL, ← ha, ← hn] at hnl
  rw [← hL] at hnc
  rw [← hn] at hd
  have hX0 := h.cells
  obtain ⟨gv, c1, hv, -⟩ := h.form
  rw [← hq] at hv hl
  have HNC := Lib.hid hnc
  have HQ := Lib.hid hq
  have HN := Lib.hid hn
  have HA := Lib.hid ha
  have T1 := Lib.hid (two_any 0 w h hNX (by rw [← hq]; omega))
  have HBA := Lib.hid hbase
  subst hv
  obtain ⟨c0, -, -⟩ := hX0
  rw [← hn]
  clear h hNX hS hc hq hn ha hL hnc hbase hnm hnm0
  go_enter Tryd.func74, Tryd.ntmps74
  go_wp2_with fail
  refine T1.out.mono ?_
  rintro e w1 ⟨rfl, h1⟩
  obtain ⟨N1, v1, q1⟩ := h1.open
  obtain ⟨gv1, k1, hv1, -⟩ := q1.at'.form
  have hl1 : (twW 0 X).b.length = q + 2 := by rw [twW_len, ← HQ.out]
  rw [hl1] at hv1
  have d0 := q1.at'.cells.1
  have HQ1 := Lib.hid q1
  rw [hv1] at d0
  clear h1 q1 T1 c0
  go_wp2_with fail
  obtain ⟨kk, nm⟩ := NM.out w1
  refine nm.mono ?_
  rintro e w2 ⟨rfl, rfl⟩
  clear nm NM
  have hta : (d.take a).length = a := by rw [List.length_take, ← HN.out]; omega
  have sp := slice_pre A d c a (a : Int) (by rw [← HN.out]; omega) (HS.out _ (HBA.out _ _ _ _ HQ1.out)).le rfl
  rw [hta, ← HN.out] at sp
  obtain ⟨b1, hb1⟩ : ∃ b, b = d.take a := ⟨_, rfl⟩
  rw [← hb1] at hta
  have HSA := HS.out _ (HBA.out _ _ _ _ HQ1.out)
  obtain ⟨v3, w3, ap3, ⟨e0, e1⟩, ⟨gv3, k3, hv3⟩, q3⟩ := app_step HQ1.out.at' HQ1.out.le A c a b1 hta.symm (by rw [hb1]; exact HSA.bys.pre _) HSA.nil (by rw [hl1]; omega)
  rw [hv1] at ap3 e0
  obtain ⟨X2, hX2⟩ : ∃ X2, X2 = (⟨(twW 0 X).b ++ b1, (twW 0 X).P⟩ : Wt) := ⟨_, rfl⟩
  have hX2l : X2.b.length = q + 2 + a := by rw [hX2]; show ((twW 0 X).b ++ b1).length = _; rw [List.length_append, hl1, hta]
  rw [← hX2] at q3
  rw [show ((twW 0 X).b ++ b1).length = q + 2 + a by rw [List.length_append, hl1, hta]] at hv3
  have HX2 : Hid (X2 = ⟨X.b ++ [0, 0] ++ d.take a, X.P⟩) := Lib.hid (by rw [hX2, hb1]; rfl)
  have HQ3 := Lib.hid (HQ1.out.next q3)
  have HV3 := Lib.hid hv3
  rw [hv3] at ap3
  have D3 := Lib.hid (DN.out _ (HBA.out _ _ _ _ HQ3.out))
  rw [hv3] at D3
  clear hta hb1 HSA q3 hX2 hv1 hl1 hv3
  have HQ1' := HQ1
  go_wp2_with fail
  go_region
  all_goals go_wp2_with fail
  have hv3 := HV3.out
  subst hv3
  generalize w3.setCell ⟨g, 0, none⟩ (.slice (some ⟨gv3, 0, none⟩) (q + 2 + a) k3) = W4 at *
  refine D3.out.mono ?_
  rintro e w5 ⟨A2, c2, rfl, hst, hc2, hB5, hT5⟩
  have Q5 := WrQ.start HQ3.out.at' HQ3.out.le hB5
  have HOF := Lib.hid (Q5.at'.offT hT5)
  have HST := Lib.hid hst
  have HQ5s := Lib.hid (WrQ.start Q5.at' Q5.le (Below.refl _ _))
  have HQ5w := Lib.hid (HQ3.out.next Q5)
  have HNM := Lib.hid (fun i (hi : i ≤ L.length) => by
    have h1 := nmsW_len (L.take i) X2 (fun n hn => HNC.out n (List.mem_of_mem_take hn))
    have h2 := sumL_take_le L i
    exact (show X2.b.length ≤ (nmsW (L.take i) X2).b.length ∧ (nmsW (L.take i) X2).b.length ≤ X2.b.length + sumL L by omega))
  obtain ⟨ln, hln⟩ : ∃ n, n = L.length := ⟨_, rfl⟩
  have HLN := Lib.hid hln
  rw [← hln] at hLl hc2 ⊢
  have HSU := Lib.hid (sumL_take_le L)
  have hX2l := Lib.hid hX2l
  clear hst hB5 hT5 Q5 D3 DN HQ3 HQ1 HQ1' ap3 e0 e1 d0 sp hln HV3
  go_wp2_with fail
  go_loopw [8, 45] (fun v8 v45 wr => ∃ (i N' s : Nat) (u : Value), v45 = .int .i64 i ∧ i ≤ ln ∧ v8 = .int .i64 s ∧ Hid (s = a + sumL (L.take i)) ∧ Hid (WrQ g m (.slice (some ⟨gv3, 0, none⟩) (q + 2 + a) k3) base (nmsW (L.take i) X2) w5 wr N' u)) (fun _ v45 _ => ln - (intOf v45).toNat)
  case atStart => exact ⟨0, _, a, _, rfl, Nat.zero_le _, rfl, Lib.hid (by simp [sumL]), HQ5s⟩
  case round =>
    obtain ⟨i, N', s, u, rfl, hi, rfl, HSS, HQ6⟩ := hrel
    rename World => wr
    by_cases hlt : i < ln
    · have hiL : i < L.length := by rw [← HLN.out]; exact hlt
      have hlt' : (i : Int) < (ln : Int) := by omega
      obtain ⟨gA, off, hA2, hcs⟩ := (HST.out.mod HQ6.out.mod HOF.out) (by omega)
      have hci := hcs i hiL
      have hnx := nmsW_take hiL X2
      have hsx := sumL_take hiL
      have hcn := HNC.out _ (List.getElem_mem hiL)
      generalize L[i] = x at *
      have hsz : (bs x).size = x.length := bs_size x
      have hx255 := (can_out hcn).1
      have hb1 := HNM.out i (by omega)
      have hb2 := HSU.out (i + 1)
      have hb3 := HSU.out i
      obtain ⟨xl, hxl⟩ : ∃ k, k = x.length := ⟨_, rfl⟩
      have hs0 := HSS.out
      have wr1 : IntKind.i64.wrap ((s : Int) + (xl : Int)) = ((s + xl : Nat) : Int) := by rw [IntKind.wrap_i64]; omega
      have M := Lib.hid (nm_any x wr HQ6.out.at' HQ6.out.le hcn (by have := hX2l.out; omega))
      rw [← hxl] at hsz
      have HSX : Hid (s + xl = a + sumL (L.take (i + 1))) := Lib.hid (by rw [hsx, hs0, hxl]; omega)
      have HNX2 := Lib.hid hnx
      subst hA2
      clear hcs hnx hsx hcn hx255 hb1 hb2 hb3 hxl hs0 hiL
      go_wp2_with fail
      refine M.out.mono ?_
      rintro e w7 ⟨rfl, h7⟩
      obtain ⟨N7, v7, q7⟩ := h7.open
      have Q7 := HQ6.out.next q7
      rw [← HNX2.out] at Q7
      have HQ7 := Lib.hid Q7
      clear h7 q7 Q7 M
      go_wp2_with fail
      go_roundw
      case rel => exact ⟨i + 1, N7, s + xl, v7, by go_num, by omega, rfl, HSX, HQ7⟩
      case measure => simp [intOf]; omega
    · have hlt' : ¬ (i : Int) < (ln : Int) := by omega
      obtain rfl : i = ln := by omega
      have hs0 := HSS.out
      have HX6 : Hid (L.take i = L) := Lib.hid (by rw [HLN.out, List.take_length])
      rw [HX6.out] at hs0 HQ6
      obtain ⟨X6, hX6⟩ : ∃ X6, X6 = nmsW L X2 := ⟨_, rfl⟩
      have hb1 := HNM.out L.length (Nat.le_refl _)
      rw [List.take_length, ← hX6] at hb1
      rw [← hX6] at HQ6
      have HSA := HS.out _ (HBA.out _ _ _ _ (HQ5w.out.next HQ6.out))
      obtain ⟨A8, sl8, S8, -⟩ := HSA.rest s (s : Int) (by rw [← HN.out]; omega) rfl
      obtain ⟨y8, hy8⟩ : ∃ y, y = d.drop s := ⟨_, rfl⟩
      have hy8l : y8.length = n - s := by rw [hy8, List.length_drop, ← HN.out]
      rw [← hy8, ← HN.out] at sl8
      rw [← hy8] at S8
      obtain ⟨m8, hm8⟩ : ∃ m, m = y8.length := ⟨_, rfl⟩
      rw [← hm8] at sl8
      obtain ⟨gu, cu, hu, -⟩ := HQ6.out.at'.form
      have u0 := HQ6.out.at'.cells.1
      have hxl := hX2l.out
      obtain ⟨v8, w8, ap8, ⟨e80, e81⟩, ⟨gv8, k8, hv8⟩, q8⟩ := app_step HQ6.out.at' HQ6.out.le A8 (c - s) m8 y8 hm8 S8.bys S8.nil (by omega)
      obtain ⟨z, hz⟩ : ∃ z, z = (X6.b ++ y8).length := ⟨_, rfl⟩
      have hz2 := hz
      rw [List.length_append] at hz2
      rw [← hz] at hv8
      obtain ⟨lu, hlu⟩ : ∃ l, l = X6.b.length := ⟨_, rfl⟩
      rw [← hlu] at hu
      obtain ⟨sz, hsz⟩ : ∃ sz, sz = z - (q + 2) := ⟨_, rfl⟩
      have wsz : IntKind.i64.wrap ((z : Int) - ((q : Int) + 2)) = (sz : Int) := by rw [IntKind.wrap_i64]; omega
      obtain ⟨b0, hb0⟩ : ∃ b, b = UInt8.ofNat (sz / 256) := ⟨_, rfl⟩
      obtain ⟨b1', hb1'⟩ : ∃ b, b = UInt8.ofNat sz := ⟨_, rfl⟩
      have f0 : IntKind.u8.wrap ((sz : Int) / 256) = (b0.toNat : Int) := by rw [hb0]; exact u8_hi sz
      have f1 : IntKind.u8.wrap (sz : Int) = (b1'.toNat : Int) := by rw [hb1']; exact u8_lo sz
      have iq0 : (q : Int) < (z : Int) := by omega
      have iq1 : (q : Int) + 1 < (z : Int) := by omega
      have iw1 : IntKind.i64.wrap ((q : Int) + 1) = (q : Int) + 1 := by rw [IntKind.wrap_i64]; omega
      have HFX : Hid (daW t d X = ⟨((X6.b ++ y8).set q b0).set (q + 1) b1', X6.P⟩) := Lib.hid (by
        rw [HD.out, ← HX2.out, ← hX6, ← hs0, ← hy8, ← hz, hb0, hb1', hsz])
      have Q9 := (HQ5w.out.next HQ6.out).next q8
      subst hv8
      rw [hu] at ap8 e80 u0
      have Q10 := (Q9.put q b0).drew
      have Q11 := Q10.put (q + 1) b1'
      rw [← HFX.out] at Q11
      have HQ11 := Lib.hid Q11.shut
      have r9 : OwnR (w8.setCell ⟨g, 0, none⟩ (.slice (some ⟨gv8, 0, none⟩) z k8)) base (.slice (some ⟨gv8, 0, none⟩) z k8) (X6.b ++ y8) := Q9.at'.row
      have r10 : OwnR ((w8.setCell ⟨g, 0, none⟩ (.slice (some ⟨gv8, 0, none⟩) z k8)).setCell ⟨gv8, q, none⟩ (.int .u8 b0.toNat)).drew base (.slice (some ⟨gv8, 0, none⟩) z k8) ((X6.b ++ y8).set q b0) := Q10.at'.row
      obtain ⟨p0, p1⟩ := OwnR.cellAt r9 (j := q) (by rw [← hz]; omega)
      obtain ⟨p2, p3⟩ := OwnR.cellAt r10 (j := q + 1) (by rw [List.length_set, ← hz]; omega)
      have hg9 : (w8.setCell ⟨g, 0, none⟩ (.slice (some ⟨gv8, 0, none⟩) z k8)).cell? ⟨g, 0, none⟩ = some (.slice (some ⟨gv8, 0, none⟩) z k8) := Q9.at'.cells.1
      generalize ((X6.b ++ y8)[q]'(by rw [← hz]; omega)).toNat = z1 at p0
      generalize (((X6.b ++ y8).set q b0)[q + 1]'(by rw [List.length_set, ← hz]; omega)).toNat = z2 at p2
      clear HSA S8 hy8 hy8l hm8 hxl q8 hz hz2 hlu hsz hb0 hb1' Q9 Q10 Q11 r9 r10 hs0 hX6 hb1 HX6 HQ6 hu HFX HSS HQ5w HOF HST HNM HLN HSU HX2 HD
      generalize hW9 : w8.setCell ⟨g, 0, none⟩ (.slice (some ⟨gv8, 0, none⟩) z k8) = W9 at *
      have HW9 := Lib.hid hW9
      clear hW9
      go_wp2_with fail
      go_region
      all_goals
        rw [HW9.out]
        go_wp2_with fail
        go_region
        all_goals
          go_wp2_with fail
          go_end0
          exact ⟨rfl, HQ11.out⟩
end Go.Proofs.YtknpkifhkefikaaDoor
