/-
  The landed reader: data.
  The landed reader: a question, a record.
  The landed reader: records.
-/
import Derived.Test.YtknpkifhkefikaaDoorDc2
import Derived.Test.YtknpkifhkefikaaDoorWrF
import Derived.Test.YtknpkifhkefikaaDoorWd
import Derived.Test.YtknpkifhkefikaaDoorSp
import Derived.Deep.RegionHeld3
import Derived.Deep.CutBlock
import Derived.Deep.DeepCutAuto
import Derived.Test.YtknpkifhkefikaaDoorWi
namespace Go.Proofs.YtknpkifhkefikaaDoor
open Go.RowKit
set_option linter.unusedVariables false
set_option maxRecDepth 100000

section
variable {ops : Array Oper} {rest : List Oper} {o : Oper} {a : Act} {w : World} {Q : Exit → Act → World → Prop}
theorem wpList_appSD (hgd : o.guard = none) (x y : Operand) (ho : o.op = .call { callee := .builtin .append, args := #[x, y], argTypes := #[29, 9] }) (base : Nat) (v : Value) (l : Bs) (hs : a.eval x = v) (hown : OwnR w base v l)
    (s : Bs) (z : ByteArray) (hx : a.eval y = .string z) (hz : z = bs s) (hlen : l.length + s.length ≤ 140737488355328) (hbase : base ≤ w.heap.size)
    (h : ∀ v' w', OwnR w' base v' (l ++ s) → w.grownBy w' v.ownBlock → wpList Tryd.prog ops Q rest (a.put o.dst v') w') : wpList Tryd.prog ops Q (o :: rest) a w := by
  refine wpList_plain hgd fun K hK => ?_
  obtain ⟨v', w', hr, h1, h2⟩ := run_appS o.type hown s hlen hbase
  rw [hz] at hx
  unfold Oper.wp execOp
  simp only [ho, resolve, invoke, builtin, Sem.run_bind, Sem.run_pure, Result.andThen_ok, List.map_toArray, List.map_cons, List.map_nil, hs, hx, hr]
  exact hK _ _ (h v' w' h1 h2)
end
set_option maxHeartbeats 1000000 in
theorem namesK_any (t : Int) (w : World) : Calls Tryd.prog 110 #[.int .i64 t] w fun e w' => e = .returned (.tuple #[.int .i64 ((shapeP t).1 : Nat), .int .i64 ((shapeP t).2.1 : Nat)]) ∧ w' = w := by
  have h0 : ∀ (a b : Int), a = b → (a == b) = true := fun a b e => by rw [e]; simp
  have h1 : ∀ (a b : Int), a ≠ b → (a == b) = false := fun a b e => by rw [beq_eq_false_iff_ne]; exact e
  unfold shapeP
  by_cases e1 : t = 2 ∨ t = 5 ∨ t = 12
  · rw [if_pos e1]
    rcases e1 with rfl | rfl | rfl
    all_goals
      go_enter Tryd.func110, Tryd.ntmps110
      go_wp2_with fail
      go_ret2
      exact ⟨rfl, rfl⟩
  · rw [if_neg e1]
    by_cases e2 : t = 15
    · subst e2
      go_enter Tryd.func110, Tryd.ntmps110
      go_wp2_with fail
      go_ret2
      exact ⟨rfl, rfl⟩
    · rw [if_neg e2]
      by_cases e3 : t = 6
      · subst e3
        go_enter Tryd.func110, Tryd.ntmps110
        go_wp2_with fail
        go_ret2
        exact ⟨rfl, rfl⟩
      · rw [if_neg e3]
        have f2 := h1 t 2 (fun e => e1 (.inl e))
        have f5 := h1 t 5 (fun e => e1 (.inr (.inl e)))
        have f12 := h1 t 12 (fun e => e1 (.inr (.inr e)))
        have f15 := h1 t 15 e2
        have f6 := h1 t 6 e3
        clear e1 e2 e3 h0 h1
        go_enter Tryd.func110, Tryd.ntmps110
        go_wp2_with fail
        go_ret2
        exact ⟨rfl, rfl⟩
def VOwn (B : Nat) (x : Bs) (v : Value) (w : World) : Prop := OwnR w B v x
theorem daR_short {b : Bs} {t : Int} {p size : Nat} (h : takR 20 b p size = .no 20) : daR b t p size = .no 20 := by unfold daR; rw [h]; rfl
theorem daR_long {b : Bs} {t : Int} {p size : Nat} {x : Bs} {z : Nat} (h : takR 20 b p size = .ok x z) : daR b t p size = (takR 30 (b.take z) p (shapeP t).1).then fun a z1 => (nsR 30 (b.take z) (shapeP t).2.1 z1 a).then fun d z2 =>
    if canD t (d ++ (b.take z).drop z2) = true then .ok (d ++ (b.take z).drop z2) z else .no 30 := by unfold daR; rw [h]; rfl

theorem shapeP_bd (t : Int) : (shapeP t).1 ≤ 2 ∧ (shapeP t).2.1 ≤ 2 := by
  unfold shapeP
  split
  · simp
  · split
    · simp
    · split <;> simp
theorem RdM.modG {S : Nat → Prop} {w w1 : World} {rb : Nat} {A : Option Addr} {c : Nat} {b : Bs} {p sh : Nat} (h : RdM w rb A c b p sh) (k : Mod S w w1) (hn : ¬ S rb) (ho : Off S A) : RdM w1 rb A c b p sh := ⟨k.row h.row hn, h.sl.mod k ho, h.off, h.le, h.mx⟩
theorem OwnR.lowerD {w : World} {base base' : Nat} {v : Value} {l : Bs} (h : OwnR w base v l) (hb : base' ≤ base) : OwnR w base' v l := by
  obtain ⟨h1, h2⟩ := h
  refine ⟨h1, ?_⟩
  rcases h2 with h2 | ⟨g, cap, cur, hv, hg, r⟩
  · exact .inl h2
  · exact .inr ⟨g, cap, cur, hv, by omega, r⟩
/-- Within data. -/
structure DaS (w2 : World) (gd : Nat) (A : Option Addr) (c : Nat) (D : Bs) (R : Rd Bs) (F : Bs → Nat → Rd Bs) (cnt : Nat) (v : Value) (k q : Nat) (ac : Bs) (wr : World) : Prop where
  rd : RdM wr gd A c D q 30
  own : OwnR wr (gd + 1) v ac
  mod : Mod (fun k => k = gd) w2 wr
  len : ac.length ≤ 2 + 255 * k
  eq : R = (nsR 30 D (cnt - k) q ac).then F
theorem grown_appD {w2 wr w1 : World} {gd : Nat} {A : Option Addr} {c : Nat} {D : Bs} {p q sh : Nat} {v : Value} {acc : Bs} (h0 : RdM w2 gd A c D p sh) (hz : w2.heap.size = gd + 1) (hr : RdM wr gd A c D q sh) (hm : Mod (fun k => k = gd) w2 wr) (ho : OwnR wr (gd + 1) v acc) (hg : wr.grownBy w1 v.ownBlock) : RdM w1 gd A c D q sh ∧ Mod (fun k => k = gd) w2 w1 := by
  have hm1 : Mod (fun k => k = gd) w2 w1 := hm.trans (Mod.grown (S := fun i => v.ownBlock = some i) hg (fun i hi => hi)) (fun i hi => .inr (by have := (ho.ownB.lt i hi).1; omega))
  exact ⟨h0.far hr hm1 (hg.block gd hr.lt (fun e => by have := (ho.ownB.lt gd e.symm).1; omega)), hm1⟩
set_option maxHeartbeats 4000000 in
set_option maxRecDepth 100000 in
theorem dataD_any (w : World) (rb : Nat) (A : Option Addr) (c : Nat) (b : Bs) (p : Nat) (t : Int) (size : Nat) (h : RdM w rb A c b p 20) (hk : size ≤ 65535) (hb : 0 < b.length) :
    Calls Tryd.prog 146 #[.pointer (some ⟨rb, 0, none⟩), .int .i64 t, .int .i64 size] w (RdP w rb A c b 20 (VOwn w.heap.size) (daR b t p size)) := by
  have H := Lib.hid h
  have T := Lib.hid (take_any w rb A c b p 20 size h hk)
  have c1 := h.cells.2.1
  clear h
  rcases takR_cases 20 b p size with ht | ⟨ht, hle, hlx⟩
  · rw [daR_short ht]
    rw [ht] at T
    clear ht
    go_enter Tryd.func146, Tryd.ntmps146
    go_wp2_with fail
    refine T.out.mono ?_
    rintro e w1 ⟨rfl, hm⟩
    exact ⟨rfl, rfl, hm⟩
  · rw [daR_long ht]
    rw [ht] at T
    obtain ⟨R, hR⟩ : ∃ R, R = (takR 30 (b.take (p + size)) p (shapeP t).1).then fun a z1 => (nsR 30 (b.take (p + size)) (shapeP t).2.1 z1 a).then fun d z2 => if canD t (d ++ (b.take (p + size)).drop z2) = true then Rd.ok (d ++ (b.take (p + size)).drop z2) (p + size) else .no 30 := ⟨_, rfl⟩
    rw [← hR]
    have HR := Lib.hid hR
    have HLE := Lib.hid hle
    clear ht hR hlx hle
    go_enter Tryd.func146, Tryd.ntmps146
    go_wp2_with fail
    refine T.out.mono ?_
    rintro e w1 ⟨v1, rfl, -, hr1, hm1⟩
    obtain ⟨s1, hs1⟩ := hr1.sl.headB (p + size) ((p + size : Nat) : Int) HLE.out rfl
    obtain ⟨d0, d1, d2, d3⟩ := hr1.cells
    have HR1 := Lib.hid hr1
    have HM1 := Lib.hid hm1
    have HS1 := Lib.hid hs1
    obtain ⟨z, hz⟩ : ∃ z, z = p + size := ⟨_, rfl⟩
    rw [← hz] at d1 s1 HLE HR HS1 HR1
    have HZ := Lib.hid hz
    clear hr1 hm1 hs1 c1 T hz
    have da := fun (o : Obj) => (HR1.out.below (Below.alloc (Below.refl w1.heap.size w1) (Nat.le_refl _) o)).cells
    have da0 := fun o => (da o).1
    have da1 := fun o => (da o).2.1
    clear da
    go_upto_region 3 with fail
    go_region
    obtain ⟨D, hD⟩ : ∃ D, D = b.take z := ⟨_, rfl⟩
    obtain ⟨gd, hgd⟩ : ∃ g, g = w1.heap.size := ⟨_, rfl⟩
    have hDl : D.length = z := by rw [hD, List.length_take]; have := HLE.out; omega
    rw [← hD] at HS1 HR
    obtain ⟨W2, hW2⟩ : ∃ W, W = (w1.alloc (.cells #[.slice A z c, .int .i64 p, .int .i64 30] 92)).drew := ⟨_, rfl⟩
    have hz2 : W2.heap.size = gd + 1 := by rw [hW2, hgd]; exact Array.size_push _
    have b2 : Below w1.heap.size w1 W2 := by rw [hW2]; exact Below.drew (Below.alloc (Below.refl _ _) (Nat.le_refl _) _)
    have row2 : W2.heap[gd]? = some (.cells #[.slice A z c, .int .i64 p, .int .i64 30] 92 (0, 0)) := by rw [hW2, hgd]; exact row_drew (row_new _ rfl)
    have hoff : Off (fun k => k = gd) A := fun q hq e => by
      have := HR1.out.sl.inside q hq (by simpa using hb)
      omega
    have HRD : Hid (RdM W2 gd A c D p 30) := Lib.hid ⟨by rw [hDl]; exact row2, HS1.out.on b2, hoff, by rw [hDl, HZ.out]; omega, by rw [hDl]; have := HR1.out.mx; have := HLE.out; omega⟩
    have HRB : Hid (RdM W2 rb A c b z 20) := Lib.hid (HR1.out.below b2)
    have HMB : Hid (Mod (fun k => k = rb) w W2) := Lib.hid (HM1.out.then b2)
    have HOFF := Lib.hid hoff
    have HNE : Hid (rb ≠ gd) := Lib.hid (by have := HR1.out.lt; omega)
    have HGB : Hid (w.heap.size ≤ gd) := Lib.hid (by rw [hgd]; exact HM1.out.size)
    have HDL := Lib.hid hDl
    have HZ2 := Lib.hid hz2
    -- behind the new reader all is said from W2 on
    have OUT := Lib.hid (fun W (hm : Mod (fun k => k = gd) W2 W) => (⟨HRB.out.modG hm HNE.out HOFF.out, HMB.out.trans hm (fun i hi => .inr (by rw [hi]; exact HGB.out))⟩ : RdM W rb A c b z 20 ∧ Mod (fun k => k = rb) w W))
    have NK := Lib.hid (fun W => namesK_any t W)
    have TK := Lib.hid (take_any W2 gd A c D p 30 (shapeP t).1 HRD.out (by have := (shapeP_bd t).1; omega))
    have ND := Lib.hid (fun W q (h : RdM W gd A c D q 30) => nameD_any W gd A c D q 30 h)
    have GU := Lib.hid (fun W => (show Calls Tryd.prog 91 #[.int .i64 30] W (fun e w' => e = gaveUp 30 ∧ w' = W) from giveUp_any 30 W))
    have CD := Lib.hid (fun A l c W (hS : Bys W A l) (hc : l.length ≤ c) (hcm : c ≤ 9223372036854775807) => dCan_any t A l c W hS hc hcm)
    have hbd := shapeP_bd t
    have HSH : Hid (shapeP t = ((shapeP t).1, (shapeP t).2.1, (shapeP t).2.2)) := Lib.hid rfl
    obtain ⟨ah, hah⟩ : ∃ x, x = (shapeP t).1 := ⟨_, rfl⟩
    obtain ⟨cnt, hcnt⟩ : ∃ x, x = (shapeP t).2.1 := ⟨_, rfl⟩
    rw [← hah] at NK TK HR hbd
    rw [← hcnt] at NK HR hbd
    obtain ⟨F, hF⟩ : ∃ F : Bs → Nat → Rd Bs, F = fun d z2 => if canD t (d ++ D.drop z2) = true then Rd.ok (d ++ D.drop z2) z else .no 30 := ⟨_, rfl⟩
    rw [← hF] at HR
    have HF := Lib.hid hF
    have HCB := Lib.hid hbd.2
    have hab := hbd.1
    rw [← hW2, ← hgd]
    clear hD hDl hgd hW2 hz2 b2 row2 hoff HR1 HM1 HS1 da0 da1 d0 d1 d2 d3 s1 H HSH hah hcnt hF hbd HRB HMB HOFF HNE
    go_wp2_with fail
    refine (NK.out _).mono ?_
    rintro e w3 ⟨rfl, h3⟩
    rw [h3]
    clear h3
    rcases takR_cases 30 D p ah with ht | ⟨ht, hle, hlx⟩
    · have HN : Hid (R = .no 30) := Lib.hid (by rw [HR.out, ht]; rfl)
      rw [ht] at TK
      clear ht NK CD
      go_wp2_with fail
      refine TK.out.mono ?_
      rintro e w4 ⟨rfl, hm4⟩
      rw [HN.out]
      exact ⟨rfl, rfl, (OUT.out _ hm4).2⟩
    · rw [ht] at TK
      have HRR : Hid (R = (nsR 30 D cnt (p + ah) ((D.drop p).take ah)).then F) := Lib.hid (by rw [HR.out, ht]; rfl)
      generalize (D.drop p).take ah = x1 at *
      clear ht NK HR
      go_wp2_with fail
      refine TK.out.mono ?_
      rintro e w4 ⟨v4, rfl, ⟨A4, c4, rfl, hsl4⟩, hr4, hm4⟩
      have CL := Lib.hid (CloneR_any A4 x1 ah c4 w4 hsl4.bys hlx.symm (by omega) (fun q h1 h2 => hsl4.inside q h1 (by omega)))
      have HLX := Lib.hid hlx
      rw [hlx]
      have HR4 := Lib.hid hr4
      have HM4 := Lib.hid hm4
      clear hsl4 hr4 hm4 TK hlx
      go_wp2_with fail
      refine CL.out.mono ?_
      rintro e w5 ⟨v5, rfl, ho5, -, b5⟩
      have HST : Hid (DaS W2 gd A c D R F cnt v5 0 (p + ah) x1 w5) := Lib.hid ⟨HR4.out.below b5, ho5.lowerD (by have := HM4.out.size; have := HZ2.out; omega), HM4.out.then b5, by have := HLX.out; omega, HRR.out⟩
      clear ho5 b5 CL HR4 HM4 HRR
      go_wp2_with fail
      go_loopw [11, 39] (fun v11 v39 wr => ∃ (k q : Nat) (ac : Bs), v39 = .int .i64 k ∧ k ≤ cnt ∧ Hid (DaS W2 gd A c D R F cnt v11 k q ac wr)) (fun _ v39 _ => cnt - (intOf v39).toNat)
      case atStart => exact ⟨0, p + ah, x1, rfl, by omega, HST⟩
      case round =>
        obtain ⟨k, q, ac, rfl, hk, HS⟩ := hrel
        rename World => wo
        have hk2 := HCB.out
        clear HST
        by_cases hlt : k < cnt
        · have hlt' : (k : Int) < (cnt : Int) := by omega
          have N1 := ND.out wo q HS.out.rd
          have he := HS.out.eq
          rw [show cnt - k = cnt - (k + 1) + 1 by omega] at he
          unfold nsR at he
          have hql := HS.out.rd.le
          cases hn : nmR 30 D q q 0 [] with
          | no e0 =>
            rw [hn] at N1 he
            have N1 := Lib.hid N1
            have HN : Hid (R = .no e0) := Lib.hid he
            clear he hn hql
            go_wp2_with fail
            refine N1.out.mono ?_
            rintro e w6 ⟨rfl, hm6⟩
            have HPN : RdP w rb A c b 20 (VOwn w.heap.size) R (gaveUp e0) w6 := by rw [HN.out]; exact ⟨rfl, (OUT.out _ (HS.out.mod.trans hm6 (fun i hi => .inl hi))).2⟩
            exact ⟨rfl, HPN⟩
          | ok nn z1 =>
            have hnl := (nmR_le 30 D q q 0 [] (by omega) hn).2 (by simp)
            rw [hn] at N1 he
            rw [Rd.then_ok] at he
            have N1 := Lib.hid N1
            have HE := Lib.hid he
            clear he hn hql
            go_wp2_with fail
            refine N1.out.mono ?_
            rintro e w6 ⟨v6, rfl, rfl, hr6, hm6⟩
            have HO6 := Lib.hid (HS.out.own.modB hm6 (Nat.lt_succ_self gd))
            have HM6 := Lib.hid (HS.out.mod.trans hm6 (fun i hi => .inl hi))
            have HR6 := Lib.hid hr6
            have hac := HS.out.len
            have HB6 : Hid (gd + 1 ≤ w6.heap.size) := Lib.hid (by have := HM6.out.size; have := HZ2.out; omega)
            clear hr6 hm6 N1
            go_wp2_with (first
              | (at_builtin; refine wpList_appSD rfl (.tmp 41) (.tmp 42) rfl (gd + 1) _ ac rfl HO6.out nn (bs nn) rfl rfl (by have := HCB.out; omega) HB6.out ?_)
              | fail)
            intro v7 w7 ho7 hg7
            obtain ⟨hr7, hm7⟩ := grown_appD HRD.out HZ2.out HR6.out HM6.out HO6.out hg7
            obtain ⟨ac2, hac2⟩ : ∃ z, z = ac ++ nn := ⟨_, rfl⟩
            rw [← hac2] at ho7 HE
            have HNEW : Hid (DaS W2 gd A c D R F cnt v7 (k + 1) z1 ac2 w7) := Lib.hid ⟨hr7, ho7, hm7, by rw [hac2, List.length_append]; omega, HE.out⟩
            clear hr7 hm7 ho7 hg7 hac2 HE HO6 HM6 HR6
            go_wp2_with fail
            go_roundw
            case rel => exact ⟨k + 1, z1, ac2, by go_num, by omega, HNEW⟩
            case measure => simp [intOf]; omega
        · have hlt' : ¬ (k : Int) < (cnt : Int) := by omega
          have he := HS.out.eq
          rw [show cnt - k = 0 by omega] at he
          unfold nsR at he
          rw [Rd.then_ok, HF.out] at he
          replace he : R = (if canD t (ac ++ D.drop q) = true then Rd.ok (ac ++ D.drop q) z else .no 30) := he
          have hql := HS.out.rd.le
          obtain ⟨d0, d1, d2, d3⟩ := HS.out.rd.cells
          obtain ⟨A8, s8, hs8, -⟩ := HS.out.rd.sl.rest q (q : Int) hql rfl
          have hlen := HS.out.len
          have HHE := Lib.hid he
          have HS8 := Lib.hid hs8
          have HB8 : Hid (gd + 1 ≤ wo.heap.size) := Lib.hid (by have := HS.out.mod.size; have := HZ2.out; omega)
          have hdl : D.length ≤ 65535 := HS.out.rd.mx
          obtain ⟨rest, hrest⟩ : ∃ r, r = D.drop q := ⟨_, rfl⟩
          have hrl : rest.length ≤ 65535 := by rw [hrest, List.length_drop]; omega
          rw [← hrest] at HHE HS8 s8
          obtain ⟨rn, hrn⟩ : ∃ n, n = rest.length := ⟨_, rfl⟩
          rw [← hrn] at s8 hrl
          have HRN := Lib.hid hrn
          clear he hs8 hrest hrn hlt'
          go_wp2_with (first
            | (at_builtin; refine wpList_appR rfl (.tmp 45) (.tmp 50) rfl (gd + 1) _ ac rfl HS.out.own A8 rn (c - q) rfl rest HRN.out HS8.out.bys HS8.out.nil (by have := HRN.out; omega) HB8.out ?_)
            | fail)
          intro v9 w9 ho9 hg9
          obtain ⟨hr9, hm9⟩ := grown_appD HRD.out HZ2.out HS.out.rd HS.out.mod HS.out.own hg9
          obtain ⟨dd, hdd⟩ : ∃ z, z = ac ++ rest := ⟨_, rfl⟩
          rw [← hdd] at ho9 HHE
          obtain ⟨A9, c9, rfl, hsl9⟩ := ho9.ownB.bysN
          have CD9 := Lib.hid (CD.out A9 dd c9 w9 hsl9.bys hsl9.le hsl9.max)
          obtain ⟨nd, hnd⟩ : ∃ n, n = dd.length := ⟨_, rfl⟩
          rw [← hnd] at ho9 CD9
          rw [← hnd]
          have HO9 := Lib.hid ho9
          have HM9 := Lib.hid hm9
          have HND := Lib.hid hnd
          clear hr9 hm9 ho9 hg9 hsl9 hdd hnd d0 d1 d2 d3 s8
          go_wp2_with fail
          refine CD9.out.mono ?_
          rintro e w10 ⟨rfl, b10⟩
          have HM10 := Lib.hid (HM9.out.then b10)
          have HO10 := Lib.hid (HO9.out.below b10)
          clear b10 CD9
          cases hcd : canD t dd with
          | true =>
            have HN : Hid (R = .ok dd z) := Lib.hid (by rw [HHE.out, if_pos hcd])
            clear hcd
            go_wp2_with fail
            go_ret
            rw [HN.out]
            exact ⟨_, rfl, HO10.out.lowerD (by have := HGB.out; omega), (OUT.out _ HM10.out).1, (OUT.out _ HM10.out).2⟩
          | false =>
            have HN : Hid (R = .no 30) := Lib.hid (by rw [HHE.out, if_neg (by simp [hcd])])
            clear hcd
            go_wp2_with fail
            refine (GU.out _).mono ?_
            rintro e w11 ⟨rfl, rfl⟩
            rw [HN.out]
            exact ⟨rfl, rfl, (OUT.out _ HM10.out).2⟩
end Go.Proofs.YtknpkifhkefikaaDoor
namespace Go.Proofs.YtknpkifhkefikaaDoor
open Go.RowKit
set_option linter.unusedVariables false
set_option maxRecDepth 100000

theorem mod_setRow (w : World) (g : Nat) (cs : Array Value) : Mod (fun k => k = g) w (w.setRow g cs) :=
  ⟨rfl, rfl, rfl, by rw [size_setRow]; exact Nat.le_refl _, fun k hk hn => setRow_other _ _ _ _ hn⟩
def VQu (q : Qu) (v : Value) (_ : World) : Prop := v = .agg (quC q)
def VRr (B : Nat) (r : Rr) (v : Value) (w : World) : Prop := ∃ A5 c5, v = .agg (rrC r A5 c5) ∧ OwnR w B (.slice A5 r.d.length c5) r.d
/-- A step of the reader's that comes back. -/
structure StS (w : World) (rb : Nat) (A : Option Addr) (c : Nat) (b : Bs) (z : Nat) (Z : Array Value) (T : TypeId) (wr : World) : Prop where
  rd : RdM wr rb A c b z 20
  mod : Mod (fun k => k = rb) w wr
  box : wr.heap[w.heap.size]? = some (.cells Z T (0, 0))
  lt : rb < w.heap.size
theorem StS.start {w : World} {rb : Nat} {A : Option Addr} {c : Nat} {b : Bs} {p : Nat} (h : RdM w rb A c b p 20) (Z : Array Value) (T : TypeId) : StS w rb A c b p Z T (w.alloc (.cells Z T)) :=
  ⟨h.below (Below.alloc (Below.refl _ _) (Nat.le_refl _) _), Mod.below (Below.alloc (Below.refl _ _) (Nat.le_refl _) _), row_new _ rfl, h.lt⟩
theorem StS.next {w : World} {rb : Nat} {A : Option Addr} {c : Nat} {b : Bs} {z z' : Nat} {Z : Array Value} {T : TypeId} {wr w1 : World} (h : StS w rb A c b z Z T wr) (hr : RdM w1 rb A c b z' 20) (hm : Mod (fun k => k = rb) wr w1) : StS w rb A c b z' Z T w1 :=
  ⟨hr, h.mod.trans hm (fun i hi => .inl hi), hm.row h.box (by have := h.lt; omega), h.lt⟩
theorem StS.fail {w : World} {rb : Nat} {A : Option Addr} {c : Nat} {b : Bs} {z : Nat} {Z : Array Value} {T : TypeId} {wr w1 : World} {α : Type} {V : α → Value → World → Prop} {R : Rd α} {k : Nat} (h : StS w rb A c b z Z T wr) (hR : R = .no k) (hm : Mod (fun k => k = rb) wr w1) : RdP w rb A c b 20 V R (gaveUp k) w1 := by
  subst hR
  exact ⟨rfl, h.mod.trans hm (fun i hi => .inl hi)⟩
theorem quR_no1 {b : Bs} {p e : Nat} (h : nmR 20 b p p 0 [] = .no e) : quR b p = .no e := by unfold quR; rw [h]; rfl
theorem quR_no2 {b : Bs} {p e z1 : Nat} {n : Bs} (h : nmR 20 b p p 0 [] = .ok n z1) (h2 : numR 20 b z1 2 = .no e) : quR b p = .no e := by unfold quR; rw [h, Rd.then_ok, h2]; rfl
theorem quR_no3 {b : Bs} {p e z1 z2 t : Nat} {n : Bs} (h : nmR 20 b p p 0 [] = .ok n z1) (h2 : numR 20 b z1 2 = .ok t z2) (h3 : numR 20 b z2 2 = .no e) : quR b p = .no e := by unfold quR; rw [h, Rd.then_ok, h2, Rd.then_ok, h3]; rfl
theorem quR_ok {b : Bs} {p z1 z2 z3 t c : Nat} {n : Bs} (h : nmR 20 b p p 0 [] = .ok n z1) (h2 : numR 20 b z1 2 = .ok t z2) (h3 : numR 20 b z2 2 = .ok c z3) : quR b p = .ok ⟨n, t, c⟩ z3 := by unfold quR; rw [h, Rd.then_ok, h2, Rd.then_ok, h3]; rfl
theorem res_qu {tmps : Array Value} {W : World} {g : Nat} {cs : Array Value} (h2 : tmps.getD 2 undef = .pointer (some ⟨g, 0, none⟩)) (r2 : W.heap[g]? = some (.cells cs 44 (0, 0))) (hs : cs.size = 3) :
    (results Tryd.f89 tmps).run Tryd.prog W = .ok (.agg cs) W := by
  have q0 : (loadVar 44 ⟨g, 0, none⟩).run Tryd.prog W = .ok (.agg cs) W := run_loadVar_row W g 44 44 cs (0, 0) _ r2 Tryd.underlying44 rfl (by rw [hs]; exact info_qu)
  have h2' : tmps[2]?.getD undef = .pointer (some ⟨g, 0, none⟩) := by simpa using h2
  simp [results, Tryd.results89, asAddr, h2', q0]
theorem res_rr {tmps : Array Value} {W : World} {g : Nat} {cs : Array Value} (h2 : tmps.getD 2 undef = .pointer (some ⟨g, 0, none⟩)) (r2 : W.heap[g]? = some (.cells cs 72 (0, 0))) (hs : cs.size = 5) :
    (results Tryd.f119 tmps).run Tryd.prog W = .ok (.agg cs) W := by
  have q0 : (loadVar 72 ⟨g, 0, none⟩).run Tryd.prog W = .ok (.agg cs) W := run_loadVar_row W g 72 72 cs (0, 0) _ r2 Tryd.underlying72 rfl (by rw [hs]; exact info_rr)
  have h2' : tmps[2]?.getD undef = .pointer (some ⟨g, 0, none⟩) := by simpa using h2
  simp [results, Tryd.results119, asAddr, h2', q0]

set_option maxHeartbeats 2000000 in
set_option maxRecDepth 100000 in
theorem questionD_any (w : World) (rb : Nat) (A : Option Addr) (c : Nat) (b : Bs) (p : Nat) (h : RdM w rb A c b p 20) (hb : 0 < b.length) :
    Calls Tryd.prog 89 #[.pointer (some ⟨rb, 0, none⟩)] w (RdP w rb A c b 20 VQu (quR b p)) := by
  have HS0 := Lib.hid (StS.start h #[.string ⟨#[]⟩, .int .i64 0, .int .i64 0] 44)
  have ND := Lib.hid (fun wr q (h : RdM wr rb A c b q 20) => nameD_any wr rb A c b q 20 h)
  have NU := Lib.hid (fun wr q (h : RdM wr rb A c b q 20) => (show Calls Tryd.prog 118 #[.pointer (some ⟨rb, 0, none⟩), .int .i64 2] wr (RdP wr rb A c b 20 VInt (numR 20 b q 2)) from numD_any wr rb A c b q 20 2 h (by omega)))
  obtain ⟨R, hR⟩ : ∃ R, R = quR b p := ⟨_, rfl⟩
  rw [← hR]
  have HR := Lib.hid hR
  obtain ⟨g, hg⟩ : ∃ g, g = w.heap.size := ⟨_, rfl⟩
  obtain ⟨W0, hW0⟩ : ∃ W0, W0 = w.alloc (.cells #[.string ⟨#[]⟩, .int .i64 0, .int .i64 0] 44) := ⟨_, rfl⟩
  rw [← hW0] at HS0
  have HW0 := Lib.hid hW0
  have HG := Lib.hid hg
  have HA : Hid (∀ q, A = some q → q.block < w.heap.size) := Lib.hid (fun q hq => h.sl.inside q hq hb)
  have HB := Lib.hid hb
  clear h hR hW0 hg hb
  go_enter Tryd.func89, Tryd.ntmps89
  go_wp2_with (first | rw [← HW0.out, ← HG.out] | fail)
  have N1 := ND.out W0 p HS0.out.rd
  cases hn1 : nmR 20 b p p 0 [] with
  | no e1 =>
    rw [hn1] at N1
    have N1 := Lib.hid N1
    have HN := Lib.hid (HR.out.trans (quR_no1 hn1))
    clear hn1
    refine N1.out.mono ?_
    rintro e w1 ⟨rfl, hm1⟩
    exact ⟨rfl, HS0.out.fail HN.out hm1⟩
  | ok n z1 =>
    rw [hn1] at N1
    have N1 := Lib.hid N1
    have HN1 := Lib.hid hn1
    clear hn1
    refine N1.out.mono ?_
    rintro e w1 ⟨v1, rfl, rfl, hr1, hm1⟩
    have HS1 := Lib.hid (HS0.out.next hr1 hm1)
    clear hr1 hm1 N1 HS0
    have N2 := NU.out w1 z1 HS1.out.rd
    cases hn2 : numR 20 b z1 2 with
    | no e2 =>
      rw [hn2] at N2
      have N2 := Lib.hid N2
      have HN := Lib.hid (HR.out.trans (quR_no2 HN1.out hn2))
      clear hn2
      go_wp2_with fail
      refine N2.out.mono ?_
      rintro e w2 ⟨rfl, hm2⟩
      exact ⟨rfl, HS1.out.fail HN.out hm2⟩
    | ok t z2 =>
      rw [hn2] at N2
      have N2 := Lib.hid N2
      have HN2 := Lib.hid hn2
      clear hn2
      go_wp2_with fail
      refine N2.out.mono ?_
      rintro e w2 ⟨v2, rfl, rfl, hr2, hm2⟩
      have HS2 := Lib.hid (HS1.out.next hr2 hm2)
      clear hr2 hm2 N2 HS1
      have N3 := NU.out w2 z2 HS2.out.rd
      cases hn3 : numR 20 b z2 2 with
      | no e3 =>
        rw [hn3] at N3
        have N3 := Lib.hid N3
        have HN := Lib.hid (HR.out.trans (quR_no3 HN1.out HN2.out hn3))
        clear hn3
        go_wp2_with fail
        refine N3.out.mono ?_
        rintro e w3 ⟨rfl, hm3⟩
        exact ⟨rfl, HS2.out.fail HN.out hm3⟩
      | ok cl z3 =>
        rw [hn3] at N3
        have N3 := Lib.hid N3
        have HN3 := Lib.hid hn3
        clear hn3
        go_wp2_with fail
        refine N3.out.mono ?_
        rintro e w3 ⟨v3, rfl, rfl, hr3, hm3⟩
        have HS3 := Lib.hid (HS2.out.next hr3 hm3)
        clear hr3 hm3 N3 HS2
        have HRW := Lib.hid HS3.out.box
        rw [← HG.out] at HRW
        have rZ := HRW.out
        obtain ⟨cs, hcs⟩ : ∃ cs : Array Value, cs = #[.string (bs n), .int .i64 (t : Nat), .int .i64 (cl : Nat)] := ⟨_, rfl⟩
        have i1 : Hid ((Tryd.prog.info? 44).map (·.size) = some cs.size) := Lib.hid (by rw [hcs]; exact info_qu)
        have one1 : Hid (cs.all (·.oneCell') = true) := Lib.hid (by rw [hcs]; simp [Value.oneCell'])
        have HCS := Lib.hid hcs
        have HN := Lib.hid (HR.out.trans (quR_ok HN1.out HN2.out HN3.out))
        have z1' : Hid ((#[.string ⟨#[]⟩, .int .i64 0, .int .i64 0] : Array Value).size = cs.size) := Lib.hid (by rw [hcs]; rfl)
        have HRB := Lib.hid (HS3.out.rd.modG (mod_setRow w3 g cs) (by have := HS3.out.lt; rw [HG.out]; omega) (fun q hq e => by
          have h1 := HA.out q hq
          rw [HG.out] at e
          omega))
        have HMB := Lib.hid (HS3.out.mod.trans (mod_setRow w3 g cs) (fun i hi => .inr (by rw [hi, HG.out]; exact Nat.le_refl _)))
        have HRX := Lib.hid (setRow_heap _ _ _ cs _ _ rZ)
        clear hcs HN1 HN2 HN3
        go_wp2_with (first
          | (refine wpList_store_row rfl 44 (.tmp 2) (.tmp 15) rfl g cs rfl (by rw [HCS.out]; rfl) 44 _ rZ i1.out (by first | exact z1'.out | exact z1'.out.symm) one1.out ?_)
          | fail)
        refine bodyPost_ret (v := .agg cs) (res_qu (g := g) rfl HRX.out (by rw [HCS.out]; rfl)) rfl ?_
        rw [HN.out]
        exact ⟨_, rfl, by rw [HCS.out]; rfl, HRB.out, HMB.out⟩
theorem reR_no1 {b : Bs} {p e : Nat} (h : nmR 20 b p p 0 [] = .no e) : reR b p = .no e := by unfold reR; rw [h]; rfl
theorem reR_no2 {b : Bs} {p e z1 : Nat} {n : Bs} (h : nmR 20 b p p 0 [] = .ok n z1) (h2 : numR 20 b z1 2 = .no e) : reR b p = .no e := by unfold reR; rw [h, Rd.then_ok, h2]; rfl
theorem reR_no3 {b : Bs} {p e z1 z2 t : Nat} {n : Bs} (h : nmR 20 b p p 0 [] = .ok n z1) (h2 : numR 20 b z1 2 = .ok t z2) (h3 : numR 20 b z2 2 = .no e) : reR b p = .no e := by unfold reR; rw [h, Rd.then_ok, h2, Rd.then_ok, h3]; rfl
theorem reR_no4 {b : Bs} {p e z1 z2 z3 t c : Nat} {n : Bs} (h : nmR 20 b p p 0 [] = .ok n z1) (h2 : numR 20 b z1 2 = .ok t z2) (h3 : numR 20 b z2 2 = .ok c z3) (h4 : numR 20 b z3 4 = .no e) : reR b p = .no e := by unfold reR; rw [h, Rd.then_ok, h2, Rd.then_ok, h3, Rd.then_ok, h4]; rfl
theorem reR_no5 {b : Bs} {p e z1 z2 z3 z4 t c l : Nat} {n : Bs} (h : nmR 20 b p p 0 [] = .ok n z1) (h2 : numR 20 b z1 2 = .ok t z2) (h3 : numR 20 b z2 2 = .ok c z3) (h4 : numR 20 b z3 4 = .ok l z4) (h5 : numR 20 b z4 2 = .no e) : reR b p = .no e := by unfold reR; rw [h, Rd.then_ok, h2, Rd.then_ok, h3, Rd.then_ok, h4, Rd.then_ok, h5]; rfl
theorem reR_no6 {b : Bs} {p e z1 z2 z3 z4 z5 t c l s : Nat} {n : Bs} (h : nmR 20 b p p 0 [] = .ok n z1) (h2 : numR 20 b z1 2 = .ok t z2) (h3 : numR 20 b z2 2 = .ok c z3) (h4 : numR 20 b z3 4 = .ok l z4) (h5 : numR 20 b z4 2 = .ok s z5) (h6 : daR b t z5 s = .no e) : reR b p = .no e := by unfold reR; rw [h, Rd.then_ok, h2, Rd.then_ok, h3, Rd.then_ok, h4, Rd.then_ok, h5, Rd.then_ok, h6]; rfl
theorem reR_ok {b : Bs} {p z1 z2 z3 z4 z5 z6 t c l s : Nat} {n d : Bs} (h : nmR 20 b p p 0 [] = .ok n z1) (h2 : numR 20 b z1 2 = .ok t z2) (h3 : numR 20 b z2 2 = .ok c z3) (h4 : numR 20 b z3 4 = .ok l z4) (h5 : numR 20 b z4 2 = .ok s z5) (h6 : daR b t z5 s = .ok d z6) : reR b p = .ok ⟨n, t, c, l, d⟩ z6 := by unfold reR; rw [h, Rd.then_ok, h2, Rd.then_ok, h3, Rd.then_ok, h4, Rd.then_ok, h5, Rd.then_ok, h6]; rfl
set_option maxHeartbeats 2000000 in
set_option maxRecDepth 100000 in
theorem recordD_any (w : World) (rb : Nat) (A : Option Addr) (c : Nat) (b : Bs) (p : Nat) (h : RdM w rb A c b p 20) (hb : 0 < b.length) :
    Calls Tryd.prog 119 #[.pointer (some ⟨rb, 0, none⟩)] w (RdP w rb A c b 20 (VRr w.heap.size) (reR b p)) := by
  have HS0 := Lib.hid (StS.start h #[.string ⟨#[]⟩, .int .i64 0, .int .i64 0, .int .i64 0, .slice none 0 0] 72)
  have ND := Lib.hid (fun wr q (h : RdM wr rb A c b q 20) => nameD_any wr rb A c b q 20 h)
  have NU := Lib.hid (fun wr q (h : RdM wr rb A c b q 20) => (show Calls Tryd.prog 118 #[.pointer (some ⟨rb, 0, none⟩), .int .i64 2] wr (RdP wr rb A c b 20 VInt (numR 20 b q 2)) from numD_any wr rb A c b q 20 2 h (by omega)))
  have NU4 := Lib.hid (fun wr q (h : RdM wr rb A c b q 20) => (show Calls Tryd.prog 118 #[.pointer (some ⟨rb, 0, none⟩), .int .i64 4] wr (RdP wr rb A c b 20 VInt (numR 20 b q 4)) from numD_any wr rb A c b q 20 4 h (by omega)))
  have DD := Lib.hid (fun wr q (t : Int) s (h : RdM wr rb A c b q 20) (hs : s ≤ 65535) => dataD_any wr rb A c b q t s h hs hb)
  obtain ⟨R, hR⟩ : ∃ R, R = reR b p := ⟨_, rfl⟩
  rw [← hR]
  have HR := Lib.hid hR
  obtain ⟨g, hg⟩ : ∃ g, g = w.heap.size := ⟨_, rfl⟩
  obtain ⟨W0, hW0⟩ : ∃ W0, W0 = w.alloc (.cells #[.string ⟨#[]⟩, .int .i64 0, .int .i64 0, .int .i64 0, .slice none 0 0] 72) := ⟨_, rfl⟩
  rw [← hW0] at HS0
  have HW0 := Lib.hid hW0
  have HG := Lib.hid hg
  have HA : Hid (∀ q, A = some q → q.block < w.heap.size) := Lib.hid (fun q hq => h.sl.inside q hq hb)
  have HB := Lib.hid hb
  clear h hR hW0 hg hb
  go_enter Tryd.func119, Tryd.ntmps119
  go_wp2_with (first | rw [← HW0.out, ← HG.out] | fail)
  have N1 := ND.out W0 p HS0.out.rd
  cases hn1 : nmR 20 b p p 0 [] with
  | no e1 =>
    rw [hn1] at N1
    have N1 := Lib.hid N1
    have HN := Lib.hid (HR.out.trans (reR_no1 hn1))
    clear hn1
    refine N1.out.mono ?_
    rintro e w1 ⟨rfl, hm1⟩
    exact ⟨rfl, HS0.out.fail HN.out hm1⟩
  | ok n z1 =>
    rw [hn1] at N1
    have N1 := Lib.hid N1
    have HN1 := Lib.hid hn1
    clear hn1
    refine N1.out.mono ?_
    rintro e w1 ⟨v1, rfl, rfl, hr1, hm1⟩
    have HS1 := Lib.hid (HS0.out.next hr1 hm1)
    clear hr1 hm1 N1 HS0
    have N2 := NU.out w1 z1 HS1.out.rd
    cases hn2 : numR 20 b z1 2 with
    | no e2 =>
      rw [hn2] at N2
      have N2 := Lib.hid N2
      have HN := Lib.hid (HR.out.trans (reR_no2 HN1.out hn2))
      clear hn2
      go_wp2_with fail
      refine N2.out.mono ?_
      rintro e w2 ⟨rfl, hm2⟩
      exact ⟨rfl, HS1.out.fail HN.out hm2⟩
    | ok t z2 =>
      rw [hn2] at N2
      have N2 := Lib.hid N2
      have HN2 := Lib.hid hn2
      clear hn2
      go_wp2_with fail
      refine N2.out.mono ?_
      rintro e w2 ⟨v2, rfl, rfl, hr2, hm2⟩
      have HS2 := Lib.hid (HS1.out.next hr2 hm2)
      clear hr2 hm2 N2 HS1
      have N3 := NU.out w2 z2 HS2.out.rd
      cases hn3 : numR 20 b z2 2 with
      | no e3 =>
        rw [hn3] at N3
        have N3 := Lib.hid N3
        have HN := Lib.hid (HR.out.trans (reR_no3 HN1.out HN2.out hn3))
        clear hn3
        go_wp2_with fail
        refine N3.out.mono ?_
        rintro e w3 ⟨rfl, hm3⟩
        exact ⟨rfl, HS2.out.fail HN.out hm3⟩
      | ok cl z3 =>
        rw [hn3] at N3
        have N3 := Lib.hid N3
        have HN3 := Lib.hid hn3
        clear hn3
        go_wp2_with fail
        refine N3.out.mono ?_
        rintro e w3 ⟨v3, rfl, rfl, hr3, hm3⟩
        have HS3 := Lib.hid (HS2.out.next hr3 hm3)
        clear hr3 hm3 N3 HS2
        have N4 := NU4.out w3 z3 HS3.out.rd
        cases hn4 : numR 20 b z3 4 with
        | no e4 =>
          rw [hn4] at N4
          have N4 := Lib.hid N4
          have HN := Lib.hid (HR.out.trans (reR_no4 HN1.out HN2.out HN3.out hn4))
          clear hn4
          go_wp2_with fail
          refine N4.out.mono ?_
          rintro e w4 ⟨rfl, hm4⟩
          exact ⟨rfl, HS3.out.fail HN.out hm4⟩
        | ok ttl z4 =>
          rw [hn4] at N4
          have N4 := Lib.hid N4
          have HN4 := Lib.hid hn4
          clear hn4
          go_wp2_with fail
          refine N4.out.mono ?_
          rintro e w4 ⟨v4, rfl, rfl, hr4, hm4⟩
          have HS4 := Lib.hid (HS3.out.next hr4 hm4)
          clear hr4 hm4 N4 HS3
          have N5 := NU.out w4 z4 HS4.out.rd
          cases hn5 : numR 20 b z4 2 with
          | no e5 =>
            rw [hn5] at N5
            have N5 := Lib.hid N5
            have HN := Lib.hid (HR.out.trans (reR_no5 HN1.out HN2.out HN3.out HN4.out hn5))
            clear hn5
            go_wp2_with fail
            refine N5.out.mono ?_
            rintro e w5 ⟨rfl, hm5⟩
            exact ⟨rfl, HS4.out.fail HN.out hm5⟩
          | ok s z5 =>
            rw [hn5] at N5
            have N5 := Lib.hid N5
            have HN5 := Lib.hid hn5
            clear hn5
            go_wp2_with fail
            refine N5.out.mono ?_
            rintro e w5 ⟨v5, rfl, rfl, hr5, hm5⟩
            have HS5 := Lib.hid (HS4.out.next hr5 hm5)
            clear hr5 hm5 N5 HS4
            have hs16 := numR_lt HN5.out
            have N6 := DD.out w5 z5 (t : Nat) s HS5.out.rd (by omega)
            clear hs16
            cases hn6 : daR b (t : Nat) z5 s with
            | no e6 =>
              rw [hn6] at N6
              have N6 := Lib.hid N6
              have HN := Lib.hid (HR.out.trans (reR_no6 HN1.out HN2.out HN3.out HN4.out HN5.out hn6))
              clear hn6
              go_wp2_with fail
              refine N6.out.mono ?_
              rintro e w6 ⟨rfl, hm6⟩
              exact ⟨rfl, HS5.out.fail HN.out hm6⟩
            | ok d z6 =>
              rw [hn6] at N6
              have N6 := Lib.hid N6
              have HN6 := Lib.hid hn6
              clear hn6
              have HRW5 := Lib.hid HS5.out.box
              rw [← HG.out] at HRW5
              have HGW : Hid (g < w5.heap.size) := Lib.hid (Array.getElem?_eq_some_iff.1 HRW5.out).1
              have rZ5 := HRW5.out
              -- the store comes right behind the call, in one region
              obtain ⟨dl, hdl⟩ : ∃ n, n = d.length := ⟨_, rfl⟩
              have HDL := Lib.hid hdl
              clear hdl
              go_wp2_with fail
              refine N6.out.mono ?_
              rintro e w6 ⟨v6, rfl, ho6, hr6, hm6⟩
              obtain ⟨A6, c6, rfl, -⟩ := ho6.ownB.bysN
              rw [← HDL.out]
              have ho6' : OwnR w6 w5.heap.size (.slice A6 dl c6) d := by rw [HDL.out]; exact ho6
              have HS6 := Lib.hid (HS5.out.next hr6 hm6)
              clear hr6 hm6 N6 HS5 ho6 rZ5 HRW5
              have HRW := Lib.hid HS6.out.box
              rw [← HG.out] at HRW
              have rZ := HRW.out
              obtain ⟨cs, hcs⟩ : ∃ cs : Array Value, cs = #[.string (bs n), .int .i64 (t : Nat), .int .i64 (cl : Nat), .int .i64 (ttl : Nat), .slice A6 dl c6] := ⟨_, rfl⟩
              have i1 : Hid ((Tryd.prog.info? 72).map (·.size) = some cs.size) := Lib.hid (by rw [hcs]; exact info_rr)
              have one1 : Hid (cs.all (·.oneCell') = true) := Lib.hid (by rw [hcs]; simp [Value.oneCell'])
              have HCS := Lib.hid hcs
              have HN := Lib.hid (HR.out.trans (reR_ok HN1.out HN2.out HN3.out HN4.out HN5.out HN6.out))
              have z1' : Hid ((#[.string ⟨#[]⟩, .int .i64 0, .int .i64 0, .int .i64 0, .slice none 0 0] : Array Value).size = cs.size) := Lib.hid (by rw [hcs]; rfl)
              have HRB := Lib.hid (HS6.out.rd.modG (mod_setRow w6 g cs) (by have := HS6.out.lt; rw [HG.out]; omega) (fun q hq e => by
                have h1 := HA.out q hq
                rw [HG.out] at e
                omega))
              have HMB := Lib.hid (HS6.out.mod.trans (mod_setRow w6 g cs) (fun i hi => .inr (by rw [hi, HG.out]; exact Nat.le_refl _)))
              have HRX := Lib.hid (setRow_heap _ _ _ cs _ _ rZ)
              have HOW := Lib.hid (OwnR.lowerD (w := w6.setRow g cs) (base := w5.heap.size) (v := .slice A6 dl c6) (l := d) (own_mod ho6' (mod_setRow w6 g cs) (own_offV ho6' (fun i hi => by rw [hi]; exact HGW.out))) (show w.heap.size ≤ w5.heap.size by have := HGW.out; have := HG.out; omega))
              clear hcs HN1 HN2 HN3 HN4 HN5 HN6 ho6'
              go_wp2_with (first
                | (refine wpList_store_row rfl 72 (.tmp 2) (.tmp 26) rfl g cs rfl (by rw [HCS.out]; rfl) 72 _ rZ i1.out (by first | exact z1'.out | exact z1'.out.symm) one1.out ?_)
                | fail)
              refine bodyPost_ret (v := .agg cs) (res_rr (g := g) rfl HRX.out (by rw [HCS.out]; rfl)) rfl ?_
              rw [HN.out]
              exact ⟨_, rfl, ⟨A6, c6, by rw [HCS.out, HDL.out]; rfl, by rw [← HDL.out]; exact HOW.out⟩, HRB.out, HMB.out⟩
end Go.Proofs.YtknpkifhkefikaaDoor
namespace Go.Proofs.YtknpkifhkefikaaDoor
open Go.RowKit
set_option linter.unusedVariables false
set_option maxRecDepth 100000

theorem Mod.grownS {w w1 : World} {rb : Nat} (h : Mod (fun k => k = rb) w w1) : w.grownBy w1 (some rb) := ⟨h.os, h.tape, h.output, h.size, fun k hk hn => h.block k hk (fun e => hn (by rw [e]))⟩
theorem Rows5.keptT {w w' : World} {xs : List Value} {M : List Rr} {r : Option Nat} {T : TypeId} (hT : T ≠ 5) (h : Rows5 w xs M) (hg : w.grownBy w' r) (hr : ∀ g, r = some g → ∃ cs fz, w.heap[g]? = some (.cells cs T fz)) : Rows5 w' xs M :=
  ⟨h.1, fun j hj => by
    obtain ⟨a, c, h1, h2⟩ := h.2 j hj
    exact ⟨a, c, h1.keptT hT hg hr, h2⟩⟩
theorem rr_oneD (r : Rr) (a : Option Addr) (c : Nat) : ∀ u ∈ rrL r a c, u.oneCell' = true := fun u hu => by
  simp [rrL] at hu
  rcases hu with rfl | rfl | rfl | rfl | rfl <;> rfl
def VRs (L : List Rr) (v : Value) (w : World) : Prop := ∃ A' c', v = .slice A' L.length c' ∧ RsT w A' L ∧ L.length ≤ c' ∧ c' ≤ 9223372036854775807
/-- Within records. -/
structure RsS (w : World) (rb : Nat) (A : Option Addr) (c : Nat) (b : Bs) (R : Rd (List Rr)) (cnt : Nat) (v : Value) (k q : Nat) (xs : List Value) (L : List Rr) (wr : World) : Prop where
  rd : RdM wr rb A c b q 20
  mod : Mod (fun k => k = rb) w wr
  own : wr.ownsRow w.heap.size 72 5 v k xs
  rows : Rows5 wr xs L
  len : L.length = k
  eq : R = manyR (reR b) (cnt - k) q L

set_option maxHeartbeats 2000000 in
set_option maxRecDepth 100000 in
theorem recordsD_any (w : World) (rb : Nat) (A : Option Addr) (c : Nat) (b : Bs) (p cnt : Nat) (h : RdM w rb A c b p 20) (hb : 0 < b.length) (hc : cnt ≤ 65535) :
    Calls Tryd.prog 90 #[.pointer (some ⟨rb, 0, none⟩), .int .i64 cnt] w (RdP w rb A c b 20 VRs (manyR (reR b) cnt p [])) := by
  obtain ⟨i0, hi, hz0, hz1, hz2⟩ := info_parts info_r5
  have RD := Lib.hid (fun wr q (h : RdM wr rb A c b q 20) => recordD_any wr rb A c b q h hb)
  obtain ⟨R, hR⟩ : ∃ R, R = manyR (reR b) cnt p [] := ⟨_, rfl⟩
  rw [← hR]
  have HS0 : Hid (RsS w rb A c b R cnt (.slice none 0 0) 0 p [] [] w) := Lib.hid ⟨h, Mod.refl _ _, World.ownsRow_nil _ _ _ _, ⟨rfl, fun j hj => absurd hj (by simp)⟩, rfl, hR⟩
  have HLT := Lib.hid h.lt
  have H0 := Lib.hid h
  clear h hR hb
  go_enter Tryd.func90, Tryd.ntmps90
  go_wp2_with fail
  go_loopw [5, 7] (fun v5 v7 wr => ∃ (k q : Nat) (xs : List Value) (L : List Rr), v7 = .int .i64 k ∧ k ≤ cnt ∧ Hid (RsS w rb A c b R cnt v5 k q xs L wr)) (fun _ v7 _ => cnt - (intOf v7).toNat)
  case atStart => exact ⟨0, p, [], [], rfl, by omega, HS0⟩
  case round =>
    obtain ⟨k, q, xs, L, rfl, hk, HS⟩ := hrel
    rename World => wo
    clear HS0
    by_cases hlt : k < cnt
    · have hlt' : (k : Int) < (cnt : Int) := by omega
      have N1 := RD.out wo q HS.out.rd
      have he := HS.out.eq
      rw [show cnt - k = cnt - (k + 1) + 1 by omega] at he
      unfold manyR at he
      cases hn : reR b q with
      | no e0 =>
        rw [hn] at N1 he
        have N1 := Lib.hid N1
        have HN : Hid (R = .no e0) := Lib.hid he
        clear he hn
        go_wp2_with fail
        refine N1.out.mono ?_
        rintro e w6 ⟨rfl, hm6⟩
        have HPN : RdP w rb A c b 20 VRs R (gaveUp e0) w6 := by rw [HN.out]; exact ⟨rfl, HS.out.mod.trans hm6 (fun i hi => .inl hi)⟩
        exact ⟨rfl, HPN⟩
      | ok x z1 =>
        rw [hn] at N1 he
        rw [Rd.then_ok] at he
        have N1 := Lib.hid N1
        have HE := Lib.hid he
        clear he hn
        go_wp2_with fail
        refine N1.out.mono ?_
        rintro e w6 ⟨v6, rfl, ⟨A5, c5, rfl, ho5⟩, hr6, hm6⟩
        have hrow := HS.out.rd.row
        have hkind : ∀ g, some rb = some g → ∃ cs fz, wo.heap[g]? = some (.cells cs 92 fz) := fun g e => by
          injection e with e
          subst e
          exact ⟨_, _, hrow⟩
        obtain ⟨-, T5⟩ := DatT.of ho5
        rw [show rrC x A5 c5 = #[.string (bs x.n), .int .i64 x.t, .int .i64 x.c, .int .i64 x.ttl, .slice A5 x.d.length c5] from rfl]
        have b6 : Below w6.heap.size w6 (w6.alloc (.cells #[.string (bs x.n), .int .i64 x.t, .int .i64 x.c, .int .i64 x.ttl, .slice A5 x.d.length c5] 72)) := Below.alloc (Below.refl _ _) (Nat.le_refl _) _
        have HOWN := Lib.hid (ownsRow_below (own_mod HS.out.own hm6 (own_offV HS.out.own (fun i hi => by rw [hi]; exact HLT.out))) b6 (Nat.le_refl _))
        have HROWS := Lib.hid ((HS.out.rows.keptT (T := 92) (by decide) hm6.grownS hkind).below b6)
        have HT5 := Lib.hid (T5.below b6)
        have HRD := Lib.hid (hr6.below b6)
        have HMD := Lib.hid ((HS.out.mod.trans hm6 (fun i hi => .inl hi)).then b6)
        have HSZ := Lib.hid HMD.out.size
        clear T5 ho5 hr6 hm6 hrow hkind N1 b6
        go_wp2_with (first
          | (at_builtin; refine wpList_append_own _ rfl _ _ 25 rfl w.heap.size 72 i0 (.agg #[.string ⟨#[]⟩, .int .i64 0, .int .i64 0, .int .i64 0, .slice none 0 0]) 5 64 Tryd.underlying25 hi hz0 hz1 hz2 rfl (by decide) _ _ _ rfl HOWN.out ⟨w6.heap.size, 0, none⟩ 1 1 (rrL x A5 c5) rfl rfl ?c1 ?c2 ?c3 ?c4 ?c5 ?_)
          | fail)
        case c1 =>
          exact World.news_of_block (cs := #[.string (bs x.n), .int .i64 x.t, .int .i64 x.c, .int .i64 x.ttl, .slice A5 x.d.length c5]) (t := 72) (fr := (0, 0)) (row_new _ rfl)
        case c2 => exact rr_oneD x A5 c5
        case c3 => unfold maxLen; omega
        case c4 => omega
        case c5 => exact HSZ.out
        intro v' w9 hown9 hgrow _
        have hk2 := own_kind HOWN.out
        have hlt5 := HOWN.out.lt
        have hm9 : Mod (fun k => k = rb) w w9 := HMD.out.trans (Mod.grown (S := fun i => u5.ownBlock = some i) hgrow (fun i hi => hi)) (fun i hi => .inr (hlt5 i hi).1)
        have hr9 := H0.out.far HRD.out hm9 (hgrow.block rb HRD.out.lt (fun e => by have := (hlt5 rb e.symm).1; have := HLT.out; omega))
        have hrows9 := (HROWS.out.kept hgrow hk2).snoc (x := x) (HT5.out.kept hgrow hk2)
        have HNEW : Hid (RsS w rb A c b R cnt v' (k + 1) z1 (xs ++ rrL x A5 c5) (L ++ [x]) w9) := Lib.hid ⟨hr9, hm9, by simpa using hown9, hrows9, by rw [List.length_append, HS.out.len]; rfl, HE.out⟩
        clear hown9 hgrow hk2 hlt5 hm9 hr9 hrows9 HOWN HROWS HT5 HRD HMD HSZ HE HS
        go_wp2_with fail
        go_roundw
        case rel => exact ⟨k + 1, z1, _, _, by go_num, by omega, HNEW⟩
        case measure => simp [intOf]; omega
    · have hlt' : ¬ (k : Int) < (cnt : Int) := by omega
      obtain rfl : k = cnt := by omega
      have he := HS.out.eq
      rw [Nat.sub_self] at he
      have HN : Hid (R = .ok L q) := Lib.hid he
      obtain ⟨A', c', rfl⟩ : ∃ A' c', u5 = .slice A' k c' := by
        rcases HS.out.own.2 with ⟨h1, h0⟩ | ⟨g, cap, cur, h1, _⟩
        · exact ⟨none, 0, by rw [h1, h0]⟩
        · exact ⟨_, _, h1⟩
      obtain ⟨-, h1, h2, h3⟩ := Rows5.rs HS.out.own HS.out.rows
      have HV : Hid (VRs L (.slice A' k c') wo) := Lib.hid ⟨A', c', by rw [HS.out.len], h1, by rw [HS.out.len]; exact h2, h3⟩
      clear he h1 h2 h3 hi hz0 hz1 hz2
      go_wp2_with fail
      go_ret
      rw [HN.out]
      exact ⟨_, rfl, HV.out, HS.out.rd, HS.out.mod⟩
end Go.Proofs.YtknpkifhkefikaaDoor
