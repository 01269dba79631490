/-
  The walk of RrsetRecords.
-/
import Derived.Test.YtbeggckkgaoacaaRf
import Derived.Test.YtbeggckkgaoacaaTu
import Derived.Test.YtbeggckkgaoacaaAwR
import Derived.Test.YtbeggckkgaoacaaBk
namespace Go.Proofs.Ytbeggckkgaoacaa
open Go.RowKit
set_option linter.unusedVariables false
set_option maxRecDepth 100000

/-- Records of the call's own, whose bytes may have turned. -/
def OwnX (w : World) (B : Nat) (v : Value) (M : List Rr) : Prop := ∃ xs, w.ownsRow B 39 5 v M.length xs ∧ ∀ j (h : j < M.length), ∃ a c l, List.length l = (M[j]).d.length ∧ OwnR w B (.slice a (M[j]).d.length c) l ∧ ∀ i, i < 5 → xs[j * 5 + i]? = (rrL M[j] a c)[i]?
theorem OwnO.x {w : World} {B : Nat} {v : Value} {M : List Rr} (h : OwnO w B v M) : OwnX w B v M := by
  obtain ⟨xs, o, r⟩ := h
  refine ⟨xs, o, fun j hj => ?_⟩
  obtain ⟨a, c, h1, h2⟩ := r.2 j hj
  exact ⟨a, c, _, rfl, h1, h2⟩
theorem OwnX.turn {w w' : World} {B C : Nat} {v : Value} {M : List Rr} (h : OwnX w B v M) (hT : TurnS C w w') : OwnX w' B v M := by
  obtain ⟨xs, o, r⟩ := h
  refine ⟨xs, hT.other o (by decide), fun j hj => ?_⟩
  obtain ⟨a, c, l, hl, h1, h2⟩ := r j hj
  obtain ⟨l', hl', h3⟩ := h1.turn hT
  exact ⟨a, c, l', hl'.trans hl, h3, h2⟩
theorem OwnX.at {w : World} {B : Nat} {v : Value} {M : List Rr} (h : OwnX w B v M) {j : Nat} (hj : j < M.length) : ∃ g c a d l, v = .slice (some ⟨g, 0, none⟩) M.length c ∧ w.rangeAt g (j * 5) (rrL M[j] a d) ∧ OwnR w B (.slice a (M[j]).d.length d) l := by
  obtain ⟨xs, o, r⟩ := h
  obtain ⟨a, d, l, hl, h1, h2⟩ := r j hj
  rcases o.2 with ⟨h4, h5⟩ | ⟨g, cap, cur, h4, hb, hh, hc, hm, hsz, ht⟩
  · omega
  · refine ⟨g, cap, a, d, l, h4, fun i v hi => ?_, h1⟩
    obtain ⟨hil, _⟩ := List.getElem?_eq_some_iff.1 hi
    have hi5 : i < 5 := hil
    have h3 := h2 i hi5
    rw [cell_of_row _ g (j * 5 + i) _ _ _ hh]
    rw [hi, ← ht, List.getElem?_take_of_lt (by have := Nat.mul_le_mul_right 5 (show j + 1 ≤ M.length by omega); omega)] at h3
    simpa using h3

attribute [local go_sem ↓] exec_loadSt
set_option maxHeartbeats 4000000 in
set_option maxRecDepth 100000 in
theorem RrsetRecords_any (s : St) (A : Option Addr) (c : Nat) (now : Int) (w : World) (hS : Byss w A s.ds) (hl : (s.ds.length + 1) * 64 ≤ 140737488351232) (hd : ∀ x ∈ s.ds, x.length ≤ 140737488351232) (he : -9223372036854775808 ≤ s.ex ∧ s.ex ≤ 9223372036854775807) :
    Calls Try.prog 4 #[.agg (stC s A c), .int .i64 now] w fun e w' => e = .returned (.bool true) ∧ Below w.heap.size w w' := by
  have r2 := row_new (w := w) (k := w.heap.size) (.cells (stC s A c) 29 (0, 0)) rfl
  have b0 : Below w.heap.size w (w.alloc (.cells (stC s A c) 29 (0, 0))) := Below.alloc (Below.refl _ _) (Nat.le_refl _) _
  obtain ⟨W0, hW0⟩ : ∃ W0, W0 = w.alloc (.cells (stC s A c) 29 (0, 0)) := ⟨_, rfl⟩
  have hz : W0.heap.size = w.heap.size + 1 := by rw [hW0]; exact Array.size_push _
  rw [← hW0] at r2 b0
  have S0 := hS.on b0
  have L1 := loadSt_row r2 info_st
  have CP := Lib.hid (dCopyT_any s A c W0 S0 (by omega) hd)
  have I0 : Hid ((Try.prog.info? 29).map (·.size) = some (stC s A c).size) := Lib.hid info_st
  have R2 := Lib.hid r2
  obtain ⟨C, hC⟩ : ∃ C, C = stC s A c := ⟨_, rfl⟩
  rw [← hC] at L1 CP hW0 I0 ⊢
  have R2C := Lib.hid r2
  rw [← hC] at R2C
  have HC := Lib.hid hC
  have HW0 := Lib.hid hW0
  have HB0 := Lib.hid b0
  have HS0 := Lib.hid S0
  have HZ := Lib.hid hz
  have HD := Lib.hid hd
  have HE := Lib.hid he
  have HL := Lib.hid hl
  clear hS hd he hC hW0 b0 S0 r2 hz hl
  go_enter Try.func4, Try.ntmps4
  go_wp2_with (first | rw [← HW0.out] | (refine wpList_load_row rfl 29 (.tmp 2) rfl w.heap.size rfl 29 C (0, 0) _ R2C.out Try.underlying29 rfl I0.out ?_) | fail)
  refine CP.out.mono ?_
  rintro e w1 ⟨A1, c1, rfl, by1, -, -, -, b1⟩
  have rZ := row_new (w := w1) (k := w1.heap.size) (.cells stZ 29 (0, 0)) rfl
  have r5 := setRow_heap _ _ _ (stC s A1 c1) _ _ rZ
  have q1 : Below w1.heap.size w1 ((w1.alloc (.cells stZ 29)).setRow w1.heap.size (stC s A1 c1)) := Below.setRow (Below.alloc (Below.refl _ _) (Nat.le_refl _) _) (Nat.le_refl _) _
  have z1 : Hid ((stZ).size = (stC s A1 c1).size) := Lib.hid rfl
  have one1 := Lib.hid (st_one s A1 c1)
  have i1 : Hid ((Try.prog.info? 29).map (·.size) = some (stC s A1 c1).size) := Lib.hid info_st
  rw [stZ_lit] at rZ r5 q1 z1
  obtain ⟨W2, hW2⟩ : ∃ W2, W2 = (w1.alloc (.cells #[.string ⟨#[]⟩, .int .i64 0, .int .i64 0, .int .i64 0, .int .i64 0, .int .i64 0, .string ⟨#[]⟩, .slice none 0 0] 29)).setRow w1.heap.size (stC s A1 c1) := ⟨_, rfl⟩
  rw [← hW2] at r5 q1
  have HW2 := Lib.hid hW2
  have by2 := by1.byss.on q1
  have b02 := Below.trans b1 (q1.mono b1.size)
  have R20 := (b02.block _ (Array.getElem?_eq_some_iff.1 R2.out).1).trans R2.out
  have R20C := (b02.block _ (Array.getElem?_eq_some_iff.1 R2.out).1).trans R2C.out
  have sA2 := HS0.out.on b02
  have RC := Lib.hid (records_any s A1 c1 now W2 by2 HL.out HD.out HE.out)
  obtain ⟨D, hDe⟩ : ∃ D, D = stC s A1 c1 := ⟨_, rfl⟩
  have R5 := Lib.hid r5
  rw [← hDe] at RC HW2 z1 one1 i1 ⊢
  have R5D := Lib.hid r5
  rw [← hDe] at R5D
  have HDE := Lib.hid hDe
  have HBY2 := Lib.hid by2
  have HSA2 := Lib.hid sA2
  have HR20 := Lib.hid R20
  have HR20C := Lib.hid R20C
  have HB2 := Lib.hid (Below.trans HB0.out (b02.mono HB0.out.size))
  clear CP by1 b1 r5 q1 hW2 by2 b02 R20 R20C sA2 hDe L1
  go_wp2_with (first
    | (refine wpList_store_row rfl 29 (.tmp 5) (.tmp 10) rfl w1.heap.size D rfl rfl 29 _ rZ i1.out (by first | exact z1.out | exact z1.out.symm) one1.out ?_; rw [← HW2.out])
    | (refine wpList_load_row rfl 29 (.tmp 5) rfl w1.heap.size rfl 29 D (0, 0) _ R5D.out Try.underlying29 rfl i1.out ?_)
    | fail)
  refine RC.out.mono ?_
  rintro e w3 ⟨v3, rfl, o3, b3⟩
  obtain ⟨R, hR⟩ : ∃ R, R = recsP s now := ⟨_, rfl⟩
  rw [← hR] at o3
  have hRl : R.length ≤ s.ds.length := by rw [hR]; unfold recsP; split <;> simp
  obtain ⟨A3, c3, rfl, hqc, hcq⟩ := o3.form
  have rs3 := o3.rs
  have lt2 := (Array.getElem?_eq_some_iff.1 HR20.out).1
  have lt5 := (Array.getElem?_eq_some_iff.1 R5.out).1
  have r2w := (b3.block _ lt2).trans HR20C.out
  have r5w := (b3.block _ lt5).trans R5D.out
  have LA := fun (W : World) (h : Below w3.heap.size w3 W) => loadSt_row ((h.block _ (Array.getElem?_eq_some_iff.1 r2w).1).trans r2w) I0.out
  have LB := fun (W : World) (h : Below w3.heap.size w3 W) => loadSt_row ((h.block _ (Array.getElem?_eq_some_iff.1 r5w).1).trans r5w) i1.out
  have sA3 := HSA2.out.on b3
  have RF := Lib.hid (fun (W : World) (h : Below w3.heap.size w3 W) => records_ref s A c now W (sA3.on h) HL.out HD.out HE.out)
  have FA := Lib.hid (fun W => fresh_any s A1 c1 now W)
  have FR := Lib.hid (fun W => fresh_ref s A c now W)
  rw [← hR] at RF
  rw [← HC.out] at RF FR
  rw [← HDE.out] at FA
  have H3 := Lib.hid o3
  have RS3 := Lib.hid rs3
  have HRL : Hid (R.length ≤ 9223372036854775807) := Lib.hid (by have := HL.out; omega)
  have SR := Lib.hid (fun (W : World) (h : Below w3.heap.size w3 W) (A8 : Option Addr) (c8 : Nat) (hr : Rs W A8 R) => SameRRs_any A3 A8 R R c3 c8 W (RS3.out.on h) hr HRL.out)
  rw [sameL_self sameR_self] at SR
  obtain ⟨n, hn⟩ : ∃ n, n = R.length := ⟨_, rfl⟩
  rw [← hn] at SR H3 hqc ⊢
  have HN := Lib.hid hn
  have HB3 := Lib.hid (Below.trans HB2.out (b3.mono HB2.out.size))
  have HB23 := Lib.hid b3
  have hs3 : Below w3.heap.size w3 w3 := Below.refl _ _
  clear RC o3 b3 hR rs3 r2w r5w sA3 hn rZ hRl lt2 lt5
  generalize freshN s now = fb at *
  have hfb : (fb != fb) = false := by cases fb <;> rfl
  go_wp2_with fail
  go_region_held3 (fun w' => Below w3.heap.size w3 w')
    (first | assumption | exact Below.drew (by assumption))
    (first
      | (go_at_call 18; (with_reducible refine (RF.out _ (by assumption)).mono ?_); rintro e w8 ⟨v8, rfl, o8, hBx⟩; obtain ⟨A8, c8, rfl, -, -⟩ := o8.form; have hX8 : Below w3.heap.size w3 w8 := (by first | exact Below.trans hs3 hBx | exact Below.trans (Below.drew hs3) (Below.mono hBx (Below.drew hs3).size)); have hr8 := o8.rs; rw [← HN.out])
      | (go_at_call 14; (with_reducible refine (SR.out _ hX8 _ _ hr8).mono ?_); rintro e w9 ⟨rfl, hBy⟩; have hX9 : Below w3.heap.size w3 w9 := Below.trans hX8 (Below.mono hBy hX8.size))
      | (go_at_call 19; (with_reducible refine (FA.out _).mono ?_); rintro e w10 ⟨rfl, hBz⟩; have hX10 : Below w3.heap.size w3 w10 := Below.trans hX9 (Below.mono hBz hX9.size))
      | (go_at_call 20; (with_reducible refine (FR.out _).mono ?_); rintro e w11 ⟨rfl, hBu⟩; have hX11 : Below w3.heap.size w3 w11 := Below.trans hX10 (Below.mono hBu hX10.size)))
  have o11 := (H3.out.below hX11).x
  have hB11 : Below W2.heap.size W2 w11 := Below.trans HB23.out (hX11.mono HB23.out.size)
  have H11 := Lib.hid o11
  have HB11 := Lib.hid hB11
  have hsz := hB11.size
  clear hX8 hX9 hX10 hX11 hBx hBy hBz hBu o8 hr8 RF SR FA FR LA LB hs3 H3 RS3 HB3 HB23 o11 hB11
  obtain ⟨B, hBe⟩ : ∃ B, B = W2.heap.size := ⟨_, rfl⟩
  rw [← hBe] at H11 hsz
  have HBE := Lib.hid hBe
  clear hBe
  go_wp2_with fail
  go_loopw [31] (fun v31 ws => ∃ k : Nat, v31 = .int .i64 k ∧ k ≤ n ∧ TurnS B w11 ws) (fun v31 _ => n - (intOf v31).toNat)
  case atStart => exact ⟨0, rfl, by omega, TurnS.refl _ _⟩
  case round =>
    obtain ⟨k, rfl, hk, hT⟩ := hrel
    rename World => ws
    by_cases hlt : k < n
    · have hlt' : (k : Int) < (n : Int) := by omega
      have kR : k < R.length := by have := HN.out; omega
      have ho := H11.out.turn hT
      rw [HN.out] at ho
      obtain ⟨g3, cc3, a3, d3, l3, e3, hr3, hol⟩ := ho.at kR
      injection e3 with e3 e3b e3c
      subst e3
      clear e3b e3c
      generalize R[k] = x at *
      have i2 : Hid ((Try.prog.info? 39).map (·.size) = some (rrC x a3 d3).size) := Lib.hid info_rr
      have j2 : Hid ((Try.prog.info? 39).map (·.size) = some (rrL x a3 d3).length) := Lib.hid info_rr
      have one2 := Lib.hid (rr_one x a3 d3)
      have z2' : Hid ((rrZ).size = (rrC x a3 d3).size) := Lib.hid rfl
      have rY := row_new (w := ws) (k := ws.heap.size) (.cells rrZ 39 (0, 0)) rfl
      have r6 := setRow_heap _ _ _ (rrC x a3 d3) _ _ rY
      have q2 : Below ws.heap.size ws ((ws.alloc (.cells rrZ 39)).setRow ws.heap.size (rrC x a3 d3)) := Below.setRow (Below.alloc (Below.refl _ _) (Nat.le_refl _) _) (Nat.le_refl _) _
      rw [rrZ_lit] at rY r6 q2 z2'
      obtain ⟨W4, hW4⟩ : ∃ W4, W4 = (ws.alloc (.cells #[.string ⟨#[]⟩, .int .i64 0, .int .i64 0, .int .i64 0, .slice none 0 0] 39)).setRow ws.heap.size (rrC x a3 d3) := ⟨_, rfl⟩
      rw [← hW4] at r6 q2
      have HW4 := Lib.hid hW4
      obtain ⟨-, -, -, -, cy4⟩ := rr_cell r6
      obtain ⟨xn, hxn⟩ : ∃ xn, xn = x.d.length := ⟨_, rfl⟩
      rw [← hxn] at cy4 hol
      have hq := row_new (w := W4) (k := W4.heap.size) (.cells #[.slice a3 xn d3] 37 (0, 0)) rfl
      have qa : Below W4.heap.size W4 (W4.alloc (.cells #[.slice a3 xn d3] 37 (0, 0))) := Below.alloc (Below.refl _ _) (Nat.le_refl _) _
      have ol5 := (hol.below q2).below qa
      have hT5 := (hT.trans (TurnS.of q2)).trans (TurnS.of qa)
      have SP := Lib.hid (spoilL_any B (some ⟨W4.heap.size, 0, none⟩) 1 1 [.slice a3 xn d3] (W4.alloc (.cells #[.slice a3 xn d3] 37 (0, 0))) rfl (by omega) (fun _ => ⟨_, 0, _, rfl, hq, fun j u hj => by
        rw [Nat.zero_add, cell_of_row _ _ j _ _ _ hq, List.getElem?_toArray]
        exact hj⟩) (fun u hu => by rw [List.mem_singleton.1 hu]; exact ⟨_, ol5⟩))
      have HT5 := Lib.hid hT5
      obtain ⟨D2, hD2⟩ : ∃ D2, D2 = rrC x a3 d3 := ⟨_, rfl⟩
      obtain ⟨l4, hl4⟩ : ∃ l4, l4 = rrL x a3 d3 := ⟨_, rfl⟩
      have hDl : D2 = l4.toArray := by rw [hD2, hl4]; rfl
      rw [← hl4] at hr3 j2
      rw [← hD2] at i2 one2 z2' HW4
      have HDL := Lib.hid hDl
      clear hW4 r6 q2 hD2 hl4 hDl hT ho hol hq qa ol5 hT5 hxn H11
      go_wp2_with (first
        | (refine wpList_load_mid rfl 39 (.tmp 33) rfl g3 (k * 5) rfl l4 _ hr3 Try.underlying39 rfl j2.out ?_; rw [← HDL.out])
        | (refine wpList_store_row rfl 39 (.tmp 8) (.tmp 34) rfl ws.heap.size D2 rfl rfl 39 _ rY i2.out (by first | exact z2'.out | exact z2'.out.symm) one2.out ?_; rw [← HW4.out])
        | fail)
      refine SP.out.mono ?_
      rintro e w6 ⟨rfl, t6⟩
      have HT6 := Lib.hid (HT5.out.trans t6)
      clear SP t6 HT5 HW4 rY hr3 cy4
      go_wp2_with fail
      go_roundw
      case rel => exact ⟨k + 1, by go_num, by omega, HT6.out⟩
      case measure => simp [intOf]; omega
    · have hlt' : ¬ (k : Int) < (n : Int) := by omega
      have hBs := hT.below hsz
      rw [HBE.out] at hBs
      have hBa := Below.trans HB11.out hBs
      have lt2 := (Array.getElem?_eq_some_iff.1 HR20.out).1
      have lt5 := (Array.getElem?_eq_some_iff.1 R5.out).1
      have r2w := (hBa.block _ lt2).trans HR20C.out
      have r5w := (hBa.block _ lt5).trans R5D.out
      have LA := loadSt_row r2w I0.out
      have LB := loadSt_row r5w i1.out
      have SM := Lib.hid (dSame_any s s A1 A c1 c ws (HBY2.out.on hBa) (HSA2.out.on hBa) (by have := HL.out; omega))
      rw [sameS_self, ← HC.out, ← HDE.out] at SM
      have HBF := Lib.hid (Below.trans HB2.out (hBa.mono HB2.out.size))
      clear hT hBs hBa lt2 lt5 r2w r5w H11 HB11
      go_wp2_with fail
      refine SM.out.mono ?_
      rintro e w12 ⟨rfl, b12⟩
      have HBG := Lib.hid (Below.trans HBF.out (b12.mono HBF.out.size))
      have AW := Lib.hid (awake09 w12)
      clear SM b12 HBF
      go_wp2_with fail
      refine AW.out.mono ?_
      rintro e w13 ⟨rfl, b13⟩
      have HBH := Lib.hid (Below.trans HBG.out (b13.mono HBG.out.size))
      clear AW b13 HBG
      go_wp2_with fail
      go_ret
      exact ⟨rfl, HBH.out⟩
end Go.Proofs.Ytbeggckkgaoacaa
