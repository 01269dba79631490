/-
  The walk of RrsetGroups.
-/
import Derived.Test.YtbeggckkgaoacaaGdo
import Derived.Test.YtbeggckkgaoacaaSms
import Derived.Test.YtbeggckkgaoacaaTu
import Derived.Test.YtbeggckkgaoacaaAwR
import Derived.Test.YtbeggckkgaoacaaWmH
import Derived.Test.YtbeggckkgaoacaaEd
namespace Go.Proofs.Ytbeggckkgaoacaa
open Go.RowKit
set_option linter.unusedVariables false
set_option maxRecDepth 100000

/-- Texts of the call's own, whose bytes may have turned. -/
def OwnLx (w : World) (B : Nat) (v : Value) (n : Nat) : Prop := ∃ us, w.ownsRow B 37 1 v n us ∧ ∀ u ∈ us, ∃ l, OwnR w B u l
theorem OwnL.lx {w : World} {B : Nat} {v : Value} {L : List Bs} (h : OwnL w B v L) : OwnLx w B v L.length := by
  obtain ⟨xs, o, r⟩ := h
  refine ⟨xs, o, fun u hu => ?_⟩
  obtain ⟨j, hj, rfl⟩ := List.mem_iff_getElem.1 hu
  obtain ⟨v, h1, h2, -⟩ := r.2 j (by rw [← r.1]; exact hj)
  rw [List.getElem?_eq_getElem hj] at h1
  injection h1 with h1
  subst h1
  exact ⟨_, h2⟩
theorem OwnLx.turn {w w' : World} {B C n : Nat} {v : Value} (h : OwnLx w B v n) (hT : TurnS C w w') : OwnLx w' B v n := by
  obtain ⟨us, o, r⟩ := h
  refine ⟨us, hT.other o (by decide), fun u hu => ?_⟩
  obtain ⟨l, hl⟩ := r u hu
  obtain ⟨l', -, hl'⟩ := hl.turn hT
  exact ⟨l', hl'⟩
/-- Sets of the call's own, whose data's bytes may have turned. -/
def OwnXs (w : World) (B : Nat) (v : Value) (M : List St) : Prop := ∃ xs, w.ownsRow B 29 8 v M.length xs ∧ ∀ j (h : j < M.length), ∃ a c, OwnLx w B (.slice a (M[j]).ds.length c) (M[j]).ds.length ∧ ∀ i, i < 8 → xs[j * 8 + i]? = (stL M[j] a c)[i]?
theorem OwnS.xs {w : World} {B : Nat} {v : Value} {M : List St} (h : OwnS w B v M) : OwnXs w B v M := by
  obtain ⟨xs, o, r⟩ := h
  refine ⟨xs, o, fun j hj => ?_⟩
  obtain ⟨a, c, h1, h2⟩ := r.2 j hj
  exact ⟨a, c, h1.lx, h2⟩
theorem OwnXs.turn {w w' : World} {B C : Nat} {v : Value} {M : List St} (h : OwnXs w B v M) (hT : TurnS C w w') : OwnXs w' B v M := by
  obtain ⟨xs, o, r⟩ := h
  refine ⟨xs, hT.other o (by decide), fun j hj => ?_⟩
  obtain ⟨a, c, h1, h2⟩ := r j hj
  exact ⟨a, c, h1.turn hT, h2⟩
theorem OwnXs.at {w : World} {B : Nat} {v : Value} {M : List St} (h : OwnXs w B v M) {j : Nat} (hj : j < M.length) : ∃ g c a d, v = .slice (some ⟨g, 0, none⟩) M.length c ∧ w.rangeAt g (j * 8) (stL M[j] a d) ∧ OwnLx w B (.slice a (M[j]).ds.length d) (M[j]).ds.length := by
  obtain ⟨xs, o, r⟩ := h
  obtain ⟨a, d, h1, h2⟩ := r j hj
  rcases o.2 with ⟨h4, h5⟩ | ⟨g, cap, cur, h4, hb, hh, hc, hm, hsz, ht⟩
  · omega
  · refine ⟨g, cap, a, d, h4, fun i v hi => ?_, h1⟩
    obtain ⟨hil, _⟩ := List.getElem?_eq_some_iff.1 hi
    have hi8 : i < 8 := hil
    have h3 := h2 i hi8
    rw [cell_of_row _ g (j * 8 + i) _ _ _ hh]
    rw [hi, ← ht, List.getElem?_take_of_lt (by have := Nat.mul_le_mul_right 8 (show j + 1 ≤ M.length by omega); omega)] at h3
    simpa using h3
/-- Spoil of a set's data. -/
theorem spoilS_any (B : Nat) (A : Option Addr) (n c : Nat) (w : World) (h : OwnLx w B (.slice A n c) n) (hm : n ≤ 9223372036854775807) :
    Calls Try.prog 13 #[.slice A n c] w fun e w' => e = .returned (.tuple #[]) ∧ TurnS B w w' := by
  obtain ⟨us, o, r⟩ := h
  refine spoilL_any B A n c us w (by have := o.1; omega) hm (fun hn => ?_) r
  rcases o.2 with ⟨h4, h5⟩ | ⟨g, cap, cur, h4, hb, hh, hc, hm, hsz, ht⟩
  · omega
  · injection h4 with e1 _ _
    refine ⟨g, 0, cur, e1, hh, fun j u hj => ?_⟩
    rw [Nat.zero_add]
    refine (cell_of_row _ _ _ _ _ _ hh).trans ?_
    rw [← ht] at hj
    have hjl : j < n * 1 := by
      have := (List.getElem?_eq_some_iff.1 hj).1
      rw [List.length_take] at this
      omega
    rw [List.getElem?_take_of_lt hjl] at hj
    simpa using hj

set_option maxHeartbeats 4000000 in
set_option maxRecDepth 100000 in
theorem RrsetGroups_any (A : Option Addr) (L : List Rr) (c : Nat) (rank now : Int) (w : World) (hS : Rs w A L) (hk : L.length ≤ c ∧ c ≤ 9223372036854775807) (hd : ∀ x ∈ L, x.d.length ≤ 140737488351232) :
    Calls Try.prog 3 #[.slice A L.length c, .int .i64 rank, .int .i64 now] w fun e w' => e = .returned (.bool true) ∧ Below w.heap.size w w' := by
  obtain ⟨k1, k2⟩ := hk
  obtain ⟨M, hM⟩ : ∃ M, M = L.take 60 := ⟨_, rfl⟩
  have hMS : Rs w A M := by rw [hM]; exact rs_take hS 60
  have hMd : ∀ x ∈ M, x.d.length ≤ 140737488351232 := fun x hx => hd x (List.mem_of_mem_take (by rw [← hM]; exact hx))
  obtain ⟨n, hn⟩ : ∃ n, n = L.length := ⟨_, rfl⟩
  obtain ⟨m, hm⟩ : ∃ m, m = M.length := ⟨_, rfl⟩
  have hmn : m = min n 60 := by rw [hm, hM, List.length_take, hn, Nat.min_comm]
  have hmi : (min (n : Int) 60) = (m : Int) := by omega
  rw [← hn] at k1 ⊢
  have m1 : m ≤ 60 := by omega
  have m2 : m ≤ c := by omega
  have HM := Lib.hid hm
  have HS := Lib.hid hMS
  have HD := Lib.hid hMd
  clear hS hM hMS hMd hn hm hmn hd
  have RC := Lib.hid (RRs_any A M c w HS.out (by rw [← HM.out]; omega) HD.out)
  rw [← HM.out] at RC
  go_enter Try.func3, Try.ntmps3
  go_wp2_with fail
  refine RC.out.mono ?_
  rintro e w1 ⟨A1, c1, rfl, rs1, q1, q2, b1⟩
  have HR1 := Lib.hid rs1.rs
  have HB1 := Lib.hid b1
  have GC := Lib.hid (group_any A1 M c1 rank now w1 HR1.out (by rw [← HM.out]; omega))
  rw [← HM.out] at GC
  clear RC rs1 b1
  go_wp2_with fail
  refine GC.out.mono ?_
  rintro e w2 ⟨v2, rfl, o2, b2⟩
  obtain ⟨Y, hY⟩ : ∃ Y, Y = groupP rank now M := ⟨_, rfl⟩
  have DC := Lib.hid (dGroup_any A M c rank now w2 (HS.out.on (Below.trans HB1.out (b2.mono HB1.out.size))) ⟨by rw [← HM.out]; exact m2, k2⟩ (by rw [← HM.out]; omega))
  rw [← hY] at o2 DC
  rw [← HM.out] at DC
  obtain ⟨A2, c2, rfl, z1, z2⟩ := o2.form
  obtain ⟨y, hy⟩ : ∃ y, y = Y.length := ⟨_, rfl⟩
  rw [← hy] at z1 o2 ⊢
  have HY := Lib.hid hy
  have HO2 := Lib.hid o2
  have HB2 := Lib.hid b2
  clear GC o2 b2 hY hy
  go_wp2_with fail
  refine DC.out.mono ?_
  rintro e w3 ⟨v3, rfl, o3, b3⟩
  obtain ⟨A3, c3, rfl, z3, z4⟩ := o3.form
  have SM := Lib.hid (SameSets_any A2 A3 Y Y c2 c3 w3 ((HO2.out.ss).on b3) o3.ss (by rw [← HY.out]; omega))
  rw [sameL_self sameS_self, ← HY.out] at SM
  rw [← HY.out]
  have HB3 := Lib.hid b3
  clear DC o3 b3 z3
  go_wp2_with fail
  refine SM.out.mono ?_
  rintro e w5 ⟨rfl, b5⟩
  have hB25 := Below.trans HB3.out (b5.mono HB3.out.size)
  have HX := Lib.hid ((HO2.out.below hB25).xs)
  have HB15 := Lib.hid (Below.trans HB2.out (hB25.mono HB2.out.size))
  obtain ⟨B, hBe⟩ : ∃ B, B = w1.heap.size := ⟨_, rfl⟩
  have hBs : B ≤ w5.heap.size := by rw [hBe]; exact HB15.out.size
  rw [← hBe] at HX
  have HBE := Lib.hid hBe
  clear SM HO2 HB2 HB3 b5 hB25 hBe
  go_wp2_with fail
  go_loopw [31] (fun v31 ws => ∃ k : Nat, v31 = .int .i64 k ∧ k ≤ y ∧ TurnS B w5 ws) (fun v31 _ => y - (intOf v31).toNat)
  case atStart => exact ⟨0, rfl, by omega, TurnS.refl _ _⟩
  case round =>
    obtain ⟨k, rfl, hk, hT⟩ := hrel
    rename World => ws
    by_cases hlt : k < y
    · have hlt' : (k : Int) < (y : Int) := by omega
      have kY : k < Y.length := by have := HY.out; omega
      have ho := HX.out.turn hT
      rw [HY.out] at ho
      obtain ⟨g3, cc3, a3, d3, e3, hr3, hol⟩ := ho.at kY
      injection e3 with e3 e3b e3c
      subst e3
      clear e3b e3c
      generalize Y[k] = x at *
      have i2 : Hid ((Try.prog.info? 29).map (·.size) = some (stC x a3 d3).size) := Lib.hid info_st
      have j2 : Hid ((Try.prog.info? 29).map (·.size) = some (stL x a3 d3).length) := Lib.hid info_st
      have one2 := Lib.hid (st_one x a3 d3)
      have z2' : Hid ((stZ).size = (stC x a3 d3).size) := Lib.hid rfl
      have rY := row_new (w := ws) (k := ws.heap.size) (.cells stZ 29 (0, 0)) rfl
      have r6 := setRow_heap _ _ _ (stC x a3 d3) _ _ rY
      have q2' : Below ws.heap.size ws ((ws.alloc (.cells stZ 29)).setRow ws.heap.size (stC x a3 d3)) := Below.setRow (Below.alloc (Below.refl _ _) (Nat.le_refl _) _) (Nat.le_refl _) _
      rw [stZ_lit] at rY r6 q2' z2'
      obtain ⟨W4, hW4⟩ : ∃ W4, W4 = (ws.alloc (.cells #[.string ⟨#[]⟩, .int .i64 0, .int .i64 0, .int .i64 0, .int .i64 0, .int .i64 0, .string ⟨#[]⟩, .slice none 0 0] 29)).setRow ws.heap.size (stC x a3 d3) := ⟨_, rfl⟩
      rw [← hW4] at r6 q2'
      have HW4 := Lib.hid hW4
      obtain ⟨-, -, -, -, -, -, -, cy7⟩ := st_cell r6
      obtain ⟨xn, hxn⟩ : ∃ xn, xn = x.ds.length := ⟨_, rfl⟩
      rw [← hxn] at cy7 hol
      have hT5 := hT.trans (TurnS.of q2')
      have hxm : xn ≤ 9223372036854775807 := by
        obtain ⟨us, o, -⟩ := hol
        obtain ⟨A', c', h1, h2, h3⟩ := own_form o
        unfold maxLen at h3
        omega
      have SP := Lib.hid (spoilS_any B a3 xn d3 W4 (hol.turn (TurnS.of (B := B) q2')) hxm)
      have HT5 := Lib.hid hT5
      obtain ⟨D2, hD2⟩ : ∃ D2, D2 = stC x a3 d3 := ⟨_, rfl⟩
      obtain ⟨l4, hl4⟩ : ∃ l4, l4 = stL x a3 d3 := ⟨_, rfl⟩
      have hDl : D2 = l4.toArray := by rw [hD2, hl4]; rfl
      rw [← hl4] at hr3 j2
      rw [← hD2] at i2 one2 z2' HW4
      have HDL := Lib.hid hDl
      clear hW4 r6 q2' hD2 hl4 hDl hT ho hol hT5 hxn hxm HX
      go_wp2_with (first
        | (refine wpList_load_mid rfl 29 (.tmp 33) rfl g3 (k * 8) rfl l4 _ hr3 Try.underlying29 rfl j2.out ?_; rw [← HDL.out])
        | (refine wpList_store_row rfl 29 (.tmp 10) (.tmp 34) rfl ws.heap.size D2 rfl rfl 29 _ rY i2.out (by first | exact z2'.out | exact z2'.out.symm) one2.out ?_; rw [← HW4.out])
        | fail)
      refine SP.out.mono ?_
      rintro e w6 ⟨rfl, t6⟩
      have HT6 := Lib.hid (HT5.out.trans t6)
      clear SP t6 HT5 HW4 rY hr3 cy7
      go_wp2_with fail
      go_roundw
      case rel => exact ⟨k + 1, by go_num, by omega, HT6.out⟩
      case measure => simp [intOf]; omega
    · have hlt' : ¬ (k : Int) < (y : Int) := by omega
      have hBs5 := hT.below hBs
      rw [HBE.out] at hBs5
      have hBa := Below.trans HB15.out hBs5
      have SR := Lib.hid (SameRRs_any A1 A M M c1 c ws (HR1.out.on hBa) (HS.out.on (Below.trans HB1.out (hBa.mono HB1.out.size))) (by rw [← HM.out]; omega))
      rw [sameL_self sameR_self, ← HM.out] at SR
      have HBF := Lib.hid (Below.trans HB1.out (hBa.mono HB1.out.size))
      clear hT hBs5 hBa HX HB15
      go_wp2_with fail
      refine SR.out.mono ?_
      rintro e w12 ⟨rfl, b12⟩
      have HBG := Lib.hid (Below.trans HBF.out (b12.mono HBF.out.size))
      have AW := Lib.hid (awake09 w12)
      clear SR b12 HBF
      go_wp2_with fail
      refine AW.out.mono ?_
      rintro e w13 ⟨rfl, b13⟩
      have HBH := Lib.hid (Below.trans HBG.out (b13.mono HBG.out.size))
      clear AW b13 HBG
      go_wp2_with fail
      go_ret
      exact ⟨rfl, HBH.out⟩
end Go.Proofs.Ytbeggckkgaoacaa
