/-
  The walk of RrsetNegatives.
-/
import Derived.Test.YtbeggckkgaoacaaNg
import Derived.Test.YtbeggckkgaoacaaNr
import Derived.Test.YtbeggckkgaoacaaAwR
namespace Go.Proofs.Ytbeggckkgaoacaa
open Go.RowKit
set_option linter.unusedVariables false
set_option maxRecDepth 100000

def zeroS : St := ⟨[], 0, 0, 0, 0, 0, [], []⟩
def negR (qn : Bs) (qt qc kind : Int) (r : Rr) (now : Int) : St := if negB qn qt qc kind r now then negS qn qt qc kind r now else zeroS
def negE (qn : Bs) (qt qc kind : Int) (r : Rr) (now : Int) : Int := if negB qn qt qc kind r now then 0 else 1
theorem stC_zero : stC zeroS none 0 = stZ := rfl
theorem NegPost.one {w : World} {qn : Bs} {qt qc kind : Int} {r : Rr} {now : Int} {e : Ending} {w' : World} (h : NegPost w qn qt qc kind r now e w') :
    Below w.heap.size w w' ∧ ∃ A c, e = .returned (.tuple #[.agg (stC (negR qn qt qc kind r now) A c), .int .i64 (negE qn qt qc kind r now)]) ∧ Byss w' A (negR qn qt qc kind r now).ds := by
  obtain ⟨hB, h⟩ := h
  refine ⟨hB, ?_⟩
  unfold negR negE
  rcases h with ⟨h1, h2⟩ | ⟨h1, A, c, h2, h3⟩
  · rw [h1]
    exact ⟨none, 0, h2, byss_nil _⟩
  · rw [h1]
    exact ⟨A, c, h2, h3⟩
theorem negR_len (qn : Bs) (qt qc kind : Int) (r : Rr) (now : Int) : (negR qn qt qc kind r now).ds.length ≤ 9223372036854775807 := by
  unfold negR
  split
  · show 1 ≤ _; omega
  · show 0 ≤ _; omega

attribute [local go_sem ↓] exec_storeSt exec_loadSt
set_option maxHeartbeats 4000000 in
set_option maxRecDepth 100000 in
theorem RrsetNegatives_any (qn : Bs) (qt qc kind : Int) (r : Rr) (A : Option Addr) (c : Nat) (now : Int) (w : World) (hD : Dat w A c r.d) (hdl : r.d.length ≤ 140737488351232) (hnl : r.n.length ≤ 140737488351232) (hql : qn.length ≤ 140737488351232) :
    Calls Try.prog 5 #[.agg #[.string (bs qn), .int .i64 qt, .int .i64 qc], .int .i64 kind, .agg (rrC r A c), .int .i64 now] w fun e w' => e = .returned (.bool true) ∧ Below w.heap.size w w' := by
  have info_qu9 : (Try.prog.info? 42).map (·.size) = some 3 := by kernel_rfl
  have r4 := row_old (.cells (rrC r A c) 39 (0, 0)) (row_new (w := w) (k := w.heap.size) (.cells #[.string (bs qn), .int .i64 qt, .int .i64 qc] 42 (0, 0)) rfl)
  have r6 := row_new (w := w.alloc (.cells #[.string (bs qn), .int .i64 qt, .int .i64 qc] 42 (0, 0))) (k := w.heap.size + 1) (.cells (rrC r A c) 39 (0, 0)) (by simp)
  have b0 : Below w.heap.size w ((w.alloc (.cells #[.string (bs qn), .int .i64 qt, .int .i64 qc] 42 (0, 0))).alloc (.cells (rrC r A c) 39 (0, 0))) := Below.alloc (Below.alloc (Below.refl _ _) (Nat.le_refl _) _) (by simp) _
  obtain ⟨W0, hW0⟩ : ∃ W0, W0 = (w.alloc (.cells #[.string (bs qn), .int .i64 qt, .int .i64 qc] 42 (0, 0))).alloc (.cells (rrC r A c) 39 (0, 0)) := ⟨_, rfl⟩
  have hz : W0.heap.size = w.heap.size + 2 := by rw [hW0]; simp
  rw [← hW0] at r4 r6 b0
  have D0 := hD.on b0
  have NA := Lib.hid (fun (W : World) (h : Below W0.heap.size W0 W) => negative_any qn qt qc kind r A c now W (D0.on h) hdl hnl hql)
  have NB := Lib.hid (fun (W : World) (h : Below W0.heap.size W0 W) => negative_ref qn qt qc kind r A c now W (D0.on h) hdl hnl hql)
  have I6 : Hid ((Try.prog.info? 39).map (·.size) = some (rrC r A c).size) := Lib.hid info_rr
  have I4 : Hid ((Try.prog.info? 42).map (·.size) = some (#[.string (bs qn), .int .i64 qt, .int .i64 qc] : Array Value).size) := Lib.hid info_qu9
  have HSL := Lib.hid (negR_len qn qt qc kind r now)
  obtain ⟨C, hC⟩ : ∃ C, C = rrC r A c := ⟨_, rfl⟩
  rw [← hC] at NA NB hW0 r6 I6 ⊢
  have HW0 := Lib.hid hW0
  have HB0 := Lib.hid b0
  have R4 := Lib.hid r4
  have R6 := Lib.hid r6
  have HZ := Lib.hid hz
  clear hD D0 hC hW0 b0 r4 r6 hz info_qu9
  go_enter Try.func5, Try.ntmps5
  go_wp2_with (first
    | rw [← HW0.out]
    | (refine wpList_load_row rfl 42 (.tmp 4) rfl w.heap.size rfl 42 _ (0, 0) _ R4.out Try.underlying42 rfl I4.out ?_)
    | (refine wpList_load_row rfl 39 (.tmp 6) rfl (w.heap.size + 1) rfl 39 C (0, 0) _ R6.out Try.underlying39 rfl I6.out ?_)
    | fail)
  refine (NA.out _ (Below.refl _ _)).mono ?_
  intro e w1 hp
  obtain ⟨b1, A1, c1, rfl, by1⟩ := hp.one
  obtain ⟨S, hS⟩ : ∃ S, S = negR qn qt qc kind r now := ⟨_, rfl⟩
  obtain ⟨E, hE⟩ : ∃ E, E = negE qn qt qc kind r now := ⟨_, rfl⟩
  have NB2 : Hid (∀ (W : World), Below W0.heap.size W0 W → Calls Try.prog 23 #[.agg #[.string (bs qn), .int .i64 qt, .int .i64 qc], .int .i64 kind, .agg C, .int .i64 now] W fun e w' => Below W.heap.size W w' ∧ ∃ A c, e = .returned (.tuple #[.agg (stC S A c), .int .i64 E]) ∧ Byss w' A S.ds) := Lib.hid (fun W h => (NB.out W h).mono fun e w' hp => by rw [hS, hE]; exact hp.one)
  rw [← hS] at by1 HSL ⊢
  rw [← hE]
  have rZ := row_new (w := w1) (k := w1.heap.size) (.cells stZ 29 (0, 0)) rfl
  have r9 := setRow_heap _ _ _ (stC S A1 c1) _ _ rZ
  have q1 : Below w1.heap.size w1 ((w1.alloc (.cells stZ 29)).setRow w1.heap.size (stC S A1 c1)) := Below.setRow (Below.alloc (Below.refl _ _) (Nat.le_refl _) _) (Nat.le_refl _) _
  rw [stZ_lit] at rZ r9 q1
  have ST1 := storeSt_row (D := stC S A1 c1) rZ info_st rfl (st_one S A1 c1)
  obtain ⟨W2, hW2⟩ : ∃ W2, W2 = (w1.alloc (.cells #[.string ⟨#[]⟩, .int .i64 0, .int .i64 0, .int .i64 0, .int .i64 0, .int .i64 0, .string ⟨#[]⟩, .slice none 0 0] 29)).setRow w1.heap.size (stC S A1 c1) := ⟨_, rfl⟩
  rw [← hW2] at r9 q1
  have by2 := by1.on q1
  have b02 := Below.trans b1 (q1.mono b1.size)
  obtain ⟨D, hDe⟩ : ∃ D, D = stC S A1 c1 := ⟨_, rfl⟩
  rw [← hDe] at r9 ST1 hW2 ⊢
  have HW2 := Lib.hid hW2
  have HDE := Lib.hid hDe
  have R9 := Lib.hid r9
  have BY2 := Lib.hid by2
  have B02 := Lib.hid b02
  have R42 := Lib.hid ((b02.block _ (Array.getElem?_eq_some_iff.1 R4.out).1).trans R4.out)
  have R62 := Lib.hid ((b02.block _ (Array.getElem?_eq_some_iff.1 R6.out).1).trans R6.out)
  clear hp by1 b1 rZ r9 q1 hW2 by2 b02 hDe NA NB hS hE
  go_wp2_with (first
    | rw [← HW2.out]
    | (refine wpList_load_row rfl 42 (.tmp 4) rfl w.heap.size rfl 42 _ (0, 0) _ R42.out Try.underlying42 rfl I4.out ?_)
    | (refine wpList_load_row rfl 39 (.tmp 6) rfl (w.heap.size + 1) rfl 39 C (0, 0) _ R62.out Try.underlying39 rfl I6.out ?_)
    | fail)
  refine (NB2.out _ B02.out).mono ?_
  rintro e w3 ⟨b3, A3, c3, rfl, by3⟩
  clear ST1
  have rY := row_new (w := w3) (k := w3.heap.size) (.cells stZ 29 (0, 0)) rfl
  have r11 := setRow_heap _ _ _ (stC S A3 c3) _ _ rY
  have q3 : Below w3.heap.size w3 ((w3.alloc (.cells stZ 29)).setRow w3.heap.size (stC S A3 c3)) := Below.setRow (Below.alloc (Below.refl _ _) (Nat.le_refl _) _) (Nat.le_refl _) _
  rw [stZ_lit] at rY r11 q3
  have ST3 := storeSt_row (D := stC S A3 c3) rY info_st rfl (st_one S A3 c3)
  obtain ⟨W4, hW4⟩ : ∃ W4, W4 = (w3.alloc (.cells #[.string ⟨#[]⟩, .int .i64 0, .int .i64 0, .int .i64 0, .int .i64 0, .int .i64 0, .string ⟨#[]⟩, .slice none 0 0] 29)).setRow w3.heap.size (stC S A3 c3) := ⟨_, rfl⟩
  rw [← hW4] at r11 q3
  have b24 := Below.trans b3 (q3.mono b3.size)
  have SM := Lib.hid (dSame_any S S A1 A3 c1 c3 W4 (BY2.out.on b24) (by3.on q3) HSL.out)
  rw [sameS_self] at SM
  have r94 := (b24.block _ (Array.getElem?_eq_some_iff.1 R9.out).1).trans R9.out
  rw [← HDE.out] at SM
  obtain ⟨E3, hE3⟩ : ∃ E3, E3 = stC S A3 c3 := ⟨_, rfl⟩
  rw [← hE3] at r11 ST3 hW4 SM ⊢
  have I9 : (Try.prog.info? 29).map (·.size) = some D.size := by rw [HDE.out]; exact info_st
  have I11 : (Try.prog.info? 29).map (·.size) = some E3.size := by rw [hE3]; exact info_st
  have LD9 := loadSt_row r94 I9
  have LD11 := loadSt_row r11 I11
  have HW4 := Lib.hid hW4
  have HB4 := Lib.hid (Below.trans HB0.out ((Below.trans B02.out (b24.mono B02.out.size)).mono HB0.out.size))
  have hEE : (E == E) = true := by simp
  clear b3 by3 rY r11 q3 hW4 b24 r94 hE3 I9 I11 NB2
  go_wp2_with (first | rw [← HW4.out] | fail)
  refine SM.out.mono ?_
  rintro e w5 ⟨rfl, b5⟩
  have AW := Lib.hid (awake09 w5)
  clear SM LD9 LD11 ST3
  go_wp2_with fail
  refine AW.out.mono ?_
  rintro e w6 ⟨rfl, b6⟩
  have HB6 := Lib.hid (Below.trans HB4.out ((Below.trans b5 (b6.mono b5.size)).mono HB4.out.size))
  clear AW b5 b6
  go_wp2_with fail
  go_ret
  exact ⟨rfl, HB6.out⟩
end Go.Proofs.Ytbeggckkgaoacaa
