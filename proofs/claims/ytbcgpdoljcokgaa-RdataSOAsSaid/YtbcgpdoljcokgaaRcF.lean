/-
  The walk of RdataTells.
-/
import Derived.Test.YtbcgpdoljcokgaaRcC
namespace Go.Proofs.Ytbcgpdoljcokgaa
open Go.RowKit
set_option linter.unusedVariables false

theorem Below.next {B : Nat} {w w1 w2 : World} (h : Below B w w1) (hs : B ≤ w1.heap.size) (k : Below w1.heap.size w1 w2) : Below B w w2 ∧ B ≤ w2.heap.size := ⟨Below.trans h (k.mono hs), Nat.le_trans hs k.size⟩
theorem canD_1234 : canD 1 [1, 2, 3, 4] = true := by rw [canD_in (by simp)]; simp
theorem bys_1234 {w : World} {t : TypeId} {k : Nat} (hk : k = w.heap.size) : Bys (w.alloc (.cells #[.int .u8 1, .int .u8 2, .int .u8 3, .int .u8 4] t)) (some ⟨k, 0, none⟩) [1, 2, 3, 4] := fun _ => by
  subst hk
  refine ⟨_, 0, rfl, fun j hj => ?_⟩
  have hr := row_new (w := w) (k := w.heap.size) (.cells #[.int .u8 1, .int .u8 2, .int .u8 3, .int .u8 4] t (0, 0)) rfl
  refine (cell_of_row _ _ _ _ _ _ hr).trans ?_
  simp at hj
  match j, hj with
  | 0, _ => rfl
  | 1, _ => rfl
  | 2, _ => rfl
  | 3, _ => rfl
/-- 'Can(1, []byte{1, 2, 3, 4})'. -/
theorem awakeD {w : World} {t : TypeId} : Calls Try.prog 10 #[.int .i64 1, .slice (some ⟨w.heap.size, 0, none⟩) 4 4] (w.alloc (.cells #[.int .u8 1, .int .u8 2, .int .u8 3, .int .u8 4] t)) fun e w' => e = .returned (.bool true) ∧ Below w.heap.size w w' := by
  have h := dCan_any 1 (some ⟨w.heap.size, 0, none⟩) [1, 2, 3, 4] 4 (w.alloc (.cells #[.int .u8 1, .int .u8 2, .int .u8 3, .int .u8 4] t)) (bys_1234 rfl) (by simp) (by omega)
  rw [canD_1234] at h
  exact h.mono fun e w' ⟨he, hb⟩ => ⟨he, Below.trans (Below.alloc (Below.refl _ _) (Nat.le_refl _) _) (hb.mono (by simp))⟩
theorem namesD_few (t : Int) (l : Bs) : (namesD t l).length ≤ 2 := by
  unfold namesD
  split
  · split
    · simp
    split
    · simp
    split
    · split <;> simp
    · simp
  · simp

set_option maxHeartbeats 4000000 in
set_option maxRecDepth 100000 in
theorem Tells_any (t : Int) (A : Option Addr) (l : Bs) (c : Nat) (w : World) (hS : Bys w A l) (hc : l.length ≤ c) (hcm : c ≤ 9223372036854775807) (hl : l.length ≤ 140737488351232) (hin : ∀ p, A = some p → 0 < l.length → p.block < w.heap.size) :
    Calls Try.prog 3 #[.int .i64 t, .slice A l.length c] w fun e w' => e = .returned (.bool true) ∧ Below w.heap.size w w' := by
  have K := Lib.hid (CloneB_any A l l.length c w hS rfl hl hin)
  have C1 := Lib.hid (fun B d W (hW : Bys W B l) (h1 : l.length ≤ d) (h2 : d ≤ 9223372036854775807) => dCan_any t B l d W hW h1 h2)
  have C2 := Lib.hid (fun W (hW : Bys W A l) => rCanD_any t A l c W hW hc hcm)
  have C3 := Lib.hid (fun B d W (hW : Bys W B l) (h1 : l.length ≤ d) (h2 : d ≤ 9223372036854775807) => dNames_any t B l d W hW h1 h2)
  have C4 := Lib.hid (fun W (hW : Bys W A l) => rNames_any t A l c W hW hc hcm)
  have C5 := Lib.hid (fun B D n d W (hW : Bys W B l) (hX : Bys W D l) => EqualB_any B D l l l.length l.length n d W hW hX rfl rfl)
  have hfew := namesD_few t l
  generalize canD t l = s at *
  generalize namesD t l = L at *
  have C6 := Lib.hid (fun B D n d W (hW : Strs W B L) (hX : Strs W D L) => EqualS_any B D L L L.length L.length n d W hW hX rfl rfl (by omega))
  have e1 : (s == s) = true := by simp
  have e2 : (L == L) = true := by simp
  have e3 : (l == l) = true := by simp
  rw [e2] at C6
  rw [e3] at C5
  clear e2 e3 hfew hin
  go_enter Try.func3, Try.ntmps3
  go_wp2_with fail
  refine K.out.mono ?_
  rintro e w1 ⟨v, rfl, hown, b1⟩
  obtain ⟨B, d, rfl, hB, hd, hdm⟩ := hown.bys
  have hdm' : d ≤ 9223372036854775807 := by unfold maxLen at hdm; omega
  have s1 := b1.size
  clear hown K hdm
  go_wp2_with fail
  refine (C1.out B d _ hB hd hdm').mono ?_
  rintro e w2 ⟨rfl, b2⟩
  have hB2 := hB.on b2
  obtain ⟨b2, s2⟩ := Below.next b1 s1 b2
  clear b1 s1 hB
  go_wp2_with fail
  refine (C2.out _ (hS.on b2)).mono ?_
  rintro e w3 ⟨rfl, b3⟩
  have hB3 := hB2.on b3
  obtain ⟨b3, s3⟩ := Below.next b2 s2 b3
  clear b2 s2 hB2
  go_wp2_with fail
  refine (C3.out B d _ hB3 hd hdm').mono ?_
  rintro e w4 ⟨B4, d4, rfl, st4, _, b4⟩
  have hB4 := hB3.on b4
  obtain ⟨b4, s4⟩ := Below.next b3 s3 b4
  clear b3 s3 hB3
  go_wp2_with fail
  refine (C4.out _ (hS.on b4)).mono ?_
  rintro e w5 ⟨B5, d5, rfl, st5, _, b5⟩
  have hB5 := hB4.on b5
  have st4' := st4.on b5
  obtain ⟨b5, s5⟩ := Below.next b4 s4 b5
  clear b4 s4 hB4 st4
  go_wp2_with fail
  refine (C6.out B4 B5 _ _ _ st4' st5).mono ?_
  rintro e w6 ⟨rfl, b6⟩
  have hB6 := hB5.on b6
  obtain ⟨b6, s6⟩ := Below.next b5 s5 b6
  clear b5 s5 hB5 st4' st5
  go_wp2_with fail
  refine (C5.out B A _ _ _ hB6 (hS.on b6)).mono ?_
  rintro e w7 ⟨rfl, rfl⟩
  go_wp2_with fail
  refine awakeD.mono ?_
  rintro e w8 ⟨rfl, b8⟩
  obtain ⟨b8, s8⟩ := Below.next b6 s6 b8
  go_wp2_with fail
  go_ret
  exact ⟨rfl, b8⟩
end Go.Proofs.Ytbcgpdoljcokgaa
