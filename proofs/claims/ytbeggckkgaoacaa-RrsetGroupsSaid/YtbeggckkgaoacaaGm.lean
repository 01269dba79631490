/-
  The document's may and one.
-/
import Derived.Test.YtbeggckkgaoacaaRrB
import Derived.Test.YtbeggckkgaoacaaNmRb
import Derived.Test.YtbeggckkgaoacaaGc
namespace Go.Proofs.Ytbeggckkgaoacaa
open Go.RowKit
set_option linter.unusedVariables false
set_option maxRecDepth 100000

def sameK (a b : Rr) : Bool := same a.n b.n && (decide (a.t = b.t) && decide (a.c = b.c))
theorem sameK_is {a b : Rr} (ha : can a.n = true) (hb : can b.n = true) : sameK a b = isK (keyR b) a := by
  unfold sameK isK keyR same lower
  rw [ha, hb]
  by_cases h1 : low a.n = low b.n
  · by_cases h2 : a.t = b.t
    · by_cases h3 : a.c = b.c
      · simp [h1, h2, h3]
      · simp [h1, h2, h3]
    · simp [h1, h2]
  · simp [h1]

set_option maxHeartbeats 1000000 in
theorem may_any (r : Rr) (A : Option Addr) (c : Nat) (w : World) (hd : Dat w A c r.d) : Calls Try.prog 37 #[.agg (rrC r A c)] w fun e w' => e = .returned (.bool (canRR r)) ∧ Below w.heap.size w w' := by
  have r1 := row_new (w := w) (k := w.heap.size) (.cells (rrC r A c) 39 (0, 0)) rfl
  have b0 : Below w.heap.size w (w.alloc (.cells (rrC r A c) 39 (0, 0))) := Below.alloc (Below.refl _ _) (Nat.le_refl _) _
  obtain ⟨c0, c1, c2, -, c4⟩ := rr_cell r1
  have HD := Lib.hid (hd.on b0)
  have E1 := Lib.hid (fun W => rCan_any r.n W)
  have E4 := Lib.hid (fun W (h : Dat W A c r.d) => rCanD_any r.t A r.d c W h.bys h.le h.max)
  have HR : Hid (canRR r = (can r.n && (rangeN 1 r.t && (rangeN 0 r.c && canD r.t r.d)))) := Lib.hid rfl
  have HR1 : Hid (∀ t : Int, rangeN 1 t = decide (1 ≤ t ∧ t ≤ 65535)) := Lib.hid (fun _ => rfl)
  have HR0 : Hid (∀ t : Int, rangeN 0 t = decide (0 ≤ t ∧ t ≤ 65535)) := Lib.hid (fun _ => rfl)
  generalize canRR r = R at *
  generalize can r.n = k1 at *
  generalize canD r.t r.d = k4 at *
  clear r1 hd
  generalize rrC r A c = C at *
  go_enter Try.func37, Try.ntmps37
  go_wp2_with fail
  generalize w.alloc (.cells C 39) = W0 at *
  refine (E1.out _).mono ?_
  rintro e w1 ⟨rfl, rfl⟩
  have HB := Lib.hid b0
  clear E1 c0 b0
  cases k1 with
  | false =>
    go_wp2_with fail
    go_ret
    exact ⟨by rw [HR.out]; rfl, HB.out⟩
  | true =>
    by_cases h1 : 1 ≤ r.t
    · by_cases h2 : r.t ≤ 65535
      · by_cases h3 : 0 ≤ r.c
        · by_cases h4 : r.c ≤ 65535
          · have HF : Hid (R = k4) := Lib.hid (by rw [HR.out, HR1.out, HR0.out]; simp [h1, h2, h3, h4])
            go_wp2_with fail
            refine (E4.out _ HD.out).mono ?_
            rintro e w2 ⟨rfl, b2⟩
            have bc := Below.trans HB.out (b2.mono HB.out.size)
            go_wp2_with fail
            go_ret
            exact ⟨by rw [HF.out]; rfl, bc⟩
          · have HF : Hid (R = false) := Lib.hid (by rw [HR.out, HR1.out, HR0.out]; simp [h4])
            go_wp2_with fail
            go_ret
            exact ⟨by rw [HF.out]; rfl, HB.out⟩
        · have HF : Hid (R = false) := Lib.hid (by rw [HR.out, HR1.out, HR0.out]; simp [h3])
          go_wp2_with fail
          go_ret
          exact ⟨by rw [HF.out]; rfl, HB.out⟩
      · have HF : Hid (R = false) := Lib.hid (by rw [HR.out, HR1.out, HR0.out]; simp [h2])
        go_wp2_with fail
        go_ret
        exact ⟨by rw [HF.out]; rfl, HB.out⟩
    · have HF : Hid (R = false) := Lib.hid (by rw [HR.out, HR1.out, HR0.out]; simp [h1])
      go_wp2_with fail
      go_ret
      exact ⟨by rw [HF.out]; rfl, HB.out⟩

set_option maxHeartbeats 1000000 in
theorem one_any (a b : Rr) (A B : Option Addr) (c d : Nat) (w : World) : Calls Try.prog 38 #[.agg (rrC a A c), .agg (rrC b B d)] w fun e w' => e = .returned (.bool (sameK a b)) ∧ Below w.heap.size w w' := by
  have r2 := row_old (.cells (rrC b B d) 39 (0, 0)) (row_new (w := w) (k := w.heap.size) (.cells (rrC a A c) 39 (0, 0)) rfl)
  have r3 := row_new (w := w.alloc (.cells (rrC a A c) 39 (0, 0))) (k := w.heap.size + 1) (.cells (rrC b B d) 39 (0, 0)) (by simp)
  have b0 : Below w.heap.size w ((w.alloc (.cells (rrC a A c) 39 (0, 0))).alloc (.cells (rrC b B d) 39 (0, 0))) := Below.alloc (Below.alloc (Below.refl _ _) (Nat.le_refl _) _) (by simp) _
  obtain ⟨a0, a1, a2, -, -⟩ := rr_cell r2
  obtain ⟨d0, d1, d2, -, -⟩ := rr_cell r3
  have E1 := Lib.hid (fun W => rSame_any a.n b.n W)
  have HR : Hid (sameK a b = (same a.n b.n && (decide (a.t = b.t) && decide (a.c = b.c)))) := Lib.hid rfl
  generalize sameK a b = R at *
  generalize same a.n b.n = k1 at *
  clear r2 r3
  generalize rrC a A c = C at *
  generalize rrC b B d = D at *
  go_enter Try.func38, Try.ntmps38
  go_wp2_with fail
  generalize (w.alloc (.cells C 39)).alloc (.cells D 39) = W0 at *
  refine (E1.out _).mono ?_
  rintro e w1 ⟨rfl, b1⟩
  replace a1 := cell_on a1 b1
  replace a2 := cell_on a2 b1
  replace d1 := cell_on d1 b1
  replace d2 := cell_on d2 b1
  have HB := Lib.hid (Below.trans b0 (b1.mono b0.size))
  clear b1 b0 E1 a0 d0
  cases k1 with
  | false =>
    go_wp2_with fail
    go_ret
    exact ⟨by rw [HR.out]; rfl, HB.out⟩
  | true =>
    by_cases h1 : a.t = b.t
    · by_cases h2 : a.c = b.c
      · have HF : Hid (R = true) := Lib.hid (by rw [HR.out]; simp [h1, h2])
        go_wp2_with fail
        go_ret
        exact ⟨by rw [HF.out]; rfl, HB.out⟩
      · have e2 : (a.c == b.c) = false := by simpa using h2
        have HF : Hid (R = false) := Lib.hid (by rw [HR.out]; simp [h2])
        go_wp2_with fail
        go_ret
        exact ⟨by rw [HF.out]; rfl, HB.out⟩
    · have e1 : (a.t == b.t) = false := by simpa using h1
      have HF : Hid (R = false) := Lib.hid (by rw [HR.out]; simp [h1])
      go_wp2_with fail
      go_ret
      exact ⟨by rw [HF.out]; rfl, HB.out⟩
end Go.Proofs.Ytbeggckkgaoacaa
