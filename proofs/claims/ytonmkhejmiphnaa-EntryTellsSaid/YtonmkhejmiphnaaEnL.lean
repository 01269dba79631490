/-
  The walk of EntrySame.
-/
import Derived.Test.YtonmkhejmiphnaaEnK
import Derived.Test.YtonmkhejmiphnaaEnP
import Derived.Deep.RegionHeld3
namespace Go.Proofs.Ytonmkhejmiphnaa
open Go.RowKit
set_option linter.unusedVariables false
set_option maxRecDepth 100000
attribute [local go_sem ↓] exec_loadSt

/-- Two sets in rows of their own, and all they lead to. -/
structure SS (w : World) (g2 g3 : Nat) (la lb : Array Value) (u v : Option Addr) (a b : St) (w' : World) : Prop where
  r2 : w'.heap[g2]? = some (.cells la 24 (0, 0))
  r3 : w'.heap[g3]? = some (.cells lb 24 (0, 0))
  ma : Byss w' u a.ds
  mb : Byss w' v b.ds
  bel : Below w.heap.size w w'
  big : w.heap.size ≤ w'.heap.size
theorem SS.on {w : World} {g2 g3 : Nat} {la lb : Array Value} {u v : Option Addr} {a b : St} {w1 w2 : World} (h : SS w g2 g3 la lb u v a b w1) (hB : Below w1.heap.size w1 w2) : SS w g2 g3 la lb u v a b w2 :=
  ⟨(hB.block _ (Array.getElem?_eq_some_iff.1 h.r2).1).trans h.r2, (hB.block _ (Array.getElem?_eq_some_iff.1 h.r3).1).trans h.r3, h.ma.on hB, h.mb.on hB, Below.trans h.bel (hB.mono h.big), Nat.le_trans h.big hB.size⟩
theorem SS.drew {w : World} {g2 g3 : Nat} {la lb : Array Value} {u v : Option Addr} {a b : St} {w1 : World} (h : SS w g2 g3 la lb u v a b w1) : SS w g2 g3 la lb u v a b w1.drew :=
  h.on (Below.drew (Below.refl _ _))

set_option maxHeartbeats 4000000 in
set_option maxRecDepth 100000 in
theorem EntrySame_any (a b : St) (u v : Option Addr) (c d : Nat) (w : World) (hA : Byss w u a.ds) (hB : Byss w v b.ds) (ra : Reach8 a) :
    Calls Try.prog 6 #[.agg (stC a u c), .agg (stC b v d)] w fun e w' => e = .returned (.bool true) ∧ Below w.heap.size w w' := by
  have hl := ra.sized.l
  have C1 := Lib.hid (fun W (h : SS w w.heap.size (w.heap.size + 1) (stC a u c) (stC b v d) u v a b W) => eSame_any a b u v c d W h.ma h.mb (by omega))
  have C2 := Lib.hid (fun W (h : SS w w.heap.size (w.heap.size + 1) (stC a u c) (stC b v d) u v a b W) => dSame_any a b u v c d W h.ma h.mb (by omega))
  have C4 := Lib.hid (fun W (h : SS w w.heap.size (w.heap.size + 1) (stC a u c) (stC b v d) u v a b W) => dCopy_any a u c W h.ma ra.l ra.d)
  have C5 := Lib.hid (fun W u' c' (h : SS w w.heap.size (w.heap.size + 1) (stC a u c) (stC b v d) u v a b W) (hu : Byss W u' a.ds) => by have := eSame_any a a u u' c c' W h.ma hu (by omega); rw [sameS_self] at this; exact this)
  have r2 := row_old (.cells (stC b v d) 24 (0, 0)) (row_new (w := w) (k := w.heap.size) (.cells (stC a u c) 24 (0, 0)) rfl)
  have r3 := row_new (w := w.alloc (.cells (stC a u c) 24 (0, 0))) (k := w.heap.size + 1) (.cells (stC b v d) 24 (0, 0)) (by simp)
  have bw : Below w.heap.size w ((w.alloc (.cells (stC a u c) 24 (0, 0))).alloc (.cells (stC b v d) 24 (0, 0))) := Below.alloc (Below.alloc (Below.refl _ _) (Nat.le_refl _) _) (by simp) _
  have S0 : SS w w.heap.size (w.heap.size + 1) (stC a u c) (stC b v d) u v a b ((w.alloc (.cells (stC a u c) 24 (0, 0))).alloc (.cells (stC b v d) 24 (0, 0))) := ⟨r2, r3, hA.on bw, hB.on bw, bw, bw.size⟩
  have F2 : ∀ W, SS w w.heap.size (w.heap.size + 1) (stC a u c) (stC b v d) u v a b W → loadSt (.pointer (some ⟨w.heap.size, 0, none⟩)) W = .ok (.value (.agg (stC a u c))) W := fun W h => loadSt_row h.r2 info_st
  have F3 : ∀ W, SS w w.heap.size (w.heap.size + 1) (stC a u c) (stC b v d) u v a b W → loadSt (.pointer (some ⟨w.heap.size + 1, 0, none⟩)) W = .ok (.value (.agg (stC b v d))) W := fun W h => loadSt_row h.r3 info_st
  clear r2 r3 bw hA hB ra hl
  generalize hla : stC a u c = la at *
  generalize hlb : stC b v d = lb at *
  clear hla hlb
  generalize sameS a b = s at *
  have hss : (s == s) = true := by simp
  go_enter Try.func6, Try.ntmps6
  go_wp2_with fail
  generalize (w.alloc (.cells la 24 (0, 0))).alloc (.cells lb 24 (0, 0)) = W0 at *
  go_region_held3 (fun w' => SS w w.heap.size (w.heap.size + 1) la lb u v a b w')
    (first | assumption | exact SS.drew (by assumption) | exact SS.on (by assumption) (by assumption))
    (first
      | (go_at_call 15; (with_reducible refine (C1.out _ (by assumption)).mono ?_); rintro e w' ⟨rfl, hBx⟩)
      | (go_at_call 20; (with_reducible refine (C2.out _ (by assumption)).mono ?_); rintro e w' ⟨rfl, hBx⟩)
      | (go_at_call 9; (with_reducible refine (C4.out _ (by assumption)).mono ?_); rintro e w' ⟨u', c', rfl, hMs, _, _, _, hBx⟩)
      | (go_at_call 15; (with_reducible refine (C5.out _ _ _ (by assumption) (by assumption)).mono ?_); rintro e w' ⟨rfl, hBx⟩)
      | (go_at_call 16; (with_reducible refine (awakeE _).mono ?_); rintro e w' ⟨rfl, hBx⟩))
  go_wp2_with fail
  go_ret
  exact ⟨rfl, SS.bel (g2 := w.heap.size) (g3 := w.heap.size + 1) (la := la) (lb := lb) (a := a) (b := b) (u := u) (v := v) (by assumption)⟩
end Go.Proofs.Ytonmkhejmiphnaa
