/-
  The walk of WireSame.
-/
import Derived.Test.YtbcgpdoljcokgabWmI
import Derived.Deep.RegionHeld3
namespace Go.Proofs.Ytbcgpdoljcokgab
open Go.RowKit
set_option linter.unusedVariables false

/-- Two messages in rows of their own, and all they lead to. -/
structure SS (w : World) (g2 g3 : Nat) (la lb : Array Value) (a b : Msg) (u v : MV) (w' : World) : Prop where
  r2 : w'.heap[g2]? = some (.cells la 27 (0, 0))
  r3 : w'.heap[g3]? = some (.cells lb 27 (0, 0))
  ma : Ms w' a u
  mb : Ms w' b v
  bel : Below w.heap.size w w'
  big : w.heap.size ≤ w'.heap.size
theorem SS.on {w : World} {g2 g3 : Nat} {la lb : Array Value} {a b : Msg} {u v : MV} {w1 w2 : World} (h : SS w g2 g3 la lb a b u v w1) (hB : Below w1.heap.size w1 w2) : SS w g2 g3 la lb a b u v w2 :=
  ⟨(hB.block _ (Array.getElem?_eq_some_iff.1 h.r2).1).trans h.r2, (hB.block _ (Array.getElem?_eq_some_iff.1 h.r3).1).trans h.r3, h.ma.on hB, h.mb.on hB, Below.trans h.bel (hB.mono h.big), Nat.le_trans h.big hB.size⟩
theorem SS.drew {w : World} {g2 g3 : Nat} {la lb : Array Value} {a b : Msg} {u v : MV} {w1 : World} (h : SS w g2 g3 la lb a b u v w1) : SS w g2 g3 la lb a b u v w1.drew :=
  h.on (Below.drew (Below.refl _ _))
/-- A message loaded whole: the walk does not open it. -/
noncomputable def loadMs (v : Value) (w : World) : Result Next := ((Instr.loadAt 27 v).run Try.prog w).andThen fun a w' => .ok (.value a) w'
theorem exec_loadMs (ev : Operand → Value) (d : Option Tmp) (x : Operand) (t : TypeId) (p : String) (f : Array Edge) (gd : Option (Nat × Bool)) (w : World) : (execOp ev { dst := d, op := .load 27 x, type := t, pos := p, after := f, guard := gd }).run Try.prog w = loadMs (ev x) w := by
  unfold execOp loadMs
  simp only [Sem.run_bind, Sem.run_pure]
theorem loadMs_row {w1 : World} {g : Nat} {C : Array Value} (h : w1.heap[g]? = some (.cells C 27 (0, 0))) (hC : (Try.prog.info? 27).map (·.size) = some C.size) : loadMs (.pointer (some ⟨g, 0, none⟩)) w1 = .ok (.value (.agg C)) w1 := by
  unfold loadMs
  simp only [Instr.loadAt, Instr.sureAddr, Sem.run_bind, Sem.run_pure, Result.andThen_ok, run_loadVar_row w1 g 27 27 C (0, 0) _ h Try.underlying27 rfl hC]
attribute [local go_sem ↓] exec_loadMs

set_option maxHeartbeats 4000000 in
set_option maxRecDepth 100000 in
theorem WireSame_any (a b : Msg) (u v : MV) (w : World) (hA : Ms w a u) (hB : Ms w b v) (h1 : b.q.length * 32 ≤ 140737488351232) (h2 : ∀ L, L = b.an ∨ L = b.au ∨ L = b.ad → L.length * 64 ≤ 140737488351232 ∧ ∀ x ∈ L, x.d.length ≤ 140737488351232) :
    Calls Try.prog 3 #[.agg (msL a u).toArray, .agg (msL b v).toArray] w fun e w' => e = .returned (.bool true) ∧ Below w.heap.size w w' := by
  have C1 := Lib.hid (fun W (h : SS w w.heap.size (w.heap.size + 1) (msL a u).toArray (msL b v).toArray a b u v W) => Same_msg a b u v W h.ma h.mb)
  have C2 := Lib.hid (fun W (h : SS w w.heap.size (w.heap.size + 1) (msL a u).toArray (msL b v).toArray a b u v W) => SameMessage_msg a b u v W h.ma h.mb)
  have C3 := Lib.hid (fun W (h : SS w w.heap.size (w.heap.size + 1) (msL a u).toArray (msL b v).toArray a b u v W) => by have := Same_msg a a u u W h.ma h.ma; rw [sameM_self] at this; exact this)
  have C4 := Lib.hid (fun W (h : SS w w.heap.size (w.heap.size + 1) (msL a u).toArray (msL b v).toArray a b u v W) => Message_any b v W h.mb h1 h2)
  have C5 := Lib.hid (fun W u' (h : SS w w.heap.size (w.heap.size + 1) (msL a u).toArray (msL b v).toArray a b u v W) (hu : Ms W b u') => by have := Same_msg b b v u' W h.mb hu; rw [sameM_self] at this; exact this)
  have r2 := row_old (.cells (msL b v).toArray 27 (0, 0)) (row_new (w := w) (k := w.heap.size) (.cells (msL a u).toArray 27 (0, 0)) rfl)
  have r3 := row_new (w := w.alloc (.cells (msL a u).toArray 27 (0, 0))) (k := w.heap.size + 1) (.cells (msL b v).toArray 27 (0, 0)) (by simp)
  have bw : Below w.heap.size w ((w.alloc (.cells (msL a u).toArray 27 (0, 0))).alloc (.cells (msL b v).toArray 27 (0, 0))) := Below.alloc (Below.alloc (Below.refl _ _) (Nat.le_refl _) _) (by simp) _
  have S0 : SS w w.heap.size (w.heap.size + 1) (msL a u).toArray (msL b v).toArray a b u v ((w.alloc (.cells (msL a u).toArray 27 (0, 0))).alloc (.cells (msL b v).toArray 27 (0, 0))) := ⟨r2, r3, hA.on bw, hB.on bw, bw, bw.size⟩
  have F2 : ∀ W, SS w w.heap.size (w.heap.size + 1) (msL a u).toArray (msL b v).toArray a b u v W → loadMs (.pointer (some ⟨w.heap.size, 0, none⟩)) W = .ok (.value (.agg (msL a u).toArray)) W := fun W h => loadMs_row h.r2 info_ms
  have F3 : ∀ W, SS w w.heap.size (w.heap.size + 1) (msL a u).toArray (msL b v).toArray a b u v W → loadMs (.pointer (some ⟨w.heap.size + 1, 0, none⟩)) W = .ok (.value (.agg (msL b v).toArray)) W := fun W h => loadMs_row h.r3 info_ms
  clear r2 r3 bw hA hB h1 h2
  generalize hla : (msL a u).toArray = la at *
  generalize hlb : (msL b v).toArray = lb at *
  clear hla hlb
  generalize sameM a b = s at *
  have hss : (s == s) = true := by simp
  go_enter Try.func3, Try.ntmps3
  go_wp2_with fail
  generalize (w.alloc (.cells la 27 (0, 0))).alloc (.cells lb 27 (0, 0)) = W0 at *
  go_region_held3 (fun w' => SS w w.heap.size (w.heap.size + 1) la lb a b u v w')
    (first | assumption | exact SS.drew (by assumption) | exact SS.on (by assumption) (by assumption))
    (first
      | (go_at_call 4; (with_reducible refine (C1.out _ (by assumption)).mono ?_); rintro e w' ⟨rfl, hBx⟩)
      | (go_at_call 5; (with_reducible refine (C2.out _ (by assumption)).mono ?_); rintro e w' ⟨rfl, hBx⟩)
      | (go_at_call 4; (with_reducible refine (C3.out _ (by assumption)).mono ?_); rintro e w' ⟨rfl, hBx⟩)
      | (go_at_call 6; (with_reducible refine (C4.out _ (by assumption)).mono ?_); rintro e w' ⟨u', rfl, hMs, hBx⟩)
      | (go_at_call 4; (with_reducible refine (C5.out _ _ (by assumption) (by assumption)).mono ?_); rintro e w' ⟨rfl, hBx⟩))
  go_wp2_with fail
  go_ret
  exact ⟨rfl, SS.bel (g2 := w.heap.size) (g3 := w.heap.size + 1) (la := la) (lb := lb) (a := a) (b := b) (u := u) (v := v) (by assumption)⟩
end Go.Proofs.Ytbcgpdoljcokgab
