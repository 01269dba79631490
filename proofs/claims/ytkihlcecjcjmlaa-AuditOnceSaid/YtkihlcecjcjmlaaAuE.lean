/-
  The walk of AuditOnce.
-/
import Derived.Test.YtkihlcecjcjmlaaAuD
namespace Go.Proofs.Ytkihlcecjcjmlaa
open Go.RowKit
set_option linter.unusedVariables false
set_option maxRecDepth 100000

/-- One question and its reply, twice. -/
def onceE (e : Ev) (st : Int) (rep : Bool) : Ev := ⟨rep, st, 0, ⟨e.h.i, true, e.h.o, e.h.aa, e.h.tc, e.h.rd, true, e.h.c⟩, [⟨[0], 1, 1⟩]⟩
def onceV (v : EV) (g : Nat) : EV := ⟨some ⟨g, 0, none⟩, 1, v.a1, v.n1, v.c1, v.a2, v.n2, v.c2, v.a3, v.n3, v.c3⟩
theorem once_two (e : Ev) (st : Int) : pairedP [onceE e st false, onceE e st true] = true := by
  simp [pairedP, okE, onceE, askE, cntE, List.range, List.range.loop]
theorem once_three (e : Ev) (st : Int) : pairedP [onceE e st false, onceE e st true, onceE e st true] = false := by
  simp [pairedP, okE, onceE, askE, cntE, List.range, List.range.loop]
theorem once_one (e : Ev) (st : Int) : pairedP [onceE e st true] = false := by
  simp [pairedP, okE, onceE, askE, cntE, List.range, List.range.loop]
theorem once_at {w : World} {e : Ev} {v : EV} {st : Int} {rep : Bool} {g : Nat} {cs : Array Value} (h : EvOk e) (hst : I64a st) (hq : w.heap[g]? = some (.cells #[.string (bs [0]), .int .i64 1, .int .i64 1] 35 (0, 0))) : EvAt w (onceE e st rep) (onceV v g) := by
  refine ⟨fun _ => ⟨g, 0, rfl, fun j hj => ?_⟩, by simp [onceE, onceV], by simp [onceV], hst, h.i, h.o, fun x hx => ?_⟩
  · obtain rfl : j = 0 := by simp [onceE] at hj; omega
    intro i u hi
    rw [Nat.zero_mul, Nat.add_zero, Nat.zero_add]
    refine (cell_of_row _ _ _ _ _ _ hq).trans ?_
    simpa [onceE, quL] using hi
  · simp [onceE] at hx
    subst hx
    exact ⟨by simp, by show -9223372036854775808 ≤ (1 : Int) ∧ (1 : Int) ≤ 9223372036854775807; omega, by show -9223372036854775808 ≤ (1 : Int) ∧ (1 : Int) ≤ 9223372036854775807; omega⟩
theorem paired_n (g o : Nat) (l : List Ev) (n c : Nat) (W : World) (b : Bool) (hn : n = l.length) (hS : Evs W (some ⟨g, o, none⟩) l) (hl : l.length ≤ 1000000) (hb : pairedP l = b) : Calls Try.prog 6 #[.slice (some ⟨g, o, none⟩) n c] W fun e w' => e = .returned (.bool b) ∧ Below W.heap.size W w' := by
  subst hn hb
  exact paired_any _ l c W hS hl
theorem Evs.take {w : World} {g o : Nat} {l : List Ev} (h : Evs w (some ⟨g, o, none⟩) l) (k : Nat) : Evs w (some ⟨g, o, none⟩) (l.take k) := fun hn => by
  rw [List.length_take] at hn
  obtain ⟨g', o', e, hc⟩ := h (by omega)
  refine ⟨g', o', e, fun j hj => ?_⟩
  rw [List.length_take] at hj
  rw [List.getElem_take]
  exact hc j (by omega)
theorem Evs.drop {w : World} {g o : Nat} {l : List Ev} (h : Evs w (some ⟨g, o, none⟩) l) (k : Nat) : Evs w (some ⟨g, o + k * 15, none⟩) (l.drop k) := fun hn => by
  rw [List.length_drop] at hn
  obtain ⟨g', o', e, hc⟩ := h (by omega)
  injection e with e
  injection e with e1 e2 _
  subst e1 e2
  refine ⟨g, o + k * 15, rfl, fun j hj => ?_⟩
  rw [List.length_drop] at hj
  rw [List.getElem_drop]
  have := hc (k + j) (by omega)
  rw [show o + (k + j) * 15 = o + k * 15 + j * 15 by omega] at this
  exact this
theorem once_evs {w : World} {e : Ev} {v : EV} {st : Int} {g q : Nat} (h : EvOk e) (hst : I64a st) (hq : w.heap[q]? = some (.cells #[.string ⟨#[0]⟩, .int .i64 1, .int .i64 1] 35 (0, 0)))
    (he : w.heap[g]? = some (.cells (evL (onceE e st false) (onceV v q) ++ (evL (onceE e st true) (onceV v q) ++ evL (onceE e st true) (onceV v q))).toArray 31 (0, 0))) : Evs w (some ⟨g, 0, none⟩) [onceE e st false, onceE e st true, onceE e st true] := fun _ => by
  refine ⟨g, 0, rfl, fun j hj => ⟨onceV v q, ?_, fun i u hi => ?_⟩⟩
  · have hA := fun rep => once_at (w := w) (e := e) (v := v) (st := st) (rep := rep) (g := q) (cs := #[]) h hst hq
    match j, hj with
    | 0, _ => exact hA false
    | 1, _ => exact hA true
    | 2, _ => exact hA true
  · refine (cell_of_row _ _ _ _ _ _ he).trans ?_
    have hl : ∀ rep, (evL (onceE e st rep) (onceV v q)).length = 15 := fun _ => rfl
    have hi15 : i < 15 := by
      have := (List.getElem?_eq_some_iff.1 hi).1
      match j, hj with
      | 0, _ => exact this
      | 1, _ => exact this
      | 2, _ => exact this
    simp only [List.getElem?_toArray]
    match j, hj with
    | 0, _ =>
      rw [List.getElem?_append_left (by rw [hl]; omega)]
      rw [show 0 + 0 * 15 + i = i by omega]
      exact hi
    | 1, _ =>
      rw [List.getElem?_append_right (by rw [hl]; omega), hl, List.getElem?_append_left (by rw [hl]; omega), show 0 + 1 * 15 + i - 15 = i by omega]
      exact hi
    | 2, _ =>
      rw [List.getElem?_append_right (by rw [hl]; omega), hl, List.getElem?_append_right (by rw [hl]; omega), hl, show 0 + 2 * 15 + i - 15 - 15 = i by omega]
      exact hi
set_option maxHeartbeats 4000000 in
set_option maxRecDepth 100000 in
theorem AuditOnce_any (e : Ev) (v : EV) (st : Int) (w : World) (h : EvAt w e v) (hst : I64a st) : Calls Try.prog 5 #[.agg (meL e v).toArray, .int .i64 st] w fun x w' => x = .returned (.bool true) ∧ Below w.heap.size w w' := by
  have HOK := Lib.hid h.ok
  have HST := Lib.hid hst
  rw [show (meL e v).toArray = #[.int .i64 e.h.i, .bool e.h.r, .int .i64 e.h.o, .bool e.h.aa, .bool e.h.tc, .bool e.h.rd, .bool e.h.ra, .int .i64 e.h.c, .slice v.aq e.q.length v.cq, .slice v.a1 v.n1 v.c1, .slice v.a2 v.n2 v.c2, .slice v.a3 v.n3 v.c3] from rfl]
  have K1 := Lib.hid (once_two e st)
  have K2 := Lib.hid (once_three e st)
  have K3 := Lib.hid (once_one e st)
  have b0 : Below w.heap.size w (((w.alloc (.cells #[.int .i64 e.h.i, .bool true, .int .i64 e.h.o, .bool e.h.aa, .bool e.h.tc, .bool e.h.rd, .bool true, .int .i64 e.h.c, .slice (some ⟨w.heap.size + 1, 0, none⟩) 1 1, .slice v.a1 v.n1 v.c1, .slice v.a2 v.n2 v.c2, .slice v.a3 v.n3 v.c3] 29)).alloc (.cells #[.string ⟨#[0]⟩, .int .i64 1, .int .i64 1] 35)).alloc (.cells #[.bool false, .int .i64 st, .int .i64 0, .int .i64 e.h.i, .bool true, .int .i64 e.h.o, .bool e.h.aa, .bool e.h.tc, .bool e.h.rd, .bool true, .int .i64 e.h.c, .slice (some ⟨w.heap.size + 1, 0, none⟩) 1 1, .slice v.a1 v.n1 v.c1, .slice v.a2 v.n2 v.c2, .slice v.a3 v.n3 v.c3, .bool true, .int .i64 st, .int .i64 0, .int .i64 e.h.i, .bool true, .int .i64 e.h.o, .bool e.h.aa, .bool e.h.tc, .bool e.h.rd, .bool true, .int .i64 e.h.c, .slice (some ⟨w.heap.size + 1, 0, none⟩) 1 1, .slice v.a1 v.n1 v.c1, .slice v.a2 v.n2 v.c2, .slice v.a3 v.n3 v.c3, .bool true, .int .i64 st, .int .i64 0, .int .i64 e.h.i, .bool true, .int .i64 e.h.o, .bool e.h.aa, .bool e.h.tc, .bool e.h.rd, .bool true, .int .i64 e.h.c, .slice (some ⟨w.heap.size + 1, 0, none⟩) 1 1, .slice v.a1 v.n1 v.c1, .slice v.a2 v.n2 v.c2, .slice v.a3 v.n3 v.c3] 31)) := ((Below.refl _ _).alloc (Nat.le_refl _) _ |>.alloc (by simp) _).alloc (by simp; omega) _
  have rq : (((w.alloc (.cells #[.int .i64 e.h.i, .bool true, .int .i64 e.h.o, .bool e.h.aa, .bool e.h.tc, .bool e.h.rd, .bool true, .int .i64 e.h.c, .slice (some ⟨w.heap.size + 1, 0, none⟩) 1 1, .slice v.a1 v.n1 v.c1, .slice v.a2 v.n2 v.c2, .slice v.a3 v.n3 v.c3] 29)).alloc (.cells #[.string ⟨#[0]⟩, .int .i64 1, .int .i64 1] 35)).alloc (.cells #[.bool false, .int .i64 st, .int .i64 0, .int .i64 e.h.i, .bool true, .int .i64 e.h.o, .bool e.h.aa, .bool e.h.tc, .bool e.h.rd, .bool true, .int .i64 e.h.c, .slice (some ⟨w.heap.size + 1, 0, none⟩) 1 1, .slice v.a1 v.n1 v.c1, .slice v.a2 v.n2 v.c2, .slice v.a3 v.n3 v.c3, .bool true, .int .i64 st, .int .i64 0, .int .i64 e.h.i, .bool true, .int .i64 e.h.o, .bool e.h.aa, .bool e.h.tc, .bool e.h.rd, .bool true, .int .i64 e.h.c, .slice (some ⟨w.heap.size + 1, 0, none⟩) 1 1, .slice v.a1 v.n1 v.c1, .slice v.a2 v.n2 v.c2, .slice v.a3 v.n3 v.c3, .bool true, .int .i64 st, .int .i64 0, .int .i64 e.h.i, .bool true, .int .i64 e.h.o, .bool e.h.aa, .bool e.h.tc, .bool e.h.rd, .bool true, .int .i64 e.h.c, .slice (some ⟨w.heap.size + 1, 0, none⟩) 1 1, .slice v.a1 v.n1 v.c1, .slice v.a2 v.n2 v.c2, .slice v.a3 v.n3 v.c3] 31)).heap[w.heap.size + 1]? = some (.cells #[.string ⟨#[0]⟩, .int .i64 1, .int .i64 1] 35 (0, 0)) := row_old _ (row_new _ (by simp))
  have re : (((w.alloc (.cells #[.int .i64 e.h.i, .bool true, .int .i64 e.h.o, .bool e.h.aa, .bool e.h.tc, .bool e.h.rd, .bool true, .int .i64 e.h.c, .slice (some ⟨w.heap.size + 1, 0, none⟩) 1 1, .slice v.a1 v.n1 v.c1, .slice v.a2 v.n2 v.c2, .slice v.a3 v.n3 v.c3] 29)).alloc (.cells #[.string ⟨#[0]⟩, .int .i64 1, .int .i64 1] 35)).alloc (.cells #[.bool false, .int .i64 st, .int .i64 0, .int .i64 e.h.i, .bool true, .int .i64 e.h.o, .bool e.h.aa, .bool e.h.tc, .bool e.h.rd, .bool true, .int .i64 e.h.c, .slice (some ⟨w.heap.size + 1, 0, none⟩) 1 1, .slice v.a1 v.n1 v.c1, .slice v.a2 v.n2 v.c2, .slice v.a3 v.n3 v.c3, .bool true, .int .i64 st, .int .i64 0, .int .i64 e.h.i, .bool true, .int .i64 e.h.o, .bool e.h.aa, .bool e.h.tc, .bool e.h.rd, .bool true, .int .i64 e.h.c, .slice (some ⟨w.heap.size + 1, 0, none⟩) 1 1, .slice v.a1 v.n1 v.c1, .slice v.a2 v.n2 v.c2, .slice v.a3 v.n3 v.c3, .bool true, .int .i64 st, .int .i64 0, .int .i64 e.h.i, .bool true, .int .i64 e.h.o, .bool e.h.aa, .bool e.h.tc, .bool e.h.rd, .bool true, .int .i64 e.h.c, .slice (some ⟨w.heap.size + 1, 0, none⟩) 1 1, .slice v.a1 v.n1 v.c1, .slice v.a2 v.n2 v.c2, .slice v.a3 v.n3 v.c3] 31)).heap[w.heap.size + 1 + 1]? = some (.cells (evL (onceE e st false) (onceV v (w.heap.size + 1)) ++ (evL (onceE e st true) (onceV v (w.heap.size + 1)) ++ evL (onceE e st true) (onceV v (w.heap.size + 1)))).toArray 31 (0, 0)) := row_new _ (by simp)
  obtain ⟨W3, hW3⟩ : ∃ W3, W3 = ((w.alloc (.cells #[.int .i64 e.h.i, .bool true, .int .i64 e.h.o, .bool e.h.aa, .bool e.h.tc, .bool e.h.rd, .bool true, .int .i64 e.h.c, .slice (some ⟨w.heap.size + 1, 0, none⟩) 1 1, .slice v.a1 v.n1 v.c1, .slice v.a2 v.n2 v.c2, .slice v.a3 v.n3 v.c3] 29)).alloc (.cells #[.string ⟨#[0]⟩, .int .i64 1, .int .i64 1] 35)).alloc (.cells #[.bool false, .int .i64 st, .int .i64 0, .int .i64 e.h.i, .bool true, .int .i64 e.h.o, .bool e.h.aa, .bool e.h.tc, .bool e.h.rd, .bool true, .int .i64 e.h.c, .slice (some ⟨w.heap.size + 1, 0, none⟩) 1 1, .slice v.a1 v.n1 v.c1, .slice v.a2 v.n2 v.c2, .slice v.a3 v.n3 v.c3, .bool true, .int .i64 st, .int .i64 0, .int .i64 e.h.i, .bool true, .int .i64 e.h.o, .bool e.h.aa, .bool e.h.tc, .bool e.h.rd, .bool true, .int .i64 e.h.c, .slice (some ⟨w.heap.size + 1, 0, none⟩) 1 1, .slice v.a1 v.n1 v.c1, .slice v.a2 v.n2 v.c2, .slice v.a3 v.n3 v.c3, .bool true, .int .i64 st, .int .i64 0, .int .i64 e.h.i, .bool true, .int .i64 e.h.o, .bool e.h.aa, .bool e.h.tc, .bool e.h.rd, .bool true, .int .i64 e.h.c, .slice (some ⟨w.heap.size + 1, 0, none⟩) 1 1, .slice v.a1 v.n1 v.c1, .slice v.a2 v.n2 v.c2, .slice v.a3 v.n3 v.c3] 31) := ⟨_, rfl⟩
  rw [← hW3] at b0 rq re
  have RQ := Lib.hid rq
  have RE := Lib.hid re
  have B0 := Lib.hid b0
  have HW3 := Lib.hid hW3
  clear h hst hW3 b0 rq re
  go_enter Try.func5, Try.ntmps5
  go_wp2_with fail
  rw [← HW3.out]
  have s1 : Evs W3 (some ⟨w.heap.size + 1 + 1, 0, none⟩) [onceE e st false, onceE e st true, onceE e st true] := once_evs HOK.out HST.out RQ.out RE.out
  refine (paired_n _ _ _ _ _ W3 true rfl (s1.take 2) (by simp) K1.out).mono ?_
  rintro x W4 ⟨rfl, b4⟩
  have B4 := Lib.hid (Below.trans B0.out (b4.mono B0.out.size))
  have S4 := Lib.hid (s1.on b4)
  clear s1 b4
  go_wp2_with fail
  refine (paired_n _ _ _ _ _ W4 false rfl S4.out (by simp) K2.out).mono ?_
  rintro x W5 ⟨rfl, b5⟩
  have B5 := Lib.hid (Below.trans B4.out (b5.mono B4.out.size))
  have S5 := Lib.hid (S4.out.on b5)
  clear b5
  go_wp2_with fail
  refine (paired_n _ _ _ _ _ W5 false rfl (((S5.out.take 2).drop 1)) (by simp) K3.out).mono ?_
  rintro x W6 ⟨rfl, b6⟩
  have B6 := Lib.hid (Below.trans B5.out (b6.mono B5.out.size))
  clear b6
  go_wp2_with fail
  go_ret
  exact ⟨rfl, B6.out⟩
end Go.Proofs.Ytkihlcecjcjmlaa
