/-
  A table of what is known of servers: how it lies in memory; comparisons of floats; the order of two servers.
-/
import Derived.Test.YtabclpffjpcejaaRtG
import Derived.Test.YtabclpffjpcejaaRdE
import Derived.Test.YtabclpffjpcejaaMo
import Derived.Test.YtabclpffjpcejaaNt
import Derived.Maps.OwnSet
import Derived.Maps.AppendAt
import Derived.WalkLawsBesides
import Derived.Deep.QuietTactic
import Derived.BigQuiet
import Derived.LoopN
namespace Go.Proofs.Ytabclpffjpcejaa
open Go.RowKit Go.Maps
set_option linter.unusedVariables false
set_option maxRecDepth 100000

/-- How a complex number reads. -/
def cpxE : Value → Option (DataW Unit × List MemPlace)
  | .complex .f64 x y => some (.agg [.lit (.int .i64 x), .lit (.int .i64 y)], [])
  | _ => .none
theorem cpxE_mk (x y : Nat) : cpxE (.complex .f64 x y) = some (.agg [.lit (.int .i64 x), .lit (.int .i64 y)], []) := rfl
theorem cpxE_inv {v : Value} {x y : Nat} {ps : List MemPlace} (h : cpxE v = some (.agg [.lit (.int .i64 x), .lit (.int .i64 y)], ps)) : v = .complex .f64 x y := by
  unfold cpxE at h
  split at h
  · rename_i a b
    injection h with h
    injection h with h1 h2
    simp at h1
    obtain ⟨h1, h2⟩ := h1
    have e1 : a = x := by omega
    have e2 : b = y := by omega
    rw [e1, e2]
  · cases h
theorem intKey : Keyed Try.prog 3 := int_keyed Try.underlying3
theorem keyInt {a : Int} (h : -9223372036854775808 ≤ a ∧ a ≤ 9223372036854775807) : keyOf Try.prog 3 (.int .i64 a) = some (.int .i64 a) := keyOf_int_mk Try.underlying3 (by simp only [Lit.wf, Bool.and_eq_true, decide_eq_true_eq]; exact h)
theorem zeroCpx (w : World) : (zeroValue 66).run Try.prog w = .ok (.complex .f64 0 0) w := by kernel_rfl
/-- What is known of one, as data. -/
def cD (t : Nat × Nat) : DataW Unit := .agg [.lit (.int .i64 (Fl t.1)), .lit (.int .i64 (Fl t.2))]
def cV (t : Nat × Nat) : Value := .complex .f64 (Fl t.1) (Fl t.2)
theorem cD_zero : cD (0, 0) = .agg [.lit (.int .i64 (0 : Nat)), .lit (.int .i64 (0 : Nat))] := by unfold cD; rw [Fl0]
structure Tab (p m N : Nat) (T : Int → Nat × Nat) (w : World) : Prop where
  head : w.heap[p]? = some (.cells #[.map (some m)] 77 (0, 0))
  map : ∃ M : DataW Unit, w.ownsMap Try.prog 3 cpxE m N M ∧ ∀ a : Int, M.atKey (.int .i64 a) (cD (0, 0)) = cD (T a)
  ok : ∀ a, (T a).1 ≤ 8000 ∧ (T a).2 ≤ 1000
def put1 (T : Int → Nat × Nat) (a : Int) (x : Nat × Nat) : Int → Nat × Nat := fun b => if b = a then x else T b
section
variable {p m N : Nat} {T : Int → Nat × Nat} {w w' : World}
theorem Tab.cell (h : Tab p m N T w) : w.cell? ⟨p, 0, none⟩ = some (.map (some m)) := (cell_of_row _ _ 0 _ _ _ h.head).trans rfl
theorem Tab.lt (h : Tab p m N T w) : p < w.heap.size ∧ m < w.heap.size := ⟨(Array.getElem?_eq_some_iff.1 h.head).1, by obtain ⟨M, hM, _⟩ := h.map; exact hM.lt⟩
theorem Tab.ne (h : Tab p m N T w) : p ≠ m := fun e => by
  obtain ⟨M, ⟨es, clock, hb, _⟩, _⟩ := h.map
  have := h.head
  rw [e, hb] at this
  cases this
theorem Tab.kept (h : Tab p m N T w) (hp : w'.heap[p]? = w.heap[p]?) (hm : w'.heap[m]? = w.heap[m]?) : Tab p m N T w' := by
  refine ⟨hp.trans h.head, ?_, h.ok⟩
  obtain ⟨M, ⟨es, clock, hb, r⟩, h2⟩ := h.map
  exact ⟨M, ⟨es, clock, hm.trans hb, r⟩, h2⟩
theorem Tab.below (h : Tab p m N T w) (hB : Below w.heap.size w w') : Tab p m N T w' := h.kept (hB.block _ h.lt.1) (hB.block _ h.lt.2)
theorem Tab.mod {S : Nat → Prop} (h : Tab p m N T w) (hM : Mod S w w') (h1 : ¬ S p) (h2 : ¬ S m) : Tab p m N T w' := h.kept (hM.block _ h.lt.1 h1) (hM.block _ h.lt.2 h2)
theorem Tab.mono (h : Tab p m N T w) {N' : Nat} (hn : N ≤ N') : Tab p m N' T w := by
  obtain ⟨M, hM, h2⟩ := h.map
  exact ⟨h.head, ⟨M, hM.mono hn, h2⟩, h.ok⟩
theorem Tab.look (h : Tab p m N T w) (a : Int) (ha : -9223372036854775808 ≤ a ∧ a ≤ 9223372036854775807) : (Instr.lookup 75 (.map (some m)) (.int .i64 a) false).run Try.prog w = .ok (cV (T a)) w := by
  obtain ⟨M, hM, hat⟩ := h.map
  obtain ⟨v, ps, hrun, hv⟩ := hM.lookup intKey Try.underlying75 (zeroCpx w) (cpxE_mk 0 0) (keyInt ha)
  rw [← cD_zero, hat a] at hv
  rw [hrun, cpxE_inv hv]
  rfl
theorem Tab.put (h : Tab p m N T w) (hN : N < 17592186044416) (a : Int) (ha : -9223372036854775808 ≤ a ∧ a ≤ 9223372036854775807) (x : Nat × Nat) (hx : x.1 ≤ 8000 ∧ x.2 ≤ 1000) :
    ∃ w', (Instr.mapUpdate 75 (.map (some m)) (.int .i64 a) (cV x)).run Try.prog w = .ok () w' ∧ w.grownBy w' (some m) ∧ Tab p m (N + 1) (put1 T a x) w' := by
  obtain ⟨M, hM, hat⟩ := h.map
  obtain ⟨w', hrun, hM', hgr⟩ := hM.update intKey Try.underlying75 (by unfold maxLen; omega) (keyInt ha) (cpxE_mk (Fl x.1) (Fl x.2))
  refine ⟨w', hrun, hgr, (hgr.block _ h.lt.1 (by simpa using h.ne)).trans h.head, ⟨_, hM', fun b => ?_⟩, fun b => ?_⟩
  · unfold put1
    by_cases e : b = a
    · subst e
      rw [atKey_put_same hM.isMap (by trivial), if_pos rfl]
      rfl
    · rw [if_neg e, atKey_put_other (by simpa using e), hat b]
  · unfold put1
    split
    · exact hx
    · exact h.ok b
end

/-- How two parts compare. -/
def cmpN (x y : Nat) : Int := if x < y then -1 else if y < x then 1 else 0
theorem isNaN_any (x : Nat) (hx : x < 8192) (w : World) : Calls Try.prog 62 #[.float .f64 (Fl x)] w fun e w' => e = .returned (.bool false) ∧ w = w' := by
  have h : (FloatKind.f64.format.order (Fl x) (Fl x) != some .eq) = false := by rw [Fl_order hx hx, Nat.compare_eq_eq.2 rfl]; rfl
  generalize Fl x = X at h ⊢
  go_enter Try.func62, Try.ntmps62
  go_wp2_with fail
  go_ret
  exact ⟨rfl, rfl⟩
set_option maxHeartbeats 400000 in
theorem Compare_any (x y : Nat) (hx : x < 8192) (hy : y < 8192) (w : World) : Calls Try.prog 55 #[.float .f64 (Fl x), .float .f64 (Fl y)] w fun e w' => e = .returned (.int .i64 (cmpN x y)) ∧ w = w' := by
  have C1 := Lib.hid (isNaN_any x hx w)
  have C2 := Lib.hid (isNaN_any y hy w)
  have ho := Fl_order hx hy
  rcases Nat.lt_trichotomy x y with h | h | h
  · have e : cmpN x y = -1 := by unfold cmpN; rw [if_pos h]
    rw [Nat.compare_eq_lt.2 h] at ho
    have h1 : (FloatKind.f64.format.order (Fl x) (Fl y) == some .lt) = true := by rw [ho]; rfl
    rw [e]
    clear e ho h hx hy
    generalize Fl x = X at *
    generalize Fl y = Y at *
    go_enter Try.func55, Try.ntmps55
    go_wp2_with fail
    refine C1.out.mono ?_
    rintro e w1 ⟨rfl, rfl⟩
    go_wp2_with fail
    refine C2.out.mono ?_
    rintro e w1 ⟨rfl, rfl⟩
    go_wp2_with fail
    go_ret
    exact ⟨rfl, rfl⟩
  · have e : cmpN x y = 0 := by unfold cmpN; rw [if_neg (by omega), if_neg (by omega)]
    rw [Nat.compare_eq_eq.2 h] at ho
    have h1 : (FloatKind.f64.format.order (Fl x) (Fl y) == some .lt) = false := by rw [ho]; rfl
    have h2 : (FloatKind.f64.format.order (Fl x) (Fl y) == some .gt) = false := by rw [ho]; rfl
    rw [e]
    clear e ho h hx hy
    generalize Fl x = X at *
    generalize Fl y = Y at *
    go_enter Try.func55, Try.ntmps55
    go_wp2_with fail
    refine C1.out.mono ?_
    rintro e w1 ⟨rfl, rfl⟩
    go_wp2_with fail
    refine C2.out.mono ?_
    rintro e w1 ⟨rfl, rfl⟩
    go_wp2_with fail
    go_ret
    exact ⟨rfl, rfl⟩
  · have e : cmpN x y = 1 := by unfold cmpN; rw [if_neg (by omega), if_pos h]
    rw [Nat.compare_eq_gt.2 h] at ho
    have h1 : (FloatKind.f64.format.order (Fl x) (Fl y) == some .lt) = false := by rw [ho]; rfl
    have h2 : (FloatKind.f64.format.order (Fl x) (Fl y) == some .gt) = true := by rw [ho]; rfl
    rw [e]
    clear e ho h hx hy
    generalize Fl x = X at *
    generalize Fl y = Y at *
    go_enter Try.func55, Try.ntmps55
    go_wp2_with fail
    refine C1.out.mono ?_
    rintro e w1 ⟨rfl, rfl⟩
    go_wp2_with fail
    refine C2.out.mono ?_
    rintro e w1 ⟨rfl, rfl⟩
    go_wp2_with fail
    go_ret
    exact ⟨rfl, rfl⟩
def orI (a b : Int) : Int := if a = 0 then b else a
set_option maxHeartbeats 400000 in
theorem Or_any (a b : Int) (g c : Nat) (w : World) (h0 : w.cell? ⟨g, 0, none⟩ = some (.int .i64 a)) (h1 : w.cell? ⟨g, 1, none⟩ = some (.int .i64 b)) : Calls Try.prog 54 #[.slice (some ⟨g, 0, none⟩) 2 c] w fun e w' => e = .returned (.int .i64 (orI a b)) ∧ w = w' := by
  by_cases ha : a = 0
  · have e : orI a b = b := by unfold orI; rw [if_pos ha]
    rw [e]
    clear e
    subst ha
    by_cases hb : b = 0
    · subst hb
      go_enter Try.func54, Try.ntmps54
      go_wp2_with fail
      refine wp_loop_rounds 3 ?_
      rw [rounds_succ]
      go_wp2_with fail
      rw [rounds_succ]
      go_wp2_with fail
      rw [rounds_succ]
      go_wp2_with fail
      go_ret
      exact ⟨rfl, rfl⟩
    · have hb' : (b != 0) = true := by simpa using hb
      go_enter Try.func54, Try.ntmps54
      go_wp2_with fail
      refine wp_loop_rounds 3 ?_
      rw [rounds_succ]
      go_wp2_with fail
      rw [rounds_succ]
      go_wp2_with fail
      go_ret
      exact ⟨rfl, rfl⟩
  · have e : orI a b = a := by unfold orI; rw [if_neg ha]
    have ha' : (a != 0) = true := by simpa using ha
    rw [e]
    clear e
    go_enter Try.func54, Try.ntmps54
    go_wp2_with fail
    refine wp_loop_rounds 3 ?_
    rw [rounds_succ]
    go_wp2_with fail
    go_ret
    exact ⟨rfl, rfl⟩
/-- How two servers compare. -/
def cmpT (x y : Nat × Nat) : Int := orI (cmpN x.2 y.2) (cmpN x.1 y.1)
set_option maxHeartbeats 1000000 in
theorem compare_any {p m N : Nat} {T : Int → Nat × Nat} (w : World) (h : Tab p m N T w) (a b : Int) (ha : -9223372036854775808 ≤ a ∧ a ≤ 9223372036854775807) (hb : -9223372036854775808 ≤ b ∧ b ≤ 9223372036854775807) :
    Calls Try.prog 47 #[.pointer (some ⟨p, 0, none⟩), .int .i64 a, .int .i64 b] w fun e w' => e = .returned (.int .i64 (cmpT (T a) (T b))) ∧ Below w.heap.size w w' := by
  have c0 := h.cell
  have l1 : ∀ n, (Instr.lookup 75 (.map (some m)) (.int .i64 a) false).run Try.prog (w.drewN n) = .ok (cV (T a)) (w.drewN n) := fun n => (h.below (below_drewN (Below.refl _ _) n)).look a ha
  have l2 : ∀ n, (Instr.lookup 75 (.map (some m)) (.int .i64 b) false).run Try.prog (w.drewN n) = .ok (cV (T b)) (w.drewN n) := fun n => (h.below (below_drewN (Below.refl _ _) n)).look b hb
  have l3 := h.look a ha
  have l4 := h.look b hb
  have C1 := Lib.hid (fun W => Compare_any (T a).2 (T b).2 (by have := (h.ok a).2; omega) (by have := (h.ok b).2; omega) W)
  have C2 := Lib.hid (fun W => Compare_any (T a).1 (T b).1 (by have := (h.ok a).1; omega) (by have := (h.ok b).1; omega) W)
  unfold cmpT
  unfold cV at l1 l2 l3 l4
  generalize cmpN (T a).2 (T b).2 = r1 at *
  generalize cmpN (T a).1 (T b).1 = r2 at *
  generalize Fl (T a).1 = f1 at *
  generalize Fl (T a).2 = f2 at *
  generalize Fl (T b).1 = f3 at *
  generalize Fl (T b).2 = f4 at *
  clear h ha hb
  go_enter Try.func47, Try.ntmps47
  go_wp2_with fail
  go_quiet (fail)
  go_wp2_with fail
  refine (C1.out _).mono ?_
  rintro e w1 ⟨rfl, rfl⟩
  go_wp2_with fail
  refine (C2.out _).mono ?_
  rintro e w1 ⟨rfl, rfl⟩
  go_wp2_with fail
  refine (Or_any r1 r2 _ _ _ ?_ ?_).mono ?_
  · exact (cell_of_row _ _ 0 _ _ _ (row_new _ rfl)).trans rfl
  · exact (cell_of_row _ _ 1 _ _ _ (row_new _ rfl)).trans rfl
  rintro e w1 ⟨rfl, rfl⟩
  go_wp2_with fail
  go_ret
  exact ⟨rfl, by (repeat first | (with_reducible exact Below.refl _ _) | (with_reducible assumption) | (with_reducible refine below_drewN ?_ _) | (with_reducible refine Below.drew ?_) | (with_reducible refine Below.alloc ?_ (by go_size) _) | (with_reducible refine Below.setCell ?_ (by go_size) _))⟩
end Go.Proofs.Ytabclpffjpcejaa
