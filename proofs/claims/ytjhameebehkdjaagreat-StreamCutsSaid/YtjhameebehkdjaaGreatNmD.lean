/-
  name.Lower and name.Same.
-/
import Derived.Test.YtjhameebehkdjaaGreatNmC
import Derived.Test.YtjhameebehkdjaaGreatNmK
import Derived.Laws.IdiomStrings
import Derived.LoopTactic
namespace Go.Proofs.YtjhameebehkdjaaGreat
open Go.RowKit
set_option linter.unusedVariables false
set_option maxRecDepth 100000

/-- Bytes in a row of the call's own. -/
structure Byt (w : World) (g : Nat) (l : Bs) : Prop where
  cell : ∀ j (h : j < l.length), w.cell? ⟨g, j, none⟩ = some (.int .u8 (l[j]).toNat)
  free : ∀ j, j < l.length → w.frozen? ⟨g, j, none⟩ = false
  lt : g < w.heap.size

theorem Byt.set {w : World} {g : Nat} {l : Bs} (h : Byt w g l) {k : Nat} (v : UInt8) {n : Int} (hn : n = v.toNat) : Byt (w.setCell ⟨g, k, none⟩ (.int .u8 n)) g (l.set k v) := by
  subst hn
  refine ⟨fun j hj => ?_, fun j hj => ?_, by simpa using h.lt⟩
  · have hj' : j < l.length := by simpa using hj
    by_cases e : k = j
    · subst e
      have hc := h.cell k hj'
      rw [World.cell?_setCell_same _ _ _ hc]
      simp
    · rw [World.cell?_setCell_other _ _ _ _ (fun h => e (by injection h)), h.cell j hj']
      simp [e]
  · have hj' : j < l.length := by simpa using hj
    rw [World.frozen?_setCell]; exact h.free j hj'

theorem conv_bytes (l : Bs) (w : World) : ∃ cap w1, (convert 9 29 (.string (bs l))).run Tryz.prog w = .ok (.slice (some ⟨w.heap.size, 0, none⟩) l.length cap) w1 ∧ Byt w1 w.heap.size l ∧ Below w.heap.size w w1 := by
  have hr := run_bytes_of_string (P := Tryz.prog) w 9 29 5 (bs l) Tryz.underlying9 Tryz.underlying29 Tryz.underlying5
  rw [bs_size] at hr
  have hrow := row_new (w := w.drew) (k := w.heap.size) (.cells (bytesRow (bs l) (grownCap w l.length 0 5)) 5 ((bytesRow (bs l) (grownCap w l.length 0 5)).size, (bytesRow (bs l) (grownCap w l.length 0 5)).size + 1)) rfl
  refine ⟨_, _, hr, ⟨fun j hj => ?_, fun j hj => ?_, by simp⟩, ?_⟩
  · refine (cell_of_row _ _ _ _ _ _ hrow).trans ?_
    simp [bytesRow, Array.getElem?_append, hj]
  · unfold World.frozen?
    rw [hrow]
    simp [bytesRow]
    intros; omega
  · exact Below.alloc (Below.drew (Below.refl _ _)) (Nat.le_refl _) _

def mix (l : Bs) (k : Nat) : Bs := low (l.take k) ++ l.drop k
theorem mix_len (l : Bs) (k : Nat) : (mix l k).length = l.length := by
  unfold mix; rw [List.length_append, low_len, List.length_take, List.length_drop]; omega
theorem mix_zero (l : Bs) : mix l 0 = l := rfl
theorem mix_all (l : Bs) : mix l l.length = low l := by simp [mix]
theorem mix_at (l : Bs) (k : Nat) (h : k < l.length) : (mix l k)[k]'(by rw [mix_len]; exact h) = l[k] := by
  unfold mix
  rw [List.getElem_append_right (by rw [low_len, List.length_take]; omega)]
  simp [low_len, Nat.min_eq_left (Nat.le_of_lt h)]
theorem mix_set (l : Bs) (k : Nat) (h : k < l.length) : (mix l k).set k (small l[k]) = mix l (k + 1) := by
  unfold mix
  rw [List.set_append_right _ _ (by rw [low_len, List.length_take]; omega), low_len, List.length_take, Nat.min_eq_left (Nat.le_of_lt h), Nat.sub_self]
  rw [List.drop_eq_getElem_cons h, List.set_cons_zero, List.take_succ_eq_append_getElem h, low_append, List.append_assoc]
  rfl
theorem mix_same (l : Bs) (k : Nat) (h : k < l.length) (hs : small l[k] = l[k]) : mix l k = mix l (k + 1) := by
  have e := mix_set l k h
  rw [hs, ← mix_at l k h, List.set_getElem_self] at e
  exact e





end Go.Proofs.YtjhameebehkdjaaGreat
