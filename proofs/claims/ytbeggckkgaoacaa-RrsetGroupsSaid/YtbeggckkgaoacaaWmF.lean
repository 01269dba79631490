/-
  Questions copied (slices.Clone); rows of structs laid end to end.
-/
import Derived.Test.YtbeggckkgaoacaaWmC
import Derived.Test.YtbeggckkgaoacaaGb
namespace Go.Proofs.Ytbeggckkgaoacaa
open Go.RowKit
set_option linter.unusedVariables false
set_option maxRecDepth 100000

theorem flat_len {α β : Type} {f : α → List β} {s : Nat} (hs : ∀ x, (f x).length = s) : ∀ L : List α, (L.flatMap f).length = L.length * s
  | [] => by simp
  | a :: L => by rw [List.flatMap_cons, List.length_append, hs, flat_len hs L, List.length_cons, Nat.add_mul]; omega
theorem flat_at {α β : Type} {f : α → List β} {s : Nat} (hs : ∀ x, (f x).length = s) : ∀ (L : List α) (i k : Nat) (hk : k < s) (hi : i < L.length), (L.flatMap f)[i * s + k]? = (f L[i])[k]?
  | a :: L, 0, k, hk, _ => by
    rw [List.flatMap_cons, Nat.zero_mul, Nat.zero_add, List.getElem?_append_left (by rw [hs]; exact hk)]
    rfl
  | a :: L, i + 1, k, hk, hi => by
    rw [List.flatMap_cons, List.getElem?_append_right (by rw [hs, Nat.add_mul]; omega), hs, show (i + 1) * s + k - s = i * s + k by rw [Nat.add_mul]; omega, flat_at hs L i k hk (by simpa using hi)]
    rfl
theorem quL_len (q : Qu) : (quL q).length = 3 := rfl
theorem flat_range {α : Type} {f : α → List Value} {s : Nat} (hs : ∀ x, (f x).length = s) {L : List α} {w : World} {g : Nat} {cur : Array Value} {t : TypeId} (hh : w.heap[g]? = some (.cells cur t (0, 0))) (ht : cur.toList.take (L.length * s) = L.flatMap f) (j : Nat) (hj : j < L.length) : w.rangeAt g (j * s) (f L[j]) := by
  intro k v hk
  obtain ⟨hkl, _⟩ := List.getElem?_eq_some_iff.1 hk
  rw [hs] at hkl
  have h1 := flat_at hs L j k hkl hj
  have hlt : j * s + k < L.length * s := by
    have := Nat.mul_le_mul_right s (show j + 1 ≤ L.length by omega)
    rw [Nat.add_mul] at this; omega
  rw [cell_of_row _ g (j * s + k) _ _ _ hh]
  rw [hk, ← ht, List.getElem?_take_of_lt hlt] at h1
  simpa using h1

/-- A slice of questions in a block of its own. -/
def QsT (w : World) (A : Option Addr) (L : List Qu) : Prop := 0 < L.length → ∃ g off cs, A = some ⟨g, off, none⟩ ∧ w.heap[g]? = some (.cells cs 42 (0, 0)) ∧ ∀ j (h : j < L.length), w.rangeAt g (off + j * 3) (quL L[j])
theorem info_q3 : (Try.prog.info? 42).map (fun i => (i.zero, i.size, i.bytes)) = some (some (.agg #[.string ⟨#[]⟩, .int .i64 0, .int .i64 0]), 3, 32) := by kernel_rfl

end Go.Proofs.Ytbeggckkgaoacaa
