/-
  bytes.Equal of two that hold the same bytes.
-/
import Derived.Test.YtigpkcpdccgnfaaDoorHdF
import Derived.Laws.BytesArg
namespace Go.Proofs.YtigpkcpdccgnfaaDoor
open Go.RowKit

set_option maxHeartbeats 400000 in
theorem Equal_same (v1 v2 : Value) (t : ByteArray) (w : World) (h1 : (convert 25 9 v1).run Tryd.prog w = .ok (.string t) w) (h2 : (convert 25 9 v2).run Tryd.prog w = .ok (.string t) w) :
    Calls Tryd.prog 9 #[v1, v2] w fun e w' => e = .returned (.bool true) ∧ w = w' := by
  go_enter Tryd.func9, Tryd.ntmps9
  go_wp2
  go_ret
  exact ⟨by simp, rfl⟩

/-- Owned bytes, made a string. -/
theorem owned_string {w : World} {base : Nat} {v : Value} {n : Nat} {xs : List Int} (h : w.ownsRow base 5 1 v n (xs.map (Value.int .u8))) :
    (convert 25 9 v).run Tryd.prog w = .ok (.string (strOfNums xs)) w := by
  obtain ⟨hl, h2⟩ := h
  have hx : xs.length = n := by simpa using hl
  rcases h2 with ⟨rfl, rfl⟩ | ⟨g, cap, cur, rfl, hg, hh, hn, hc, hs, ht⟩
  · obtain rfl : xs = [] := List.eq_nil_of_length_eq_zero hx
    exact run_convert_bytes_nil w 25 5 Tryd.underlying25 Tryd.underlying5 0 0 9 Tryd.underlying9
  · refine run_convert_bytes_arg (P := Tryd.prog) w 25 5 Tryd.underlying25 Tryd.underlying5 g 0 n cap xs hx ?_ 9 Tryd.underlying9
    intro i hi
    rw [cell_of_row _ _ _ _ _ _ hh]
    have : (cur.toList.take (n * 1))[0 + i]? = some (.int .u8 (xs.getD i 0)) := by
      rw [ht]; simp [List.getElem?_map, List.getElem?_eq_getElem (show i < xs.length by omega)]
    rw [List.getElem?_take] at this
    split at this
    · simpa using this
    · simp at this

/-- Bytes that fill a block, made a string. -/
theorem row_string {w : World} {g n cap : Nat} {cs : Array Value} {xs : List Int} (h : w.heap[g]? = some (.cells cs 5 (0, 0))) (hc : cs.toList = xs.map (Value.int .u8)) (hn : xs.length = n) :
    (convert 25 9 (.slice (some ⟨g, 0, none⟩) n cap)).run Tryd.prog w = .ok (.string (strOfNums xs)) w := by
  refine run_convert_bytes_arg (P := Tryd.prog) w 25 5 Tryd.underlying25 Tryd.underlying5 g 0 n cap xs hn ?_ 9 Tryd.underlying9
  intro i hi
  rw [cell_of_row _ _ _ _ _ _ h, ← Array.getElem?_toList, hc]
  simp [List.getElem?_map, List.getElem?_eq_getElem (show i < xs.length by omega)]

end Go.Proofs.YtigpkcpdccgnfaaDoor
