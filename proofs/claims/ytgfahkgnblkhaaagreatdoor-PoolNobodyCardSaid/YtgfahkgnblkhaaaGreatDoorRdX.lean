/-
  The document's First, texts, options, four (layer 3).
-/
import Derived.Test.YtgfahkgnblkhaaaGreatDoorRdL
import Derived.Test.YtgfahkgnblkhaaaGreatDoorRdW
import Derived.Test.YtgfahkgnblkhaaaGreatDoorNmRa
import Derived.Deep.QuietTactic
import Derived.BigQuiet
import Derived.IntWalk
namespace Go.Proofs.YtgfahkgnblkhaaaGreatDoor
open Go.RowKit
set_option linter.unusedVariables false
set_option maxRecDepth 100000

/-- What First answers. -/
def FirstPost (w : World) (l : Bs) (e : Ending) (w' : World) : Prop :=
  (nameLen l = none ∧ e = .returned (.tuple #[.string (bs []), .slice none 0 0, .bool false]) ∧ Below w.heap.size w w') ∨
  (∃ k A c, nameLen l = some k ∧ e = .returned (.tuple #[.string (bs (l.take k)), .slice A (l.drop k).length c, .bool true]) ∧ Bys w' A (l.drop k) ∧ (l.drop k).length ≤ c ∧ c ≤ 9223372036854775807 ∧ Below w.heap.size w w')


theorem txs_cons (k : UInt8) (r : Bs) : txs (k :: r) = if r.length < k.toNat then false else txs (r.drop k.toNat) := by rw [txs]
theorem txs_nil : txs [] = true := by rw [txs]


theorem opts_nil : opts [] = true := by rw [opts]
theorem opts_short {b : Bs} (h : b ≠ []) (h4 : b.length < 4) : opts b = false := by
  match b, h, h4 with
  | [_], _, _ => simp [opts]
  | [_, _], _, _ => simp [opts]
  | [_, _, _], _, _ => simp [opts]
  | _ :: _ :: _ :: _ :: _, _, h4 => simp at h4; omega
theorem opts_cons (a b h l : UInt8) (r : Bs) : opts (a :: b :: h :: l :: r) = if r.length < h.toNat * 256 + l.toNat then false else opts (r.drop (h.toNat * 256 + l.toNat)) := by rw [opts]


end Go.Proofs.YtgfahkgnblkhaaaGreatDoor
