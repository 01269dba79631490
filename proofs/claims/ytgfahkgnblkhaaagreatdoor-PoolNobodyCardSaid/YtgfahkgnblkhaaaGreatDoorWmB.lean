/-
  Two records the same: wire.sameRecord, and the statements' own.
-/
import Derived.Test.YtgfahkgnblkhaaaGreatDoorWmA
namespace Go.Proofs.YtgfahkgnblkhaaaGreatDoor
open Go.RowKit
set_option linter.unusedVariables false
set_option maxRecDepth 100000

theorem sameR_1 {a b : Rr} (h : a.n ≠ b.n) : sameR a b = false := by simp [sameR, h]
theorem sameR_2 {a b : Rr} (h : a.t ≠ b.t) : sameR a b = false := by simp [sameR, h]
theorem sameR_3 {a b : Rr} (h : a.c ≠ b.c) : sameR a b = false := by simp [sameR, h]
theorem sameR_4 {a b : Rr} (h : a.ttl ≠ b.ttl) : sameR a b = false := by simp [sameR, h]
theorem sameR_5 {a b : Rr} (h1 : a.n = b.n) (h2 : a.t = b.t) (h3 : a.c = b.c) (h4 : a.ttl = b.ttl) : sameR a b = (a.d == b.d) := by simp [sameR, h1, h2, h3, h4]


end Go.Proofs.YtgfahkgnblkhaaaGreatDoor
