/-
  Lists of texts, and of numbers, that come in.
-/
import Derived.Test.YtkihlcecjcjmlaaOp
import Derived.Test.YtkihlcecjcjmlaaNt
namespace Go.Proofs.Ytkihlcecjcjmlaa
open Go.ChangeShapes Go.WideShapes Go.ChangeAt Go.RowKit Go.Deep
set_option linter.unusedVariables false
set_option maxRecDepth 100000

section
variable {H : Type} {enc : TypeId × Value → H} {w : World} {held : Bool} {d : DataW H} {p : List MemPlace}
theorem open_texts {r0 : Reach} {b0 : Nat} {v : Value} (hv : Value.okWide Try.prog w r0 b0 53 v) (h : DataW.Trod enc Try.prog w 0 (fun _ => true) held 53 v d p) :
    ∃ (L : List Bs) (A : Option Addr) (c : Nat), v = .slice A L.length c ∧ Byss w A L ∧ (L.length ≤ c ∧ c ≤ 9223372036854775807 ∧ (A = none → c = 0)) ∧ (Within 53 d → L.length * 24 ≤ reachBytes ∧ ∀ x ∈ L, x.length ≤ reachBytes) := by
  obtain ⟨a, len, c, rfl⟩ := okWide_slice Try.underlying53 hv
  obtain ⟨n, hf⟩ := h
  exact open_datas (x := .slice a len c) (n := n) (by simpa [Value.cells] using hf)
end
end Go.Proofs.Ytkihlcecjcjmlaa
