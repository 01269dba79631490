/-
  Lists of questions the same: slices.Equal.
-/
import Derived.Test.YtgfahkgnblkhaaaGreatDoorWmC
import Derived.Deep.QuietTactic
namespace Go.Proofs.YtgfahkgnblkhaaaGreatDoor
open Go.RowKit
set_option linter.unusedVariables false
set_option maxRecDepth 100000

theorem eq_qu (a b : Qu) (w : World) : (Op.equalIn 10000 23 (.agg (quC a)) (.agg (quC b))).run Tryz.prog w = .ok (sameQ a b) w := by
  rw [show (10000 : Nat) = 9999 + 1 from rfl, run_equalIn_struct (P := Tryz.prog) (w := w) 9999 _ _ _ (by kernel_rfl) (by kernel_rfl)]
  have p0 : ∀ x : Qu, (part 9 (quC x) 0).run Tryz.prog w = .ok (.string (bs x.n)) w := fun x => by kernel_rfl
  have p1 : ∀ x : Qu, (part 3 (quC x) 1).run Tryz.prog w = .ok (.int .i64 x.t) w := fun x => by kernel_rfl
  have p2 : ∀ x : Qu, (part 3 (quC x) 2).run Tryz.prog w = .ok (.int .i64 x.c) w := fun x => by kernel_rfl
  have q (x y : Int) : (Op.equalIn 9999 3 (.int .i64 x) (.int .i64 y)).run Tryz.prog w = .ok (x == y) w := by
    rw [show (9999 : Nat) = 9998 + 1 from rfl, run_equalIn_int w 9998 3 .i64 .i64 x y Tryz.underlying3]
  have qs (x y : Bs) : (Op.equalIn 9999 9 (.string (bs x)) (.string (bs y))).run Tryz.prog w = .ok (x == y) w := by
    rw [show (9999 : Nat) = 9998 + 1 from rfl, run_equalIn_string w 9998 9 _ _ Tryz.underlying9, bs_toList, bs_toList]
  unfold Program.fieldsOf sameQ
  rw [Tryz.underlying23]
  by_cases h1 : (a.n == b.n) = true
  · by_cases h2 : (a.t == b.t) = true
    · by_cases h3 : (a.c == b.c) = true
      · simp [Op.eqFields, p0, p1, p2, q, qs, h1, h2, h3]
      · simp only [Bool.not_eq_true] at h3
        simp [Op.eqFields, p0, p1, p2, q, qs, h1, h2, h3]
    · simp only [Bool.not_eq_true] at h2
      simp [Op.eqFields, p0, p1, q, qs, h1, h2]
  · simp only [Bool.not_eq_true] at h1
    simp [Op.eqFields, p0, qs, h1]

/-- A question loaded whole; two questions held against each other: the walk does not open them. -/
noncomputable def loadQu (v : Value) (w : World) : Result Next := ((Instr.loadAt 23 v).run Tryz.prog w).andThen fun a w' => .ok (.value a) w'
theorem exec_loadQu (ev : Operand → Value) (d : Option Tmp) (x : Operand) (t : TypeId) (p : String) (f : Array Edge) (gd : Option (Nat × Bool)) (w : World) : (execOp ev { dst := d, op := .load 23 x, type := t, pos := p, after := f, guard := gd }).run Tryz.prog w = loadQu (ev x) w := by
  unfold execOp loadQu
  simp only [Sem.run_bind, Sem.run_pure]
theorem loadQu_mid {w1 : World} {g o : Nat} {l : List Value} (h : w1.rangeAt g o l) (hC : (Tryz.prog.info? 23).map (·.size) = some l.length) : loadQu (.pointer (some ⟨g, o, none⟩)) w1 = .ok (.value (.agg l.toArray)) w1 := by
  unfold loadQu
  rw [run_loadAt_mid w1 g o 23 l _ h Tryz.underlying23 rfl hC]
  rfl
noncomputable def neqQu (v u : Value) (w : World) : Result Next := ((do eqGuard .neq 23 (.tmp 0) (.tmp 0) v u; binOp .neq 23 v u : Sem Value).run Tryz.prog w).andThen fun a w' => .ok (.value a) w'
theorem exec_neqQu (ev : Operand → Value) (d : Option Tmp) (i j : Tmp) (ty t : TypeId) (p : String) (f : Array Edge) (gd : Option (Nat × Bool)) (w : World) : (execOp ev { dst := d, op := .binOp .neq 23 (.tmp i) (.tmp j) ty, type := t, pos := p, after := f, guard := gd }).run Tryz.prog w = neqQu (ev (.tmp i)) (ev (.tmp j)) w := by
  unfold execOp neqQu
  simp only [Sem.run_bind, Sem.run_pure]
  rfl
theorem neqQu_of (a b : Qu) (w : World) : neqQu (.agg (quL a).toArray) (.agg (quL b).toArray) w = .ok (.value (.bool (!sameQ a b))) w := by
  unfold neqQu
  have hg : (eqGuard .neq 23 (.tmp 0) (.tmp 0) (.agg (quL a).toArray) (.agg (quL b).toArray)).run Tryz.prog w = .ok () w := run_eqGuard_agg w .neq 23 _ _ _ _ (by kernel_rfl)
  have he := eq_qu a b w
  unfold quC at he
  simp only [Sem.run_bind, hg, run_neq_struct, he, Result.andThen_ok]
attribute [local go_sem ↓] exec_loadQu exec_neqQu

end Go.Proofs.YtgfahkgnblkhaaaGreatDoor
