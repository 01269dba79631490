/-
  What turned is a row of another kind; lists of bytes that the call made.
-/
import Derived.Test.YtbeggckkgaoacaaGe
import Derived.Test.YtbeggckkgaoacaaMo
namespace Go.Proofs.Ytbeggckkgaoacaa
open Go.RowKit
set_option linter.unusedVariables false
set_option maxRecDepth 100000

/-- What turned is a row of another kind, or none. -/
def Elsewhere (w : World) (t : TypeId) (r : Option Nat) : Prop := ∀ g, r = some g → ∀ cs fz, w.heap[g]? ≠ some (.cells cs t fz)
theorem elsewhere_none (w : World) (t : TypeId) : Elsewhere w t none := fun g h => by cases h
theorem elsewhere_cells {w : World} {t u : TypeId} {g : Nat} {cs : Array Value} {fz : Nat × Nat} (h : w.heap[g]? = some (.cells cs u fz)) (hn : u ≠ t) : Elsewhere w t (some g) := fun g' e cs' fz' h' => by
  injection e with e
  subst e
  rw [h] at h'
  injection h' with h'
  injection h' with _ h' _
  exact hn h'
theorem elsewhere_map {w : World} {t : TypeId} {g : Nat} {es : Array MapEntry} {ck : Nat} (h : w.heap[g]? = some (.map es ck)) : Elsewhere w t (some g) := fun g' e cs' fz' h' => by
  injection e with e
  subst e
  rw [h] at h'
  injection h' with h'
  cases h'
theorem own_cells {w : World} {B size n : Nat} {e : TypeId} {v : Value} {xs : List Value} (h : w.ownsRow B e size v n xs) : ∀ g, v.ownBlock = some g → ∃ cs fz, w.heap[g]? = some (.cells cs e fz) := by
  intro g hg
  rcases h.2 with ⟨rfl, _⟩ | ⟨g', cap, cur, rfl, _, hh, _⟩
  · simp [Value.ownBlock] at hg
  · simp [Value.ownBlock] at hg
    subst hg
    exact ⟨_, _, hh⟩
theorem elsewhere_own {w : World} {B size n : Nat} {e t : TypeId} {v : Value} {xs : List Value} (h : w.ownsRow B e size v n xs) (hn : e ≠ t) : Elsewhere w t v.ownBlock := fun g hg => by
  obtain ⟨cs, fz, hh⟩ := own_cells h g hg
  exact elsewhere_cells hh hn g rfl
theorem elsewhere_old {w w' : World} {t : TypeId} {r : Option Nat} (h : Elsewhere w t r) (hB : Below w.heap.size w w') (hr : ∀ g, r = some g → g < w.heap.size) : Elsewhere w' t r := fun g hg cs fz e => h g hg cs fz ((hB.block g (hr g hg)).symm.trans e)
theorem own_keptE {w w' : World} {B size n : Nat} {e : TypeId} {v : Value} {xs : List Value} {r : Option Nat} (h : w.ownsRow B e size v n xs) (hg : w.grownBy w' r) (hr : Elsewhere w e r) : w'.ownsRow B e size v n xs := World.ownsRow.kept h hg (by
  cases hv : v.ownBlock with
  | none => exact .inl rfl
  | some k =>
    refine .inr fun e => ?_
    obtain ⟨cs, fz, h2⟩ := own_cells h k hv
    exact hr k e.symm cs fz h2)
theorem own_mono {w : World} {B B' size n : Nat} {e : TypeId} {v : Value} {xs : List Value} (h : w.ownsRow B e size v n xs) (hb : B' ≤ B) : w.ownsRow B' e size v n xs := by
  refine ⟨h.1, ?_⟩
  rcases h.2 with h | ⟨g, cap, cur, h1, h2, r⟩
  · exact .inl h
  · exact .inr ⟨g, cap, cur, h1, by omega, r⟩
theorem own_form {w : World} {B size n : Nat} {e : TypeId} {v : Value} {xs : List Value} (h : w.ownsRow B e size v n xs) : ∃ A c, v = .slice A n c ∧ n ≤ c ∧ c ≤ maxLen := by
  rcases h.2 with ⟨h1, h0⟩ | ⟨g, cap, cur, h1, hb, hh, hc, hm, _⟩
  · exact ⟨none, 0, by rw [h1, h0], by omega, by unfold maxLen; omega⟩
  · exact ⟨_, _, h1, hc, hm⟩
theorem own_none {w : World} {B size n : Nat} {e : TypeId} {c m : Nat} {xs : List Value} (h : w.ownsRow B e size (.slice none m c) n xs) : c = 0 := by
  rcases h.2 with ⟨h1, h0⟩ | ⟨g, cap, cur, h1, _⟩
  · injection h1
  · injection h1 with h1; cases h1
theorem OwnR.keptE {w w' : World} {base : Nat} {v : Value} {l : Bs} {r : Option Nat} (h : OwnR w base v l) (hg : w.grownBy w' r) (hr : Elsewhere w 5 r) : OwnR w' base v l := own_keptE h hg hr
theorem RowsR.keptE {w w' : World} {base : Nat} {xs : List Value} {M : List Bs} {r : Option Nat} (h : RowsR w base none xs M) (hg : w.grownBy w' r) (hr : Elsewhere w 5 r) : RowsR w' base none xs M :=
  ⟨h.1, fun j hj => by
    obtain ⟨v, h1, h2, h3⟩ := h.2 j hj
    exact ⟨v, h1, h2.keptE hg hr, h3⟩⟩
theorem RowsR.mono {w : World} {base base' : Nat} {u : Option Nat} {xs : List Value} {M : List Bs} (h : RowsR w base u xs M) (hb : base' ≤ base) : RowsR w base' u xs M :=
  ⟨h.1, fun j hj => by
    obtain ⟨v, h1, h2, h3⟩ := h.2 j hj
    exact ⟨v, h1, h2.mono hb, h3⟩⟩
theorem ne_none (v : Value) : v.ownBlock = none ∨ v.ownBlock ≠ none := by cases v.ownBlock <;> simp

/-- A list of texts that the call made. -/
def OwnL (w : World) (B : Nat) (v : Value) (L : List Bs) : Prop := ∃ xs, w.ownsRow B 37 1 v L.length xs ∧ RowsR w B none xs L
theorem OwnL.nil (w : World) (B : Nat) : OwnL w B (.slice none 0 0) [] := ⟨[], World.ownsRow_nil _ _ _ _, RowsR.nil⟩
theorem OwnL.keptE {w w' : World} {B : Nat} {v : Value} {L : List Bs} {r : Option Nat} (h : OwnL w B v L) (hg : w.grownBy w' r) (h1 : Elsewhere w 5 r) (h2 : Elsewhere w 37 r) : OwnL w' B v L := by
  obtain ⟨xs, a, b⟩ := h
  exact ⟨xs, own_keptE a hg h2, b.keptE hg h1⟩
theorem OwnL.below {w w' : World} {B : Nat} {v : Value} {L : List Bs} (h : OwnL w B v L) (hB : Below w.heap.size w w') : OwnL w' B v L := h.keptE (grown_of_below hB none) (elsewhere_none _ _) (elsewhere_none _ _)
theorem OwnL.mono {w : World} {B B' : Nat} {v : Value} {L : List Bs} (h : OwnL w B v L) (hb : B' ≤ B) : OwnL w B' v L := by
  obtain ⟨xs, a, b⟩ := h
  exact ⟨xs, own_mono a hb, b.mono hb⟩
theorem OwnL.byss {w : World} {B : Nat} {v : Value} {L : List Bs} (h : OwnL w B v L) : ∃ A c, v = .slice A L.length c ∧ ByssT w A L ∧ L.length ≤ c ∧ c ≤ 9223372036854775807 ∧ (A = none → c = 0) := by
  obtain ⟨xs, a, b⟩ := h
  exact (RowsR.byss a b).2
theorem OwnL.lt {w : World} {B : Nat} {v : Value} {L : List Bs} (h : OwnL w B v L) : ∀ k, v.ownBlock = some k → B ≤ k ∧ k < w.heap.size := by
  obtain ⟨xs, a, b⟩ := h
  exact a.lt
end Go.Proofs.Ytbeggckkgaoacaa
