/-
  A scope in which the run jumps to several labels: what holds at each of them, and a measure that every pass lowers. The library's law is for one label.
-/
import Derived.Test.YtknpkifhkefikaaDoorGa
import Derived.ScopeJumps
namespace Go.Proofs.YtknpkifhkefikaaDoor
open Go

/-- As Q; by a goto to label l: J l. -/
def Jumps (J : Nat → Act → World → Prop) (Q : Exit → Act → World → Prop) : Exit → Act → World → Prop
  | .goto l, a, w => J l a w
  | e, a, w => Q e a w
section
variable {P : Program} {a : Act} {w : World} {Q : Exit → Act → World → Prop}
theorem wp_scope_labels {c : Code} (J : Nat → Act → World → Prop) (X : Nat → Code) (μ : Nat → Act → World → Nat) (hf : ∀ l a w, J l a w → findLabel c l = some (.seq .skip (X l)))
    (first : c.wp P (Jumps J Q) a w)
    (pass : ∀ l a w, J l a w → (X l).wp P (Jumps (fun l' a' w' => J l' a' w' ∧ μ l' a' w' < μ l a w) Q) a w) : (Code.scope c).wp P Q a w := by
  intro b k cs
  have key : ∀ n l a w, μ l a w = n → J l a w → ∃ e a' w', Q e a' w' ∧ Arrives P (lone (b.at a (.code (.seq .skip (X l)) :: .inScope c :: k)) cs w) b k cs e a' w' := by
    intro n
    induction n using Nat.strongRecOn with
    | _ n ih =>
      intro l a w hn hJ
      obtain ⟨e, a₁, w₁, hq, harr⟩ := (wp_seq (wp_skip (pass l a w hJ)) : (Code.seq .skip (X l)).wp P _ a w) b (.inScope c :: k) cs
      cases e with
      | normal => exact ⟨.normal, a₁, w₁, hq, Steps.trans harr (.one step_inScope)⟩
      | exit id => exact ⟨.exit id, a₁, w₁, hq, fun k' hk => harr k' (by simp [exitTo, hk])⟩
      | goto l' =>
        obtain ⟨hJ', hlt⟩ := hq
        obtain ⟨e₂, a₂, w₂, hq₂, harr₂⟩ := ih _ (by omega) l' a₁ w₁ rfl hJ'
        exact ⟨e₂, a₂, w₂, hq₂, .of_steps (harr _ (by simp [gotoIn, hf _ _ _ hJ'])) harr₂⟩
      | ret => exact ⟨_, a₁, w₁, hq, harr⟩
      | panic ch => exact ⟨_, a₁, w₁, hq, harr⟩
      | outgrown => exact ⟨_, a₁, w₁, hq, harr⟩
  obtain ⟨e, a₁, w₁, hq, harr⟩ := first b (.inScope c :: k) cs
  cases e with
  | normal => exact ⟨.normal, a₁, w₁, hq, .head step_scope (Steps.trans harr (.one step_inScope))⟩
  | exit id => exact ⟨.exit id, a₁, w₁, hq, fun k' hk => .head step_scope (harr k' (by simp [exitTo, hk]))⟩
  | goto l' =>
    obtain ⟨e₂, a₂, w₂, hq₂, harr₂⟩ := key _ l' a₁ w₁ rfl hq
    exact ⟨e₂, a₂, w₂, hq₂, .of_steps (.head step_scope (harr _ (by simp [gotoIn, hf _ _ _ hq]))) harr₂⟩
  | ret => exact ⟨_, a₁, w₁, hq, .of_steps (.one step_scope) harr⟩
  | panic ch => exact ⟨_, a₁, w₁, hq, .of_steps (.one step_scope) harr⟩
  | outgrown => exact ⟨_, a₁, w₁, hq, .of_steps (.one step_scope) harr⟩
/-- What stands behind a label. -/
def behindL (c : Code) (l : Nat) : Code := match findLabel c l with | some (.seq _ x) => x | _ => .skip
theorem wp_behind {c x : Code} {l : Nat} (h : findLabel c l = some (.seq .skip x)) (hx : x.wp P Q a w) : (behindL c l).wp P Q a w := by
  unfold behindL
  rw [h]
  exact hx
theorem fl_region (i : Nat) (o : Array Oper) (d : Bool) (b : Code) (l : Nat) : findLabel (.seq (.region i o d) b) l = findLabel b l := rfl
theorem fl_goto (i : Nat) (b : Code) (l : Nat) : findLabel (.seq (.goto i) b) l = findLabel b l := rfl
theorem fl_cond (i : Nat) (o : Array Oper) (d : Bool) (q : Operand) (x y b : Code) (l : Nat) : findLabel (.seq (.seq (.region i o d) (.cond q x y)) b) l = findLabel b l := rfl
theorem fl_block (i : Nat) (o : Array Oper) (d : Bool) (q : Nat) (x b : Code) (l : Nat) : findLabel (.seq (.seq (.region i o d) (.block q x)) b) l = findLabel b l := rfl
theorem fl_here (b : Code) (l : Nat) : findLabel (.seq (.label l) b) l = some (.seq .skip b) := by simp [findLabel]
theorem fl_other {i l : Nat} (b : Code) (h : (i == l) = false) : findLabel (.seq (.label i) b) l = findLabel b l := by simp [findLabel, h]
theorem wp_weaken {c : Code} {J J' : Nat → Act → World → Prop} (h : c.wp P (Jumps J Q) a w) (hj : ∀ l a w, J l a w → J' l a w) : c.wp P (Jumps J' Q) a w := wp_mono h fun e a w hq => by
  cases e with
  | goto l => exact hj l a w hq
  | _ => exact hq
end
/-- A frame is the list of its slots. -/
theorem frame_slots (a : Act) (n : Nat) (h : a.tmps.size = n) (hd : a.defers = []) : a = ⟨((List.range n).map (fun i => a.tmps.getD i undef)).toArray, []⟩ := by
  obtain ⟨t, d⟩ := a
  subst h
  simp only at hd ⊢
  subst hd
  congr 1
  apply Array.ext
  · simp
  · intro i h1 h2
    simp [Array.getD, h1]
end Go.Proofs.YtknpkifhkefikaaDoor
