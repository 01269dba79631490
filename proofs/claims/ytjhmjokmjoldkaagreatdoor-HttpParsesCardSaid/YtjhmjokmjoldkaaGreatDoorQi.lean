/-
  The head of a region that draws its order, walked by what each operation yields: whatever comes first, behind all of them every operation's value is what was said of it, in the world behind.
-/
import Derived.Test.YtjhmjokmjoldkaaGreatDoorQs
import Derived.Test.YtjhmjokmjoldkaaGreatDoorNmW
namespace Go.Proofs.YtjhmjokmjoldkaaGreatDoor
open Go Go.RowKit
set_option linter.unusedVariables false
set_option maxRecDepth 100000

section
variable {P : Program} {ops : Array Oper} {md : Region.Mode} {Q : Exit → Act → World → Prop}

/-- What holds while the operations come up. -/
structure Under (ops : Array Oper) (d : Nat → Nat) (R : Nat → Value → World → Prop) (a0 : Act) (B : Nat) (w0 : World) (b : Array Bool) (a : Act) (w : World) : Prop where
  size : b.size = ops.size
  tmps : a.tmps.size = a0.tmps.size
  defers : a.defers = a0.defers
  old : ∀ j, (∀ i, i < ops.size → d i ≠ j) → a.tmps[j]? = a0.tmps[j]?
  got : ∀ i, i < ops.size → b.getD i true = true → ∃ v, a.tmps[d i]? = some v ∧ R i v w
  bel : Below B w0 w
  big : B ≤ w.heap.size

def putAll (d : Nat → Nat) (V : Nat → Value) : Nat → Act → Act
  | 0, a => a
  | n + 1, a => (putAll d V n a).put (some (d n)) (V n)
theorem putAll_size (d : Nat → Nat) (V : Nat → Value) : ∀ (n : Nat) (a : Act), (putAll d V n a).tmps.size = a.tmps.size
  | 0, _ => rfl
  | n + 1, a => by simp [putAll, Act.put, putAll_size d V n a]
theorem putAll_defers (d : Nat → Nat) (V : Nat → Value) : ∀ (n : Nat) (a : Act), (putAll d V n a).defers = a.defers
  | 0, _ => rfl
  | n + 1, a => by simp [putAll, Act.put, putAll_defers d V n a]
theorem putAll_old (d : Nat → Nat) (V : Nat → Value) : ∀ (n : Nat) (a : Act) (j : Nat), (∀ i, i < n → d i ≠ j) → (putAll d V n a).tmps[j]? = a.tmps[j]?
  | 0, _, _, _ => rfl
  | n + 1, a, j, h => by
    have := h n (by omega)
    simp only [putAll, Act.put]
    rw [Array.getElem?_setIfInBounds_ne this, putAll_old d V n a j fun i hi => h i (by omega)]
theorem putAll_at (d : Nat → Nat) (V : Nat → Value) : ∀ (n : Nat) (a : Act) (i : Nat), (∀ i j, i < n → j < n → d i = d j → i = j) → i < n → d i < a.tmps.size → (putAll d V n a).tmps[d i]? = some (V i)
  | n + 1, a, i, hinj, hi, hs => by
    simp only [putAll, Act.put]
    by_cases h : i = n
    · subst h
      rw [Array.getElem?_setIfInBounds_self_of_lt (by rw [putAll_size]; exact hs)]
    · rw [Array.getElem?_setIfInBounds_ne (fun e => h (hinj n i (by omega) (by omega) e).symm), putAll_at d V n a i (fun i j hi hj => hinj i j (by omega) (by omega)) (by omega) hs]

theorem count_set : ∀ (l : List Bool) (i : Nat), l[i]? = some false → (l.set i true).count false + 1 = l.count false
  | x :: l, 0, h => by
    simp at h
    subst h
    simp
  | x :: l, i + 1, h => by
    have := count_set l i (by simpa using h)
    simp only [List.set_cons_succ, List.count_cons]
    omega

theorem wpAny_under {d : Nat → Nat} {R : Nat → Value → World → Prop} {a0 : Act} {B : Nat} {w0 : World} (hf : Region.fwdB md ops ops.size = true)
    (hinj : ∀ i j, i < ops.size → j < ops.size → d i = d j → i = j) (hd : ∀ i, i < ops.size → d i < a0.tmps.size)
    (hstab : ∀ i v w w', R i v w → Below w.heap.size w w' → R i v w')
    (hstep : ∀ i, i < ops.size → ∀ b a w, Under ops d R a0 B w0 b a w → i ∈ Region.ready md ops b → ∃ o, ops[i]? = some o ∧ o.guard = none ∧ o.wp P a w (fun a' w' => ∃ v, a' = a.put (some (d i)) v ∧ R i v w' ∧ Below w.heap.size w w') Q)
    (hend : ∀ V w, (∀ i, i < ops.size → R i (V i) w) → Below B w0 w → B ≤ w.heap.size → Q .normal (putAll d V ops.size a0) w) :
    ∀ (f : Nat) (b : Array Bool) (a : Act) (w : World), b.toList.count false ≤ f → Under ops d R a0 B w0 b a w → wpAny P md ops Q f b a w := by
  have hfin : ∀ b a w, Under ops d R a0 B w0 b a w → Region.ready md ops b = [] → Q .normal a w := by
    intro b a w u hr
    have hall : ∀ i, i < ops.size → b.getD i true = true := by
      intro i hi
      cases hv : b.getD i true with
      | true => rfl
      | false =>
        obtain ⟨k, hk, hkr⟩ := head_ready hf (Nat.le_refl _) i hi hv
        rw [hr] at hkr
        cases hkr
    have hV : ∃ V : Nat → Value, ∀ i, i < ops.size → a.tmps[d i]? = some (V i) ∧ R i (V i) w := by
      refine ⟨fun i => (a.tmps[d i]?).getD undef, fun i hi => ?_⟩
      obtain ⟨v, h1, h2⟩ := u.got i hi (hall i hi)
      have e : (a.tmps[d i]?).getD undef = v := by rw [h1]; rfl
      simp only [e]
      exact ⟨h1, h2⟩
    obtain ⟨V, hV⟩ := hV
    have ha : a = putAll d V ops.size a0 := by
      have ht : a.tmps = (putAll d V ops.size a0).tmps := by
        apply Array.ext_getElem?
        intro j
        by_cases h : ∃ i, i < ops.size ∧ d i = j
        · obtain ⟨i, hi, rfl⟩ := h
          rw [(hV i hi).1, putAll_at d V ops.size a0 i hinj hi (hd i hi)]
        · have hno : ∀ i, i < ops.size → d i ≠ j := fun i hi e => h ⟨i, hi, e⟩
          rw [u.old j hno, putAll_old d V ops.size a0 j hno]
      have hdf : a.defers = (putAll d V ops.size a0).defers := u.defers.trans (putAll_defers d V ops.size a0).symm
      cases a
      cases hp : putAll d V ops.size a0
      rw [hp] at ht hdf
      simp only at ht hdf
      rw [ht, hdf]
    rw [ha]
    exact hend V w (fun i hi => (hV i hi).2) u.bel u.big
  intro f
  induction f with
  | zero =>
    intro b a w hc u
    have hr : Region.ready md ops b = [] := by
      apply List.eq_nil_iff_forall_not_mem.2
      intro i hi
      obtain ⟨hu, o, ho, _⟩ := mem_ready.1 hi
      have hib : i < b.size := by rw [u.size]; exact (Array.getElem?_eq_some_iff.1 ho).1
      simp [hib] at hu
      have h0 : b.toList.count false = 0 := by omega
      rw [List.count_eq_zero] at h0
      exact h0 (by rw [← hu]; simp)
    exact ⟨hr, hfin b a w u hr⟩
  | succ f ih =>
    intro b a w hc u
    refine ⟨fun hr => hfin b a w u hr, fun i hi => ?_⟩
    obtain ⟨hu, o', ho', _⟩ := mem_ready.1 hi
    have his : i < ops.size := (Array.getElem?_eq_some_iff.1 ho').1
    have hib : i < b.size := by rw [u.size]; exact his
    obtain ⟨o, ho, hg, hw⟩ := hstep i his b a w u hi
    unfold wpOp
    rw [ho]
    simp only
    rw [if_pos (by unfold Region.wanted; rw [hg])]
    refine .inl (Oper.wp_mono (fun a' w' h' => ?_) hw)
    obtain ⟨v, rfl, hR, hB⟩ := h'
    refine ih _ _ _ ?_ ⟨by simp [u.size], by simp [Act.put, u.tmps], u.defers, fun j hj => ?_, fun k hk hkb => ?_, Below.trans u.bel (hB.mono u.big), Nat.le_trans u.big hB.size⟩
    · have h1 : b.toList[i]? = some false := by
        simp [hib] at hu
        simp [hib, hu]
      have := count_set b.toList i h1
      rw [Array.toList_setIfInBounds]
      omega
    · simp only [Act.put]
      rw [Array.getElem?_setIfInBounds_ne (hj i his)]
      exact u.old j hj
    · simp only [Act.put]
      by_cases hki : k = i
      · subst hki
        exact ⟨v, Array.getElem?_setIfInBounds_self_of_lt (by rw [u.tmps]; exact hd k hk), hR⟩
      · rw [getD_set_ne true (Ne.symm hki)] at hkb
        obtain ⟨v', h1, h2⟩ := u.got k hk hkb
        exact ⟨v', by rw [Array.getElem?_setIfInBounds_ne (fun e => hki (hinj i k his hk e).symm)]; exact h1, hstab k v' w w' h2 hB⟩

/-- The way back from Q to what is asked behind the head. -/
theorem wp_weak {T : List Oper} {o : Oper} {a : Act} {w : World} {K : Act → World → Prop} (hh : o.wp P a w K Q) : o.wp P a w K (headPost P ops T Q) := by
  unfold Oper.wp at *
  generalize (execOp a.eval o).run P w = r at *
  cases r with
  | ok n w' =>
    cases n <;> simp only [Oper.upon] at hh ⊢ <;>
      first
        | exact hh
        | exact Calls.mono hh (fun e w'' he => by cases e <;> exact he)
        | exact Rows.mono hh (fun _ _ he => he)
  | halt x w' => cases x <;> simp only [Oper.upon] at hh ⊢ <;> exact hh
/-- The law: a drawn head of operations whose values are said, a forced tail. -/
theorem wp_region_under {id : Nat} {a : Act} {w : World} {l : List Oper} (n : Nat) (hm : P.follows .mixedOrders = true) (hB : Region.splitB .any l.toArray n = true) (hF : Region.fwdB .any (l.take n).toArray n = true) (hn : (l.take n).length = n)
    {d : Nat → Nat} {R : Nat → Value → World → Prop} {B : Nat} (hb : B ≤ w.heap.size)
    (hinj : ∀ i j, i < n → j < n → d i = d j → i = j) (hd : ∀ i, i < n → d i < a.tmps.size)
    (hstab : ∀ i v w w', R i v w → Below w.heap.size w w' → R i v w')
    (hstep : ∀ i, i < n → ∀ b a' w', Under (l.take n).toArray d R a B w b a' w' → i ∈ Region.ready .any (l.take n).toArray b → ∃ o, (l.take n).toArray[i]? = some o ∧ o.guard = none ∧ o.wp P a' w' (fun a2 w2 => ∃ v, a2 = a'.put (some (d i)) v ∧ R i v w2 ∧ Below w'.heap.size w' w2) Q)
    (hend : ∀ V w', (∀ i, i < n → R i (V i) w') → Below B w w' → B ≤ w'.heap.size → wpList P l.toArray Q (l.drop n) (putAll d V n a) w') : (Code.region id l.toArray true).wp P Q a w := by
  have hs : (l.take n).toArray.size = n := by simpa using hn
  refine wp_region_split n hm hB ?_
  refine wpAny_under (ops := (l.take n).toArray) (d := d) (R := R) (a0 := a) (B := B) (w0 := w) (by rw [hs]; exact hF) (by rw [hs]; exact hinj) (by rw [hs]; exact hd) hstab (fun i hi b a' w' u hr => ?_) (fun V w' hV hB hb => ?_) n _ a _ (by simp) ⟨by simp [hs], rfl, rfl, fun _ _ => rfl, fun i hi hbi => ?_, ⟨rfl, rfl, rfl, Nat.le_refl _, fun _ _ => rfl⟩, hb⟩
  · rw [hs] at hi
    obtain ⟨o, h1, h2, h3⟩ := hstep i hi b a' w' u hr
    refine ⟨o, h1, h2, ?_⟩
    exact wp_weak h3
  · rw [hs] at hV ⊢
    exact hend V w' hV hB hb
  · rw [hs] at hi
    simp [hi] at hbi
end
end Go.Proofs.YtjhmjokmjoldkaaGreatDoor
