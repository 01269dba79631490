/-
  The head of a region that draws its order, walked by what each operation yields, where the operations change the world each in its own way: what is said of a value, and a fact, holds while others change the world; a fact ends with one operation.
  As Qj; but what is said of a value and the world may end with one operation, too; what is said of the value alone stays; and what must come first has come.
-/
import Derived.Test.YtdifemaidngnjaaQi
namespace Go.Proofs.Ytdifemaidngnjaa
open Go Go.RowKit
set_option linter.unusedVariables false
set_option maxRecDepth 100000

section
variable {P : Program} {ops : Array Oper} {md : Region.Mode} {Q : Exit → Act → World → Prop}

/-- What holds while the operations come up. -/
structure Lane (ops : Array Oper) (d : Nat → Nat) (R : Nat → Value → World → Prop) (F : Nat → World → Prop) (kill : Nat → Nat) (a0 : Act) (b : Array Bool) (a : Act) (w : World) : Prop where
  size : b.size = ops.size
  tmps : a.tmps.size = a0.tmps.size
  defers : a.defers = a0.defers
  old : ∀ j, (∀ i, i < ops.size → d i ≠ j) → a.tmps[j]? = a0.tmps[j]?
  got : ∀ i, i < ops.size → b.getD i true = true → ∃ v, a.tmps[d i]? = some v ∧ R i v w
  fact : ∀ m, b.getD (kill m) false = false → F m w

theorem wpAny_lane {d : Nat → Nat} {R : Nat → Value → World → Prop} {F : Nat → World → Prop} {kill : Nat → Nat} {Rel : Nat → World → World → Prop} {a0 : Act} (hf : Region.fwdB md ops ops.size = true)
    (hinj : ∀ i j, i < ops.size → j < ops.size → d i = d j → i = j) (hd : ∀ i, i < ops.size → d i < a0.tmps.size)
    (hstab : ∀ i j v w w', i ≠ j → Rel j w w' → R i v w → R i v w')
    (hkeep : ∀ m j w w', j ≠ kill m → Rel j w w' → F m w → F m w')
    (hstep : ∀ i, i < ops.size → ∀ b a w, Lane ops d R F kill a0 b a w → i ∈ Region.ready md ops b → ∃ o, ops[i]? = some o ∧ o.guard = none ∧ o.wp P a w (fun a' w' => ∃ v, a' = a.put (some (d i)) v ∧ R i v w' ∧ Rel i w w') Q)
    (hend : ∀ V w, (∀ i, i < ops.size → R i (V i) w) → (∀ m, ops.size ≤ kill m → F m w) → Q .normal (putAll d V ops.size a0) w) :
    ∀ (f : Nat) (b : Array Bool) (a : Act) (w : World), b.toList.count false ≤ f → Lane ops d R F kill a0 b a w → wpAny P md ops Q f b a w := by
  have hfin : ∀ b a w, Lane ops d R F kill a0 b a w → Region.ready md ops b = [] → Q .normal a w := by
    intro b a w u hr
    have hall : ∀ i, i < ops.size → b.getD i true = true := by
      intro i hi
      cases hv : b.getD i true with
      | true => rfl
      | false =>
        obtain ⟨k, hk, hkr⟩ := head_ready hf (Nat.le_refl _) i hi hv
        rw [hr] at hkr
        cases hkr
    have hV : ∃ V : Nat → Value, ∀ i, i < ops.size → a.tmps[d i]? = some (V i) ∧ R i (V i) w := by
      refine ⟨fun i => (a.tmps[d i]?).getD undef, fun i hi => ?_⟩
      obtain ⟨v, h1, h2⟩ := u.got i hi (hall i hi)
      have e : (a.tmps[d i]?).getD undef = v := by rw [h1]; rfl
      simp only [e]
      exact ⟨h1, h2⟩
    obtain ⟨V, hV⟩ := hV
    have ha : a = putAll d V ops.size a0 := by
      have ht : a.tmps = (putAll d V ops.size a0).tmps := by
        apply Array.ext_getElem?
        intro j
        by_cases h : ∃ i, i < ops.size ∧ d i = j
        · obtain ⟨i, hi, rfl⟩ := h
          rw [(hV i hi).1, putAll_at d V ops.size a0 i hinj hi (hd i hi)]
        · have hno : ∀ i, i < ops.size → d i ≠ j := fun i hi e => h ⟨i, hi, e⟩
          rw [u.old j hno, putAll_old d V ops.size a0 j hno]
      have hdf : a.defers = (putAll d V ops.size a0).defers := u.defers.trans (putAll_defers d V ops.size a0).symm
      cases a
      cases hp : putAll d V ops.size a0
      rw [hp] at ht hdf
      simp only at ht hdf
      rw [ht, hdf]
    rw [ha]
    exact hend V w (fun i hi => (hV i hi).2) (fun m hm => u.fact m (by simp [u.size, hm]))
  intro f
  induction f with
  | zero =>
    intro b a w hc u
    have hr : Region.ready md ops b = [] := by
      apply List.eq_nil_iff_forall_not_mem.2
      intro i hi
      obtain ⟨hu, o, ho, _⟩ := mem_ready.1 hi
      have hib : i < b.size := by rw [u.size]; exact (Array.getElem?_eq_some_iff.1 ho).1
      simp [hib] at hu
      have h0 : b.toList.count false = 0 := by omega
      rw [List.count_eq_zero] at h0
      exact h0 (by rw [← hu]; simp)
    exact ⟨hr, hfin b a w u hr⟩
  | succ f ih =>
    intro b a w hc u
    refine ⟨fun hr => hfin b a w u hr, fun i hi => ?_⟩
    obtain ⟨hu, o', ho', _⟩ := mem_ready.1 hi
    have his : i < ops.size := (Array.getElem?_eq_some_iff.1 ho').1
    have hib : i < b.size := by rw [u.size]; exact his
    obtain ⟨o, ho, hg, hw⟩ := hstep i his b a w u hi
    unfold wpOp
    rw [ho]
    simp only
    rw [if_pos (by unfold Region.wanted; rw [hg])]
    refine .inl (Oper.wp_mono (fun a' w' h' => ?_) hw)
    obtain ⟨v, rfl, hR, hB⟩ := h'
    refine ih _ _ _ ?_ ⟨by simp [u.size], by simp [Act.put, u.tmps], u.defers, fun j hj => ?_, fun k hk hkb => ?_, fun m hm => ?_⟩
    · have h1 : b.toList[i]? = some false := by
        simp [hib] at hu
        simp [hib, hu]
      have := count_set b.toList i h1
      rw [Array.toList_setIfInBounds]
      omega
    · simp only [Act.put]
      rw [Array.getElem?_setIfInBounds_ne (hj i his)]
      exact u.old j hj
    · simp only [Act.put]
      by_cases hki : k = i
      · subst hki
        exact ⟨v, Array.getElem?_setIfInBounds_self_of_lt (by rw [u.tmps]; exact hd k hk), hR⟩
      · rw [getD_set_ne true (Ne.symm hki)] at hkb
        obtain ⟨v', h1, h2⟩ := u.got k hk hkb
        exact ⟨v', by rw [Array.getElem?_setIfInBounds_ne (fun e => hki (hinj i k his hk e).symm)]; exact h1, hstab k i v' w w' hki hB h2⟩
    · have hne : i ≠ kill m := fun e => by
        rw [← e] at hm
        simp [hib] at hm
      have hm2 : b.getD (kill m) false = false := by
        rw [getD_set_ne false hne] at hm
        exact hm
      exact hkeep m i w w' hne hB (u.fact m hm2)

/-- The law: a drawn head of operations whose values are said, a forced tail. -/
theorem wp_region_lane {id : Nat} {a : Act} {w : World} {l : List Oper} (n : Nat) (hm : P.follows .mixedOrders = true) (hB : Region.splitB .any l.toArray n = true) (hF : Region.fwdB .any (l.take n).toArray n = true) (hn : (l.take n).length = n)
    {d : Nat → Nat} {R : Nat → Value → World → Prop} {F : Nat → World → Prop} {kill : Nat → Nat} {Rel : Nat → World → World → Prop}
    (hinj : ∀ i j, i < n → j < n → d i = d j → i = j) (hd : ∀ i, i < n → d i < a.tmps.size)
    (hstab : ∀ i j v w w', i ≠ j → Rel j w w' → R i v w → R i v w')
    (hkeep : ∀ m j w w', j ≠ kill m → Rel j w w' → F m w → F m w') (h0 : ∀ m, F m w.drew)
    (hstep : ∀ i, i < n → ∀ b a' w', Lane (l.take n).toArray d R F kill a b a' w' → i ∈ Region.ready .any (l.take n).toArray b → ∃ o, (l.take n).toArray[i]? = some o ∧ o.guard = none ∧ o.wp P a' w' (fun a2 w2 => ∃ v, a2 = a'.put (some (d i)) v ∧ R i v w2 ∧ Rel i w' w2) Q)
    (hend : ∀ V w', (∀ i, i < n → R i (V i) w') → (∀ m, n ≤ kill m → F m w') → wpList P l.toArray Q (l.drop n) (putAll d V n a) w') : (Code.region id l.toArray true).wp P Q a w := by
  have hs : (l.take n).toArray.size = n := by simpa using hn
  refine wp_region_split n hm hB ?_
  refine wpAny_lane (ops := (l.take n).toArray) (d := d) (R := R) (F := F) (kill := kill) (Rel := Rel) (a0 := a) (by rw [hs]; exact hF) (by rw [hs]; exact hinj) (by rw [hs]; exact hd) hstab hkeep (fun i hi b a' w' u hr => ?_) (fun V w' hV hB => ?_) n _ a _ (by simp) ⟨by simp [hs], rfl, rfl, fun _ _ => rfl, fun i hi hbi => ?_, fun m _ => h0 m⟩
  · rw [hs] at hi
    obtain ⟨o, h1, h2, h3⟩ := hstep i hi b a' w' u hr
    refine ⟨o, h1, h2, ?_⟩
    exact wp_weak h3
  · rw [hs] at hV ⊢
    exact hend V w' hV (fun m hm => hB m (by rw [hs]; exact hm))
  · rw [hs] at hi
    simp [hi] at hbi
end
end Go.Proofs.Ytdifemaidngnjaa
namespace Go.Proofs.Ytdifemaidngnjaa
open Go Go.RowKit
set_option linter.unusedVariables false
set_option maxRecDepth 100000

section
variable {P : Program} {ops : Array Oper} {md : Region.Mode} {Q : Exit → Act → World → Prop}

/-- What holds while the operations come up. -/
structure Lane2 (ops : Array Oper) (d : Nat → Nat) (pre : Nat → Nat → Prop) (S : Nat → Value → Prop) (R : Nat → Value → World → Prop) (killR : Nat → Nat) (F : Nat → World → Prop) (kill : Nat → Nat) (a0 : Act) (b : Array Bool) (a : Act) (w : World) : Prop where
  size : b.size = ops.size
  tmps : a.tmps.size = a0.tmps.size
  defers : a.defers = a0.defers
  old : ∀ j, (∀ i, i < ops.size → d i ≠ j) → a.tmps[j]? = a0.tmps[j]?
  got : ∀ i, i < ops.size → b.getD i true = true → ∃ v, a.tmps[d i]? = some v ∧ S i v ∧ (b.getD (killR i) false = false → R i v w)
  closed : ∀ i, i < ops.size → b.getD i true = true → ∀ j, pre i j → b.getD j true = true
  fact : ∀ m, b.getD (kill m) false = false → F m w

theorem wpAny_lane2 {d : Nat → Nat} {pre : Nat → Nat → Prop} {S : Nat → Value → Prop} {R : Nat → Value → World → Prop} {killR : Nat → Nat} {F : Nat → World → Prop} {kill : Nat → Nat} {Rel : Nat → World → World → Prop} {a0 : Act} (hf : Region.fwdB md ops ops.size = true)
    (hinj : ∀ i j, i < ops.size → j < ops.size → d i = d j → i = j) (hd : ∀ i, i < ops.size → d i < a0.tmps.size)
    (hstab : ∀ i j v w w', i ≠ j → ¬ pre i j → j ≠ killR i → Rel j w w' → S i v → R i v w → R i v w')
    (hkeep : ∀ m j w w', j ≠ kill m → (pre j (kill m) → ops.size ≤ kill m) → Rel j w w' → F m w → F m w')
    (hstep : ∀ i, i < ops.size → ∀ b a w, Lane2 ops d pre S R killR F kill a0 b a w → i ∈ Region.ready md ops b → (∀ j, pre i j → b.getD j true = true) ∧ ∃ o, ops[i]? = some o ∧ o.guard = none ∧ o.wp P a w (fun a' w' => ∃ v, a' = a.put (some (d i)) v ∧ S i v ∧ R i v w' ∧ Rel i w w') Q)
    (hend : ∀ V w, (∀ i, i < ops.size → S i (V i)) → (∀ i, i < ops.size → ops.size ≤ killR i → R i (V i) w) → (∀ m, ops.size ≤ kill m → F m w) → Q .normal (putAll d V ops.size a0) w) :
    ∀ (f : Nat) (b : Array Bool) (a : Act) (w : World), b.toList.count false ≤ f → Lane2 ops d pre S R killR F kill a0 b a w → wpAny P md ops Q f b a w := by
  have hfin : ∀ b a w, Lane2 ops d pre S R killR F kill a0 b a w → Region.ready md ops b = [] → Q .normal a w := by
    intro b a w u hr
    have hall : ∀ i, i < ops.size → b.getD i true = true := by
      intro i hi
      cases hv : b.getD i true with
      | true => rfl
      | false =>
        obtain ⟨k, hk, hkr⟩ := head_ready hf (Nat.le_refl _) i hi hv
        rw [hr] at hkr
        cases hkr
    have hV : ∃ V : Nat → Value, ∀ i, i < ops.size → a.tmps[d i]? = some (V i) ∧ S i (V i) ∧ (ops.size ≤ killR i → R i (V i) w) := by
      refine ⟨fun i => (a.tmps[d i]?).getD undef, fun i hi => ?_⟩
      obtain ⟨v, h1, h2, h3⟩ := u.got i hi (hall i hi)
      have e : (a.tmps[d i]?).getD undef = v := by rw [h1]; rfl
      simp only [e]
      exact ⟨h1, h2, fun hk => h3 (by simp [u.size, hk])⟩
    obtain ⟨V, hV⟩ := hV
    have ha : a = putAll d V ops.size a0 := by
      have ht : a.tmps = (putAll d V ops.size a0).tmps := by
        apply Array.ext_getElem?
        intro j
        by_cases h : ∃ i, i < ops.size ∧ d i = j
        · obtain ⟨i, hi, rfl⟩ := h
          rw [(hV i hi).1, putAll_at d V ops.size a0 i hinj hi (hd i hi)]
        · have hno : ∀ i, i < ops.size → d i ≠ j := fun i hi e => h ⟨i, hi, e⟩
          rw [u.old j hno, putAll_old d V ops.size a0 j hno]
      have hdf : a.defers = (putAll d V ops.size a0).defers := u.defers.trans (putAll_defers d V ops.size a0).symm
      cases a
      cases hp : putAll d V ops.size a0
      rw [hp] at ht hdf
      simp only at ht hdf
      rw [ht, hdf]
    rw [ha]
    exact hend V w (fun i hi => (hV i hi).2.1) (fun i hi hk => (hV i hi).2.2 hk) (fun m hm => u.fact m (by simp [u.size, hm]))
  intro f
  induction f with
  | zero =>
    intro b a w hc u
    have hr : Region.ready md ops b = [] := by
      apply List.eq_nil_iff_forall_not_mem.2
      intro i hi
      obtain ⟨hu, o, ho, _⟩ := mem_ready.1 hi
      have hib : i < b.size := by rw [u.size]; exact (Array.getElem?_eq_some_iff.1 ho).1
      simp [hib] at hu
      have h0 : b.toList.count false = 0 := by omega
      rw [List.count_eq_zero] at h0
      exact h0 (by rw [← hu]; simp)
    exact ⟨hr, hfin b a w u hr⟩
  | succ f ih =>
    intro b a w hc u
    refine ⟨fun hr => hfin b a w u hr, fun i hi => ?_⟩
    obtain ⟨hu, o', ho', _⟩ := mem_ready.1 hi
    have his : i < ops.size := (Array.getElem?_eq_some_iff.1 ho').1
    have hib : i < b.size := by rw [u.size]; exact his
    obtain ⟨hpre, o, ho, hg, hw⟩ := hstep i his b a w u hi
    have hup : ∀ j, b.getD j true = true → (b.setIfInBounds i true).getD j true = true := by
      intro j hj
      by_cases e : j = i
      · subst e
        simp [hib]
      · rw [getD_set_ne true (Ne.symm e)]
        exact hj
    unfold wpOp
    rw [ho]
    simp only
    rw [if_pos (by unfold Region.wanted; rw [hg])]
    refine .inl (Oper.wp_mono (fun a' w' h' => ?_) hw)
    obtain ⟨v, rfl, hS, hR, hB⟩ := h'
    refine ih _ _ _ ?_ ⟨by simp [u.size], by simp [Act.put, u.tmps], u.defers, fun j hj => ?_, fun k hk hkb => ?_, fun k hk hkb j hj => ?_, fun m hm => ?_⟩
    · have h1 : b.toList[i]? = some false := by
        simp [hib] at hu
        simp [hib, hu]
      have := count_set b.toList i h1
      rw [Array.toList_setIfInBounds]
      omega
    · simp only [Act.put]
      rw [Array.getElem?_setIfInBounds_ne (hj i his)]
      exact u.old j hj
    · simp only [Act.put]
      by_cases hki : k = i
      · subst hki
        exact ⟨v, Array.getElem?_setIfInBounds_self_of_lt (by rw [u.tmps]; exact hd k hk), hS, fun _ => hR⟩
      · rw [getD_set_ne true (Ne.symm hki)] at hkb
        obtain ⟨v', h1, h2, h3⟩ := u.got k hk hkb
        have hnp : ¬ pre k i := fun e => by
          have := u.closed k hk hkb i e
          simp [hib] at hu this
          rw [hu] at this
          cases this
        refine ⟨v', by rw [Array.getElem?_setIfInBounds_ne (fun e => hki (hinj i k his hk e).symm)]; exact h1, h2, fun hm => ?_⟩
        have hne : i ≠ killR k := fun e => by
          rw [← e] at hm
          simp [hib] at hm
        rw [getD_set_ne false hne] at hm
        exact hstab k i v' w w' hki hnp hne hB h2 (h3 hm)
    · by_cases hki : k = i
      · subst hki
        exact hup j (hpre j hj)
      · rw [getD_set_ne true (Ne.symm hki)] at hkb
        exact hup j (u.closed k hk hkb j hj)
    · have hne : i ≠ kill m := fun e => by
        rw [← e] at hm
        simp [hib] at hm
      have hm2 : b.getD (kill m) false = false := by
        rw [getD_set_ne false hne] at hm
        exact hm
      refine hkeep m i w w' hne (fun hp => ?_) hB (u.fact m hm2)
      have h3 := hpre (kill m) hp
      rcases Nat.lt_or_ge (kill m) ops.size with h4 | h4
      · have h5 : kill m < b.size := by rw [u.size]; exact h4
        simp [h5] at h3 hm2
        rw [h3] at hm2
        cases hm2
      · exact h4

/-- The law: a drawn head of operations whose values are said, a forced tail. -/
theorem wp_region_lane2 {id : Nat} {a : Act} {w : World} {l : List Oper} (n : Nat) (hm : P.follows .mixedOrders = true) (hB : Region.splitB .any l.toArray n = true) (hF : Region.fwdB .any (l.take n).toArray n = true) (hn : (l.take n).length = n)
    {d : Nat → Nat} {pre : Nat → Nat → Prop} {S : Nat → Value → Prop} {R : Nat → Value → World → Prop} {killR : Nat → Nat} {F : Nat → World → Prop} {kill : Nat → Nat} {Rel : Nat → World → World → Prop}
    (hinj : ∀ i j, i < n → j < n → d i = d j → i = j) (hd : ∀ i, i < n → d i < a.tmps.size)
    (hstab : ∀ i j v w w', i ≠ j → ¬ pre i j → j ≠ killR i → Rel j w w' → S i v → R i v w → R i v w')
    (hkeep : ∀ m j w w', j ≠ kill m → (pre j (kill m) → n ≤ kill m) → Rel j w w' → F m w → F m w') (h0 : ∀ m, F m w.drew)
    (hstep : ∀ i, i < n → ∀ b a' w', Lane2 (l.take n).toArray d pre S R killR F kill a b a' w' → i ∈ Region.ready .any (l.take n).toArray b → (∀ j, pre i j → b.getD j true = true) ∧ ∃ o, (l.take n).toArray[i]? = some o ∧ o.guard = none ∧ o.wp P a' w' (fun a2 w2 => ∃ v, a2 = a'.put (some (d i)) v ∧ S i v ∧ R i v w2 ∧ Rel i w' w2) Q)
    (hend : ∀ V w', (∀ i, i < n → S i (V i)) → (∀ i, i < n → n ≤ killR i → R i (V i) w') → (∀ m, n ≤ kill m → F m w') → wpList P l.toArray Q (l.drop n) (putAll d V n a) w') : (Code.region id l.toArray true).wp P Q a w := by
  have hs : (l.take n).toArray.size = n := by simpa using hn
  refine wp_region_split n hm hB ?_
  refine wpAny_lane2 (ops := (l.take n).toArray) (d := d) (pre := pre) (S := S) (R := R) (killR := killR) (F := F) (kill := kill) (Rel := Rel) (a0 := a) (by rw [hs]; exact hF) (by rw [hs]; exact hinj) (by rw [hs]; exact hd) hstab (by rw [hs]; exact hkeep) (fun i hi b a' w' u hr => ?_) (fun V w' hS hV hB => ?_) n _ a _ (by simp) ⟨by simp [hs], rfl, rfl, fun _ _ => rfl, fun i hi hbi => ?_, fun i hi hbi => ?_, fun m _ => h0 m⟩
  · rw [hs] at hi
    obtain ⟨h0, o, h1, h2, h3⟩ := hstep i hi b a' w' u hr
    refine ⟨h0, o, h1, h2, ?_⟩
    exact wp_weak h3
  · rw [hs] at hV hS ⊢
    exact hend V w' hS hV (fun m hm => hB m (by rw [hs]; exact hm))
  · rw [hs] at hi
    simp [hi] at hbi
  · rw [hs] at hi
    simp [hi] at hbi
end
end Go.Proofs.Ytdifemaidngnjaa
