/-
  A region that draws its order, parted: whatever order its first n operations come in, and behind them all a forced tail: the head is a region of its own.
  The head of a region that draws its order, walked by what each operation yields: whatever comes first, behind all of them every operation's value is what was said of it, in the world behind.
  The head of a region that draws its order, walked by what each operation yields, where the operations change the world each in its own way: what is said of a value, and a fact, holds while others change the world; a fact ends with one operation.
  As Qj; but what is said of a value and the world may end with one operation, too; what is said of the value alone stays; and what must come first has come.
  The head of a region that draws its order, walked by what is said of all that has been yielded, and of the world, at once.
-/
import Derived.StillTail
import Derived.Test.YtknpkifhkefikaaDoorGa
namespace Go.Proofs.YtknpkifhkefikaaDoor
open Go
set_option linter.unusedVariables false
set_option maxRecDepth 100000

section
variable {P : Program} {ops : Array Oper} {md : Region.Mode} {Q : Exit → Act → World → Prop}

/-- Behind the head the tail is walked. -/
def headPost (P : Program) (ops : Array Oper) (T : List Oper) (Q : Exit → Act → World → Prop) : Exit → Act → World → Prop
  | .normal, a, w => wpList P ops Q T a w
  | e, a, w => Q e a w

theorem wp_head {T : List Oper} {o : Oper} {a : Act} {w : World} {K : Act → World → Prop} (hh : o.wp P a w K (headPost P ops T Q)) : o.wp P a w K Q := by
  unfold Oper.wp at *
  generalize (execOp a.eval o).run P w = r at *
  cases r with
  | ok n w' =>
    cases n <;> simp only [Oper.upon] at hh ⊢ <;>
      first
        | exact hh
        | exact Calls.mono hh (fun e w'' he => by cases e <;> exact he)
        | exact Rows.mono hh (fun _ _ he => he)
  | halt x w' => cases x <;> simp only [Oper.upon] at hh ⊢ <;> exact hh
theorem wpAny_succ : ∀ (f : Nat) (b : Array Bool) (a : Act) (w : World), wpAny P md ops Q f b a w → wpAny P md ops Q (f + 1) b a w
  | 0, b, a, w, h => ⟨fun _ => h.2, fun i hi => by rw [h.1] at hi; cases hi⟩
  | f + 1, b, a, w, h => ⟨h.1, fun i hi => wpOp_mono (fun a' w' h' => wpAny_succ f _ a' w' h') (h.2 i hi)⟩
theorem wpAny_more (f k : Nat) (b : Array Bool) (a : Act) (w : World) (h : wpAny P md ops Q f b a w) : wpAny P md ops Q (f + k) b a w := by
  induction k with
  | zero => exact h
  | succ k ih => exact wpAny_succ _ _ _ _ ih

/-- Each operation of the head waits for earlier ones alone, and hangs on earlier ones alone. -/
def Region.fwdB (md : Region.Mode) (ops : Array Oper) (n : Nat) : Bool :=
  (List.range n).all fun i => match ops[i]? with
    | none => true
    | some o => (o.after.all fun e => !Region.binds md e || decide (e.on < i)) && (match o.guard with | none => true | some (j, _) => decide (j < n))
/-- The head listed, the tail not. -/
def Region.headDone (n m : Nat) : Array Bool := Array.replicate n true ++ Array.replicate m false
def Region.splitB (md : Region.Mode) (ops : Array Oper) (n : Nat) : Bool :=
  decide (n < ops.size) && Region.sinkB md ops n && Region.chainB md ops n && Region.fwdB md ops n && Region.seqB md ops (ops.size - n) n (Region.headDone n (ops.size - n))

theorem fwd_after {n i : Nat} {o : Oper} (h : Region.fwdB md ops n = true) (hi : i < n) (ho : ops[i]? = some o) : ∀ e ∈ o.after, Region.binds md e = true → e.on < i := by
  have := List.all_eq_true.1 h i (List.mem_range.2 hi)
  rw [ho] at this
  simp only [Bool.and_eq_true, Array.all_eq_true_iff_forall_mem, Bool.or_eq_true, Bool.not_eq_true', decide_eq_true_eq] at this
  intro e he hb
  rcases this.1 e he with h1 | h1
  · rw [hb] at h1; cases h1
  · exact h1
theorem fwd_guard {n i : Nat} {o : Oper} (h : Region.fwdB md ops n = true) (hi : i < n) (ho : ops[i]? = some o) : ∀ j v, o.guard = some (j, v) → j < n := by
  have := List.all_eq_true.1 h i (List.mem_range.2 hi)
  rw [ho] at this
  simp only [Bool.and_eq_true] at this
  intro j v hg
  have h2 := this.2
  rw [hg] at h2
  simpa using h2

/-- An unlisted operation of the head: then one is ready. -/
theorem head_ready {n : Nat} {b : Array Bool} (hf : Region.fwdB md ops n = true) (hn : n ≤ ops.size) : ∀ (i : Nat), i < n → b.getD i true = false → ∃ k, k < n ∧ k ∈ Region.ready md ops b := by
  intro i
  induction i using Nat.strongRecOn with
  | _ i ih =>
    intro hi hu
    obtain ⟨o, ho⟩ : ∃ o, ops[i]? = some o := ⟨_, Array.getElem?_eq_getElem (by omega)⟩
    by_cases hall : ∀ e ∈ o.after, Region.binds md e = true → b.getD e.on false = true
    · exact ⟨i, hi, mem_ready.2 ⟨hu, o, ho, hall⟩⟩
    · have : ∃ e, e ∈ o.after ∧ Region.binds md e = true ∧ b.getD e.on false = false := by
        apply Classical.byContradiction
        intro hno
        refine hall fun e he hb => ?_
        cases hv : b.getD e.on false with
        | true => rfl
        | false => exact absurd ⟨e, he, hb, hv⟩ hno
      obtain ⟨e, he, hb, hv⟩ := this
      have hlt := fwd_after hf hi ho e he hb
      by_cases hin : e.on < b.size
      · exact ih e.on hlt (by omega) (getD_in hin hv)
      · exfalso
        have : b.getD i true = true := by
          rw [Array.getD_eq_getD_getElem?, Array.getElem?_eq_none (by omega)]; rfl
        rw [hu] at this
        cases this

theorem split_runs {n : Nat} {T : List Oper} {hops : Array Oper} (hh : ∀ i, i < n → hops[i]? = ops[i]?) (hsz : hops.size = n) (hn : n < ops.size)
    (hs : Region.sinkB md ops n = true) (hc : Region.chainB md ops n = true) (hf : Region.fwdB md ops n = true) (hT : ∀ j, T[j]? = ops[n + j]?) (hTl : T.length = ops.size - n)
    (hq : Region.seqB md ops T.length n (Region.headDone n (ops.size - n)) = true) :
    ∀ (f : Nat) (b b' : Array Bool) (a : Act) (w : World), HeadInv md ops n b → b'.size = n → (∀ i, i < n → b.getD i true = b'.getD i true) → wpAny P md hops (headPost P ops T Q) f b' a w → wpAny P md ops Q (f + T.length) b a w := by
  have hread : ∀ (b b' : Array Bool), HeadInv md ops n b → b'.size = n → (∀ i, i < n → b.getD i true = b'.getD i true) → ∀ i, i < n → (i ∈ Region.ready md ops b ↔ i ∈ Region.ready md hops b') := by
    intro b b' inv hb' he i hi
    rw [mem_ready, mem_ready, hh i hi, he i hi]
    refine and_congr_right fun _ => ⟨fun ⟨o, ho, hall⟩ => ⟨o, ho, fun e hm hb => ?_⟩, fun ⟨o, ho, hall⟩ => ⟨o, ho, fun e hm hb => ?_⟩⟩
    · have hlt := fwd_after hf hi ho e hm hb
      have h1 := hall e hm hb
      have h2 := he e.on (by omega)
      have hb1 : e.on < b.size := by rw [inv.size]; omega
      have hb2 : e.on < b'.size := by omega
      simp [hb1, hb2] at h1 h2 ⊢
      rw [← h2]; exact h1
    · have hlt := fwd_after hf hi ho e hm hb
      have h1 := hall e hm hb
      have h2 := he e.on (by omega)
      have hb1 : e.on < b.size := by rw [inv.size]; omega
      have hb2 : e.on < b'.size := by omega
      simp [hb1, hb2] at h1 h2 ⊢
      rw [h2]; exact h1
  have hdone : ∀ (b b' : Array Bool), HeadInv md ops n b → b'.size = n → (∀ i, i < n → b.getD i true = b'.getD i true) → Region.ready md hops b' = [] → ∀ a w, wpList P ops Q T a w → wpAny P md ops Q T.length b a w := by
    intro b b' inv hb' he hr a w h
    have hall : ∀ i, i < n → b.getD i true = true := by
      intro i hi
      cases hv : b.getD i true with
      | true => rfl
      | false =>
        obtain ⟨k, hk, hkr⟩ := head_ready hf (by omega) i hi hv
        rw [hread b b' inv hb' he k hk, hr] at hkr
        cases hkr
    have hb : b = Region.headDone n (ops.size - n) := by
      apply Array.ext
      · rw [inv.size]; simp [Region.headDone]; omega
      · intro i h1 h2
        by_cases hi : i < n
        · have := hall i hi
          simp [h1] at this
          rw [this]
          simp [Region.headDone, hi]
        · have := inv.tail i (by omega) (by rw [← inv.size]; exact h1)
          simp [h1] at this
          rw [this]
          simp only [Region.headDone]
          rw [Array.getElem_append_right (by simp; omega)]
          simp
    rw [hb]
    exact wpAny_of_seq T n _ a w hT hq h
  intro f
  induction f with
  | zero =>
    intro b b' a w inv hb' he h
    rw [Nat.zero_add]
    exact hdone b b' inv hb' he h.1 a w h.2
  | succ f ih =>
    intro b b' a w inv hb' he h
    by_cases hr : Region.ready md hops b' = []
    · have := hdone b b' inv hb' he hr a w (h.1 hr)
      rw [Nat.add_comm]
      exact wpAny_more _ _ _ _ _ this
    · obtain ⟨k, hkr⟩ := List.exists_mem_of_ne_nil _ hr
      have hkn : k < n := by
        obtain ⟨_, o, ho, _⟩ := mem_ready.1 hkr
        have := (Array.getElem?_eq_some_iff.1 ho).1
        omega
      have hko := (hread b b' inv hb' he k hkn).2 hkr
      have hun : b.getD k true = false := (mem_ready.1 hko).1
      rw [Nat.succ_add]
      refine ⟨fun h0 => (by rw [h0] at hko; cases hko), fun i hi => ?_⟩
      have hin : i < n := Nat.lt_of_not_le fun hle => tail_waits hs hc hn inv _ k rfl hkn hun i hle hi
      have hi' := (hread b b' inv hb' he i hin).1 hi
      have hstep := h.2 i hi'
      have hK : ∀ a' w', wpAny P md hops (headPost P ops T Q) f (b'.setIfInBounds i true) a' w' → wpAny P md ops Q (f + T.length) (b.setIfInBounds i true) a' w' := by
        intro a' w' h'
        refine ih _ _ a' w' (inv.set hi hin) (by simp [hb']) (fun j hj => ?_) h'
        by_cases hij : i = j
        · subst hij
          have h1 : i < b.size := by rw [inv.size]; omega
          simp [h1, hb', hin]
        · rw [getD_set_ne true hij, getD_set_ne true hij]
          exact he j hj
      have hop := wpOp_mono (K' := wpAny P md ops Q (f + T.length) (b.setIfInBounds i true)) hK hstep
      unfold wpOp at hop ⊢
      rw [hh i hin] at hop
      cases ho : ops[i]? with
      | none => rw [ho] at hop; exact hop
      | some o =>
        rw [ho] at hop
        simp only at hop ⊢
        have hw : Region.wanted o (yielded hops a.tmps) = Region.wanted o (yielded ops a.tmps) := by
          unfold Region.wanted
          cases hg : o.guard with
          | none => rfl
          | some p =>
            obtain ⟨j, v⟩ := p
            have hj := fwd_guard hf hin ho j v hg
            simp only [yielded, hh j hj]
        rw [hw] at hop
        by_cases hwn : Region.wanted o (yielded ops a.tmps) = true
        · rw [if_pos hwn] at hop ⊢
          rcases hop with h1 | ⟨h1, h2⟩
          · exact .inl (wp_head h1)
          · exact .inr ⟨h1, h2⟩
        · rw [if_neg hwn] at hop ⊢
          exact hop

/-- The law: a drawn head, a forced tail. -/
theorem wp_region_split {id : Nat} {a : Act} {w : World} {l : List Oper} (n : Nat) (hm : P.follows .mixedOrders = true) (hB : Region.splitB .any l.toArray n = true)
    (h : wpAny P .any (l.take n).toArray (headPost P l.toArray (l.drop n) Q) n (Array.replicate n false) a { w with drawn := w.drawn + 1 }) : (Code.region id l.toArray true).wp P Q a w := by
  unfold Region.splitB at hB
  simp only [Bool.and_eq_true, decide_eq_true_eq] at hB
  obtain ⟨⟨⟨⟨hn, hs⟩, hc⟩, hf⟩, hq⟩ := hB
  have hn' : n < l.length := by simpa using hn
  have hTl : (l.drop n).length = l.toArray.size - n := by simp
  refine wp_region_any hm ?_
  have := split_runs (P := P) (Q := Q) (ops := l.toArray) (md := .any) (T := l.drop n) (hops := (l.take n).toArray) (fun i hi => by simp [List.getElem?_take_of_lt hi]) (by simp; omega) hn hs hc hf (fun j => by simp [List.getElem?_drop]) hTl (by rw [hTl]; exact hq) n (Array.replicate l.toArray.size false) (Array.replicate n false) a _
    ⟨by simp, fun j oj _ hj => (by rw [getD_replicate_false] at hj; cases hj), fun t _ ht => getD_in (by simpa using ht) (getD_replicate_false _ _)⟩ (by simp)
    (fun i hi => by
      have h1 : i < l.length := by omega
      simp [hi, h1]) h
  rw [hTl, show n + (l.toArray.size - n) = l.toArray.size by omega] at this
  exact this
end
end Go.Proofs.YtknpkifhkefikaaDoor
namespace Go.Proofs.YtknpkifhkefikaaDoor
open Go Go.RowKit
set_option linter.unusedVariables false
set_option maxRecDepth 100000

section
variable {P : Program} {ops : Array Oper} {md : Region.Mode} {Q : Exit → Act → World → Prop}

/-- What holds while the operations come up. -/
structure Under (ops : Array Oper) (d : Nat → Nat) (R : Nat → Value → World → Prop) (a0 : Act) (B : Nat) (w0 : World) (b : Array Bool) (a : Act) (w : World) : Prop where
  size : b.size = ops.size
  tmps : a.tmps.size = a0.tmps.size
  defers : a.defers = a0.defers
  old : ∀ j, (∀ i, i < ops.size → d i ≠ j) → a.tmps[j]? = a0.tmps[j]?
  got : ∀ i, i < ops.size → b.getD i true = true → ∃ v, a.tmps[d i]? = some v ∧ R i v w
  bel : Below B w0 w
  big : B ≤ w.heap.size

def putAll (d : Nat → Nat) (V : Nat → Value) : Nat → Act → Act
  | 0, a => a
  | n + 1, a => (putAll d V n a).put (some (d n)) (V n)
theorem putAll_size (d : Nat → Nat) (V : Nat → Value) : ∀ (n : Nat) (a : Act), (putAll d V n a).tmps.size = a.tmps.size
  | 0, _ => rfl
  | n + 1, a => by simp [putAll, Act.put, putAll_size d V n a]
theorem putAll_defers (d : Nat → Nat) (V : Nat → Value) : ∀ (n : Nat) (a : Act), (putAll d V n a).defers = a.defers
  | 0, _ => rfl
  | n + 1, a => by simp [putAll, Act.put, putAll_defers d V n a]
theorem putAll_old (d : Nat → Nat) (V : Nat → Value) : ∀ (n : Nat) (a : Act) (j : Nat), (∀ i, i < n → d i ≠ j) → (putAll d V n a).tmps[j]? = a.tmps[j]?
  | 0, _, _, _ => rfl
  | n + 1, a, j, h => by
    have := h n (by omega)
    simp only [putAll, Act.put]
    rw [Array.getElem?_setIfInBounds_ne this, putAll_old d V n a j fun i hi => h i (by omega)]
theorem putAll_at (d : Nat → Nat) (V : Nat → Value) : ∀ (n : Nat) (a : Act) (i : Nat), (∀ i j, i < n → j < n → d i = d j → i = j) → i < n → d i < a.tmps.size → (putAll d V n a).tmps[d i]? = some (V i)
  | n + 1, a, i, hinj, hi, hs => by
    simp only [putAll, Act.put]
    by_cases h : i = n
    · subst h
      rw [Array.getElem?_setIfInBounds_self_of_lt (by rw [putAll_size]; exact hs)]
    · rw [Array.getElem?_setIfInBounds_ne (fun e => h (hinj n i (by omega) (by omega) e).symm), putAll_at d V n a i (fun i j hi hj => hinj i j (by omega) (by omega)) (by omega) hs]

theorem count_set : ∀ (l : List Bool) (i : Nat), l[i]? = some false → (l.set i true).count false + 1 = l.count false
  | x :: l, 0, h => by
    simp at h
    subst h
    simp
  | x :: l, i + 1, h => by
    have := count_set l i (by simpa using h)
    simp only [List.set_cons_succ, List.count_cons]
    omega

theorem wpAny_under {d : Nat → Nat} {R : Nat → Value → World → Prop} {a0 : Act} {B : Nat} {w0 : World} (hf : Region.fwdB md ops ops.size = true)
    (hinj : ∀ i j, i < ops.size → j < ops.size → d i = d j → i = j) (hd : ∀ i, i < ops.size → d i < a0.tmps.size)
    (hstab : ∀ i v w w', R i v w → Below w.heap.size w w' → R i v w')
    (hstep : ∀ i, i < ops.size → ∀ b a w, Under ops d R a0 B w0 b a w → i ∈ Region.ready md ops b → ∃ o, ops[i]? = some o ∧ o.guard = none ∧ o.wp P a w (fun a' w' => ∃ v, a' = a.put (some (d i)) v ∧ R i v w' ∧ Below w.heap.size w w') Q)
    (hend : ∀ V w, (∀ i, i < ops.size → R i (V i) w) → Below B w0 w → B ≤ w.heap.size → Q .normal (putAll d V ops.size a0) w) :
    ∀ (f : Nat) (b : Array Bool) (a : Act) (w : World), b.toList.count false ≤ f → Under ops d R a0 B w0 b a w → wpAny P md ops Q f b a w := by
  have hfin : ∀ b a w, Under ops d R a0 B w0 b a w → Region.ready md ops b = [] → Q .normal a w := by
    intro b a w u hr
    have hall : ∀ i, i < ops.size → b.getD i true = true := by
      intro i hi
      cases hv : b.getD i true with
      | true => rfl
      | false =>
        obtain ⟨k, hk, hkr⟩ := head_ready hf (Nat.le_refl _) i hi hv
        rw [hr] at hkr
        cases hkr
    have hV : ∃ V : Nat → Value, ∀ i, i < ops.size → a.tmps[d i]? = some (V i) ∧ R i (V i) w := by
      refine ⟨fun i => (a.tmps[d i]?).getD undef, fun i hi => ?_⟩
      obtain ⟨v, h1, h2⟩ := u.got i hi (hall i hi)
      have e : (a.tmps[d i]?).getD undef = v := by rw [h1]; rfl
      simp only [e]
      exact ⟨h1, h2⟩
    obtain ⟨V, hV⟩ := hV
    have ha : a = putAll d V ops.size a0 := by
      have ht : a.tmps = (putAll d V ops.size a0).tmps := by
        apply Array.ext_getElem?
        intro j
        by_cases h : ∃ i, i < ops.size ∧ d i = j
        · obtain ⟨i, hi, rfl⟩ := h
          rw [(hV i hi).1, putAll_at d V ops.size a0 i hinj hi (hd i hi)]
        · have hno : ∀ i, i < ops.size → d i ≠ j := fun i hi e => h ⟨i, hi, e⟩
          rw [u.old j hno, putAll_old d V ops.size a0 j hno]
      have hdf : a.defers = (putAll d V ops.size a0).defers := u.defers.trans (putAll_defers d V ops.size a0).symm
      cases a
      cases hp : putAll d V ops.size a0
      rw [hp] at ht hdf
      simp only at ht hdf
      rw [ht, hdf]
    rw [ha]
    exact hend V w (fun i hi => (hV i hi).2) u.bel u.big
  intro f
  induction f with
  | zero =>
    intro b a w hc u
    have hr : Region.ready md ops b = [] := by
      apply List.eq_nil_iff_forall_not_mem.2
      intro i hi
      obtain ⟨hu, o, ho, _⟩ := mem_ready.1 hi
      have hib : i < b.size := by rw [u.size]; exact (Array.getElem?_eq_some_iff.1 ho).1
      simp [hib] at hu
      have h0 : b.toList.count false = 0 := by omega
      rw [List.count_eq_zero] at h0
      exact h0 (by rw [← hu]; simp)
    exact ⟨hr, hfin b a w u hr⟩
  | succ f ih =>
    intro b a w hc u
    refine ⟨fun hr => hfin b a w u hr, fun i hi => ?_⟩
    obtain ⟨hu, o', ho', _⟩ := mem_ready.1 hi
    have his : i < ops.size := (Array.getElem?_eq_some_iff.1 ho').1
    have hib : i < b.size := by rw [u.size]; exact his
    obtain ⟨o, ho, hg, hw⟩ := hstep i his b a w u hi
    unfold wpOp
    rw [ho]
    simp only
    rw [if_pos (by unfold Region.wanted; rw [hg])]
    refine .inl (Oper.wp_mono (fun a' w' h' => ?_) hw)
    obtain ⟨v, rfl, hR, hB⟩ := h'
    refine ih _ _ _ ?_ ⟨by simp [u.size], by simp [Act.put, u.tmps], u.defers, fun j hj => ?_, fun k hk hkb => ?_, Below.trans u.bel (hB.mono u.big), Nat.le_trans u.big hB.size⟩
    · have h1 : b.toList[i]? = some false := by
        simp [hib] at hu
        simp [hib, hu]
      have := count_set b.toList i h1
      rw [Array.toList_setIfInBounds]
      omega
    · simp only [Act.put]
      rw [Array.getElem?_setIfInBounds_ne (hj i his)]
      exact u.old j hj
    · simp only [Act.put]
      by_cases hki : k = i
      · subst hki
        exact ⟨v, Array.getElem?_setIfInBounds_self_of_lt (by rw [u.tmps]; exact hd k hk), hR⟩
      · rw [getD_set_ne true (Ne.symm hki)] at hkb
        obtain ⟨v', h1, h2⟩ := u.got k hk hkb
        exact ⟨v', by rw [Array.getElem?_setIfInBounds_ne (fun e => hki (hinj i k his hk e).symm)]; exact h1, hstab k v' w w' h2 hB⟩

/-- The way back from Q to what is asked behind the head. -/
theorem wp_weak {T : List Oper} {o : Oper} {a : Act} {w : World} {K : Act → World → Prop} (hh : o.wp P a w K Q) : o.wp P a w K (headPost P ops T Q) := by
  unfold Oper.wp at *
  generalize (execOp a.eval o).run P w = r at *
  cases r with
  | ok n w' =>
    cases n <;> simp only [Oper.upon] at hh ⊢ <;>
      first
        | exact hh
        | exact Calls.mono hh (fun e w'' he => by cases e <;> exact he)
        | exact Rows.mono hh (fun _ _ he => he)
  | halt x w' => cases x <;> simp only [Oper.upon] at hh ⊢ <;> exact hh
/-- The law: a drawn head of operations whose values are said, a forced tail. -/
theorem wp_region_under {id : Nat} {a : Act} {w : World} {l : List Oper} (n : Nat) (hm : P.follows .mixedOrders = true) (hB : Region.splitB .any l.toArray n = true) (hF : Region.fwdB .any (l.take n).toArray n = true) (hn : (l.take n).length = n)
    {d : Nat → Nat} {R : Nat → Value → World → Prop} {B : Nat} (hb : B ≤ w.heap.size)
    (hinj : ∀ i j, i < n → j < n → d i = d j → i = j) (hd : ∀ i, i < n → d i < a.tmps.size)
    (hstab : ∀ i v w w', R i v w → Below w.heap.size w w' → R i v w')
    (hstep : ∀ i, i < n → ∀ b a' w', Under (l.take n).toArray d R a B w b a' w' → i ∈ Region.ready .any (l.take n).toArray b → ∃ o, (l.take n).toArray[i]? = some o ∧ o.guard = none ∧ o.wp P a' w' (fun a2 w2 => ∃ v, a2 = a'.put (some (d i)) v ∧ R i v w2 ∧ Below w'.heap.size w' w2) Q)
    (hend : ∀ V w', (∀ i, i < n → R i (V i) w') → Below B w w' → B ≤ w'.heap.size → wpList P l.toArray Q (l.drop n) (putAll d V n a) w') : (Code.region id l.toArray true).wp P Q a w := by
  have hs : (l.take n).toArray.size = n := by simpa using hn
  refine wp_region_split n hm hB ?_
  refine wpAny_under (ops := (l.take n).toArray) (d := d) (R := R) (a0 := a) (B := B) (w0 := w) (by rw [hs]; exact hF) (by rw [hs]; exact hinj) (by rw [hs]; exact hd) hstab (fun i hi b a' w' u hr => ?_) (fun V w' hV hB hb => ?_) n _ a _ (by simp) ⟨by simp [hs], rfl, rfl, fun _ _ => rfl, fun i hi hbi => ?_, ⟨rfl, rfl, rfl, Nat.le_refl _, fun _ _ => rfl⟩, hb⟩
  · rw [hs] at hi
    obtain ⟨o, h1, h2, h3⟩ := hstep i hi b a' w' u hr
    refine ⟨o, h1, h2, ?_⟩
    exact wp_weak h3
  · rw [hs] at hV ⊢
    exact hend V w' hV hB hb
  · rw [hs] at hi
    simp [hi] at hbi
end
end Go.Proofs.YtknpkifhkefikaaDoor
namespace Go.Proofs.YtknpkifhkefikaaDoor
open Go Go.RowKit
set_option linter.unusedVariables false
set_option maxRecDepth 100000

section
variable {P : Program} {ops : Array Oper} {md : Region.Mode} {Q : Exit → Act → World → Prop}

/-- What holds while the operations come up. -/
structure Lane (ops : Array Oper) (d : Nat → Nat) (R : Nat → Value → World → Prop) (F : Nat → World → Prop) (kill : Nat → Nat) (a0 : Act) (b : Array Bool) (a : Act) (w : World) : Prop where
  size : b.size = ops.size
  tmps : a.tmps.size = a0.tmps.size
  defers : a.defers = a0.defers
  old : ∀ j, (∀ i, i < ops.size → d i ≠ j) → a.tmps[j]? = a0.tmps[j]?
  got : ∀ i, i < ops.size → b.getD i true = true → ∃ v, a.tmps[d i]? = some v ∧ R i v w
  fact : ∀ m, b.getD (kill m) false = false → F m w

theorem wpAny_lane {d : Nat → Nat} {R : Nat → Value → World → Prop} {F : Nat → World → Prop} {kill : Nat → Nat} {Rel : Nat → World → World → Prop} {a0 : Act} (hf : Region.fwdB md ops ops.size = true)
    (hinj : ∀ i j, i < ops.size → j < ops.size → d i = d j → i = j) (hd : ∀ i, i < ops.size → d i < a0.tmps.size)
    (hstab : ∀ i j v w w', i ≠ j → Rel j w w' → R i v w → R i v w')
    (hkeep : ∀ m j w w', j ≠ kill m → Rel j w w' → F m w → F m w')
    (hstep : ∀ i, i < ops.size → ∀ b a w, Lane ops d R F kill a0 b a w → i ∈ Region.ready md ops b → ∃ o, ops[i]? = some o ∧ o.guard = none ∧ o.wp P a w (fun a' w' => ∃ v, a' = a.put (some (d i)) v ∧ R i v w' ∧ Rel i w w') Q)
    (hend : ∀ V w, (∀ i, i < ops.size → R i (V i) w) → (∀ m, ops.size ≤ kill m → F m w) → Q .normal (putAll d V ops.size a0) w) :
    ∀ (f : Nat) (b : Array Bool) (a : Act) (w : World), b.toList.count false ≤ f → Lane ops d R F kill a0 b a w → wpAny P md ops Q f b a w := by
  have hfin : ∀ b a w, Lane ops d R F kill a0 b a w → Region.ready md ops b = [] → Q .normal a w := by
    intro b a w u hr
    have hall : ∀ i, i < ops.size → b.getD i true = true := by
      intro i hi
      cases hv : b.getD i true with
      | true => rfl
      | false =>
        obtain ⟨k, hk, hkr⟩ := head_ready hf (Nat.le_refl _) i hi hv
        rw [hr] at hkr
        cases hkr
    have hV : ∃ V : Nat → Value, ∀ i, i < ops.size → a.tmps[d i]? = some (V i) ∧ R i (V i) w := by
      refine ⟨fun i => (a.tmps[d i]?).getD undef, fun i hi => ?_⟩
      obtain ⟨v, h1, h2⟩ := u.got i hi (hall i hi)
      have e : (a.tmps[d i]?).getD undef = v := by rw [h1]; rfl
      simp only [e]
      exact ⟨h1, h2⟩
    obtain ⟨V, hV⟩ := hV
    have ha : a = putAll d V ops.size a0 := by
      have ht : a.tmps = (putAll d V ops.size a0).tmps := by
        apply Array.ext_getElem?
        intro j
        by_cases h : ∃ i, i < ops.size ∧ d i = j
        · obtain ⟨i, hi, rfl⟩ := h
          rw [(hV i hi).1, putAll_at d V ops.size a0 i hinj hi (hd i hi)]
        · have hno : ∀ i, i < ops.size → d i ≠ j := fun i hi e => h ⟨i, hi, e⟩
          rw [u.old j hno, putAll_old d V ops.size a0 j hno]
      have hdf : a.defers = (putAll d V ops.size a0).defers := u.defers.trans (putAll_defers d V ops.size a0).symm
      cases a
      cases hp : putAll d V ops.size a0
      rw [hp] at ht hdf
      simp only at ht hdf
      rw [ht, hdf]
    rw [ha]
    exact hend V w (fun i hi => (hV i hi).2) (fun m hm => u.fact m (by simp [u.size, hm]))
  intro f
  induction f with
  | zero =>
    intro b a w hc u
    have hr : Region.ready md ops b = [] := by
      apply List.eq_nil_iff_forall_not_mem.2
      intro i hi
      obtain ⟨hu, o, ho, _⟩ := mem_ready.1 hi
      have hib : i < b.size := by rw [u.size]; exact (Array.getElem?_eq_some_iff.1 ho).1
      simp [hib] at hu
      have h0 : b.toList.count false = 0 := by omega
      rw [List.count_eq_zero] at h0
      exact h0 (by rw [← hu]; simp)
    exact ⟨hr, hfin b a w u hr⟩
  | succ f ih =>
    intro b a w hc u
    refine ⟨fun hr => hfin b a w u hr, fun i hi => ?_⟩
    obtain ⟨hu, o', ho', _⟩ := mem_ready.1 hi
    have his : i < ops.size := (Array.getElem?_eq_some_iff.1 ho').1
    have hib : i < b.size := by rw [u.size]; exact his
    obtain ⟨o, ho, hg, hw⟩ := hstep i his b a w u hi
    unfold wpOp
    rw [ho]
    simp only
    rw [if_pos (by unfold Region.wanted; rw [hg])]
    refine .inl (Oper.wp_mono (fun a' w' h' => ?_) hw)
    obtain ⟨v, rfl, hR, hB⟩ := h'
    refine ih _ _ _ ?_ ⟨by simp [u.size], by simp [Act.put, u.tmps], u.defers, fun j hj => ?_, fun k hk hkb => ?_, fun m hm => ?_⟩
    · have h1 : b.toList[i]? = some false := by
        simp [hib] at hu
        simp [hib, hu]
      have := count_set b.toList i h1
      rw [Array.toList_setIfInBounds]
      omega
    · simp only [Act.put]
      rw [Array.getElem?_setIfInBounds_ne (hj i his)]
      exact u.old j hj
    · simp only [Act.put]
      by_cases hki : k = i
      · subst hki
        exact ⟨v, Array.getElem?_setIfInBounds_self_of_lt (by rw [u.tmps]; exact hd k hk), hR⟩
      · rw [getD_set_ne true (Ne.symm hki)] at hkb
        obtain ⟨v', h1, h2⟩ := u.got k hk hkb
        exact ⟨v', by rw [Array.getElem?_setIfInBounds_ne (fun e => hki (hinj i k his hk e).symm)]; exact h1, hstab k i v' w w' hki hB h2⟩
    · have hne : i ≠ kill m := fun e => by
        rw [← e] at hm
        simp [hib] at hm
      have hm2 : b.getD (kill m) false = false := by
        rw [getD_set_ne false hne] at hm
        exact hm
      exact hkeep m i w w' hne hB (u.fact m hm2)

/-- The law: a drawn head of operations whose values are said, a forced tail. -/
theorem wp_region_lane {id : Nat} {a : Act} {w : World} {l : List Oper} (n : Nat) (hm : P.follows .mixedOrders = true) (hB : Region.splitB .any l.toArray n = true) (hF : Region.fwdB .any (l.take n).toArray n = true) (hn : (l.take n).length = n)
    {d : Nat → Nat} {R : Nat → Value → World → Prop} {F : Nat → World → Prop} {kill : Nat → Nat} {Rel : Nat → World → World → Prop}
    (hinj : ∀ i j, i < n → j < n → d i = d j → i = j) (hd : ∀ i, i < n → d i < a.tmps.size)
    (hstab : ∀ i j v w w', i ≠ j → Rel j w w' → R i v w → R i v w')
    (hkeep : ∀ m j w w', j ≠ kill m → Rel j w w' → F m w → F m w') (h0 : ∀ m, F m w.drew)
    (hstep : ∀ i, i < n → ∀ b a' w', Lane (l.take n).toArray d R F kill a b a' w' → i ∈ Region.ready .any (l.take n).toArray b → ∃ o, (l.take n).toArray[i]? = some o ∧ o.guard = none ∧ o.wp P a' w' (fun a2 w2 => ∃ v, a2 = a'.put (some (d i)) v ∧ R i v w2 ∧ Rel i w' w2) Q)
    (hend : ∀ V w', (∀ i, i < n → R i (V i) w') → (∀ m, n ≤ kill m → F m w') → wpList P l.toArray Q (l.drop n) (putAll d V n a) w') : (Code.region id l.toArray true).wp P Q a w := by
  have hs : (l.take n).toArray.size = n := by simpa using hn
  refine wp_region_split n hm hB ?_
  refine wpAny_lane (ops := (l.take n).toArray) (d := d) (R := R) (F := F) (kill := kill) (Rel := Rel) (a0 := a) (by rw [hs]; exact hF) (by rw [hs]; exact hinj) (by rw [hs]; exact hd) hstab hkeep (fun i hi b a' w' u hr => ?_) (fun V w' hV hB => ?_) n _ a _ (by simp) ⟨by simp [hs], rfl, rfl, fun _ _ => rfl, fun i hi hbi => ?_, fun m _ => h0 m⟩
  · rw [hs] at hi
    obtain ⟨o, h1, h2, h3⟩ := hstep i hi b a' w' u hr
    refine ⟨o, h1, h2, ?_⟩
    exact wp_weak h3
  · rw [hs] at hV ⊢
    exact hend V w' hV (fun m hm => hB m (by rw [hs]; exact hm))
  · rw [hs] at hi
    simp [hi] at hbi
end
end Go.Proofs.YtknpkifhkefikaaDoor
namespace Go.Proofs.YtknpkifhkefikaaDoor
open Go Go.RowKit
set_option linter.unusedVariables false
set_option maxRecDepth 100000

section
variable {P : Program} {ops : Array Oper} {md : Region.Mode} {Q : Exit → Act → World → Prop}

/-- What holds while the operations come up. -/
structure Lane2 (ops : Array Oper) (d : Nat → Nat) (pre : Nat → Nat → Prop) (S : Nat → Value → Prop) (R : Nat → Value → World → Prop) (killR : Nat → Nat) (F : Nat → World → Prop) (kill : Nat → Nat) (a0 : Act) (b : Array Bool) (a : Act) (w : World) : Prop where
  size : b.size = ops.size
  tmps : a.tmps.size = a0.tmps.size
  defers : a.defers = a0.defers
  old : ∀ j, (∀ i, i < ops.size → d i ≠ j) → a.tmps[j]? = a0.tmps[j]?
  got : ∀ i, i < ops.size → b.getD i true = true → ∃ v, a.tmps[d i]? = some v ∧ S i v ∧ (b.getD (killR i) false = false → R i v w)
  closed : ∀ i, i < ops.size → b.getD i true = true → ∀ j, pre i j → b.getD j true = true
  fact : ∀ m, b.getD (kill m) false = false → F m w

theorem wpAny_lane2 {d : Nat → Nat} {pre : Nat → Nat → Prop} {S : Nat → Value → Prop} {R : Nat → Value → World → Prop} {killR : Nat → Nat} {F : Nat → World → Prop} {kill : Nat → Nat} {Rel : Nat → World → World → Prop} {a0 : Act} (hf : Region.fwdB md ops ops.size = true)
    (hinj : ∀ i j, i < ops.size → j < ops.size → d i = d j → i = j) (hd : ∀ i, i < ops.size → d i < a0.tmps.size)
    (hstab : ∀ i j v w w', i ≠ j → ¬ pre i j → j ≠ killR i → Rel j w w' → S i v → R i v w → R i v w')
    (hkeep : ∀ m j w w', j ≠ kill m → (pre j (kill m) → ops.size ≤ kill m) → Rel j w w' → F m w → F m w')
    (hstep : ∀ i, i < ops.size → ∀ b a w, Lane2 ops d pre S R killR F kill a0 b a w → i ∈ Region.ready md ops b → (∀ j, pre i j → b.getD j true = true) ∧ ∃ o, ops[i]? = some o ∧ o.guard = none ∧ o.wp P a w (fun a' w' => ∃ v, a' = a.put (some (d i)) v ∧ S i v ∧ R i v w' ∧ Rel i w w') Q)
    (hend : ∀ V w, (∀ i, i < ops.size → S i (V i)) → (∀ i, i < ops.size → ops.size ≤ killR i → R i (V i) w) → (∀ m, ops.size ≤ kill m → F m w) → Q .normal (putAll d V ops.size a0) w) :
    ∀ (f : Nat) (b : Array Bool) (a : Act) (w : World), b.toList.count false ≤ f → Lane2 ops d pre S R killR F kill a0 b a w → wpAny P md ops Q f b a w := by
  have hfin : ∀ b a w, Lane2 ops d pre S R killR F kill a0 b a w → Region.ready md ops b = [] → Q .normal a w := by
    intro b a w u hr
    have hall : ∀ i, i < ops.size → b.getD i true = true := by
      intro i hi
      cases hv : b.getD i true with
      | true => rfl
      | false =>
        obtain ⟨k, hk, hkr⟩ := head_ready hf (Nat.le_refl _) i hi hv
        rw [hr] at hkr
        cases hkr
    have hV : ∃ V : Nat → Value, ∀ i, i < ops.size → a.tmps[d i]? = some (V i) ∧ S i (V i) ∧ (ops.size ≤ killR i → R i (V i) w) := by
      refine ⟨fun i => (a.tmps[d i]?).getD undef, fun i hi => ?_⟩
      obtain ⟨v, h1, h2, h3⟩ := u.got i hi (hall i hi)
      have e : (a.tmps[d i]?).getD undef = v := by rw [h1]; rfl
      simp only [e]
      exact ⟨h1, h2, fun hk => h3 (by simp [u.size, hk])⟩
    obtain ⟨V, hV⟩ := hV
    have ha : a = putAll d V ops.size a0 := by
      have ht : a.tmps = (putAll d V ops.size a0).tmps := by
        apply Array.ext_getElem?
        intro j
        by_cases h : ∃ i, i < ops.size ∧ d i = j
        · obtain ⟨i, hi, rfl⟩ := h
          rw [(hV i hi).1, putAll_at d V ops.size a0 i hinj hi (hd i hi)]
        · have hno : ∀ i, i < ops.size → d i ≠ j := fun i hi e => h ⟨i, hi, e⟩
          rw [u.old j hno, putAll_old d V ops.size a0 j hno]
      have hdf : a.defers = (putAll d V ops.size a0).defers := u.defers.trans (putAll_defers d V ops.size a0).symm
      cases a
      cases hp : putAll d V ops.size a0
      rw [hp] at ht hdf
      simp only at ht hdf
      rw [ht, hdf]
    rw [ha]
    exact hend V w (fun i hi => (hV i hi).2.1) (fun i hi hk => (hV i hi).2.2 hk) (fun m hm => u.fact m (by simp [u.size, hm]))
  intro f
  induction f with
  | zero =>
    intro b a w hc u
    have hr : Region.ready md ops b = [] := by
      apply List.eq_nil_iff_forall_not_mem.2
      intro i hi
      obtain ⟨hu, o, ho, _⟩ := mem_ready.1 hi
      have hib : i < b.size := by rw [u.size]; exact (Array.getElem?_eq_some_iff.1 ho).1
      simp [hib] at hu
      have h0 : b.toList.count false = 0 := by omega
      rw [List.count_eq_zero] at h0
      exact h0 (by rw [← hu]; simp)
    exact ⟨hr, hfin b a w u hr⟩
  | succ f ih =>
    intro b a w hc u
    refine ⟨fun hr => hfin b a w u hr, fun i hi => ?_⟩
    obtain ⟨hu, o', ho', _⟩ := mem_ready.1 hi
    have his : i < ops.size := (Array.getElem?_eq_some_iff.1 ho').1
    have hib : i < b.size := by rw [u.size]; exact his
    obtain ⟨hpre, o, ho, hg, hw⟩ := hstep i his b a w u hi
    have hup : ∀ j, b.getD j true = true → (b.setIfInBounds i true).getD j true = true := by
      intro j hj
      by_cases e : j = i
      · subst e
        simp [hib]
      · rw [getD_set_ne true (Ne.symm e)]
        exact hj
    unfold wpOp
    rw [ho]
    simp only
    rw [if_pos (by unfold Region.wanted; rw [hg])]
    refine .inl (Oper.wp_mono (fun a' w' h' => ?_) hw)
    obtain ⟨v, rfl, hS, hR, hB⟩ := h'
    refine ih _ _ _ ?_ ⟨by simp [u.size], by simp [Act.put, u.tmps], u.defers, fun j hj => ?_, fun k hk hkb => ?_, fun k hk hkb j hj => ?_, fun m hm => ?_⟩
    · have h1 : b.toList[i]? = some false := by
        simp [hib] at hu
        simp [hib, hu]
      have := count_set b.toList i h1
      rw [Array.toList_setIfInBounds]
      omega
    · simp only [Act.put]
      rw [Array.getElem?_setIfInBounds_ne (hj i his)]
      exact u.old j hj
    · simp only [Act.put]
      by_cases hki : k = i
      · subst hki
        exact ⟨v, Array.getElem?_setIfInBounds_self_of_lt (by rw [u.tmps]; exact hd k hk), hS, fun _ => hR⟩
      · rw [getD_set_ne true (Ne.symm hki)] at hkb
        obtain ⟨v', h1, h2, h3⟩ := u.got k hk hkb
        have hnp : ¬ pre k i := fun e => by
          have := u.closed k hk hkb i e
          simp [hib] at hu this
          rw [hu] at this
          cases this
        refine ⟨v', by rw [Array.getElem?_setIfInBounds_ne (fun e => hki (hinj i k his hk e).symm)]; exact h1, h2, fun hm => ?_⟩
        have hne : i ≠ killR k := fun e => by
          rw [← e] at hm
          simp [hib] at hm
        rw [getD_set_ne false hne] at hm
        exact hstab k i v' w w' hki hnp hne hB h2 (h3 hm)
    · by_cases hki : k = i
      · subst hki
        exact hup j (hpre j hj)
      · rw [getD_set_ne true (Ne.symm hki)] at hkb
        exact hup j (u.closed k hk hkb j hj)
    · have hne : i ≠ kill m := fun e => by
        rw [← e] at hm
        simp [hib] at hm
      have hm2 : b.getD (kill m) false = false := by
        rw [getD_set_ne false hne] at hm
        exact hm
      refine hkeep m i w w' hne (fun hp => ?_) hB (u.fact m hm2)
      have h3 := hpre (kill m) hp
      rcases Nat.lt_or_ge (kill m) ops.size with h4 | h4
      · have h5 : kill m < b.size := by rw [u.size]; exact h4
        simp [h5] at h3 hm2
        rw [h3] at hm2
        cases hm2
      · exact h4

/-- The law: a drawn head of operations whose values are said, a forced tail. -/
theorem wp_region_lane2 {id : Nat} {a : Act} {w : World} {l : List Oper} (n : Nat) (hm : P.follows .mixedOrders = true) (hB : Region.splitB .any l.toArray n = true) (hF : Region.fwdB .any (l.take n).toArray n = true) (hn : (l.take n).length = n)
    {d : Nat → Nat} {pre : Nat → Nat → Prop} {S : Nat → Value → Prop} {R : Nat → Value → World → Prop} {killR : Nat → Nat} {F : Nat → World → Prop} {kill : Nat → Nat} {Rel : Nat → World → World → Prop}
    (hinj : ∀ i j, i < n → j < n → d i = d j → i = j) (hd : ∀ i, i < n → d i < a.tmps.size)
    (hstab : ∀ i j v w w', i ≠ j → ¬ pre i j → j ≠ killR i → Rel j w w' → S i v → R i v w → R i v w')
    (hkeep : ∀ m j w w', j ≠ kill m → (pre j (kill m) → n ≤ kill m) → Rel j w w' → F m w → F m w') (h0 : ∀ m, F m w.drew)
    (hstep : ∀ i, i < n → ∀ b a' w', Lane2 (l.take n).toArray d pre S R killR F kill a b a' w' → i ∈ Region.ready .any (l.take n).toArray b → (∀ j, pre i j → b.getD j true = true) ∧ ∃ o, (l.take n).toArray[i]? = some o ∧ o.guard = none ∧ o.wp P a' w' (fun a2 w2 => ∃ v, a2 = a'.put (some (d i)) v ∧ S i v ∧ R i v w2 ∧ Rel i w' w2) Q)
    (hend : ∀ V w', (∀ i, i < n → S i (V i)) → (∀ i, i < n → n ≤ killR i → R i (V i) w') → (∀ m, n ≤ kill m → F m w') → wpList P l.toArray Q (l.drop n) (putAll d V n a) w') : (Code.region id l.toArray true).wp P Q a w := by
  have hs : (l.take n).toArray.size = n := by simpa using hn
  refine wp_region_split n hm hB ?_
  refine wpAny_lane2 (ops := (l.take n).toArray) (d := d) (pre := pre) (S := S) (R := R) (killR := killR) (F := F) (kill := kill) (Rel := Rel) (a0 := a) (by rw [hs]; exact hF) (by rw [hs]; exact hinj) (by rw [hs]; exact hd) hstab (by rw [hs]; exact hkeep) (fun i hi b a' w' u hr => ?_) (fun V w' hS hV hB => ?_) n _ a _ (by simp) ⟨by simp [hs], rfl, rfl, fun _ _ => rfl, fun i hi hbi => ?_, fun i hi hbi => ?_, fun m _ => h0 m⟩
  · rw [hs] at hi
    obtain ⟨h0, o, h1, h2, h3⟩ := hstep i hi b a' w' u hr
    refine ⟨h0, o, h1, h2, ?_⟩
    exact wp_weak h3
  · rw [hs] at hV hS ⊢
    exact hend V w' hS hV (fun m hm => hB m (by rw [hs]; exact hm))
  · rw [hs] at hi
    simp [hi] at hbi
  · rw [hs] at hi
    simp [hi] at hbi
end
end Go.Proofs.YtknpkifhkefikaaDoor
namespace Go.Proofs.YtknpkifhkefikaaDoor
open Go Go.RowKit
set_option linter.unusedVariables false
set_option maxRecDepth 100000

def updD (D : Nat → Option Value) (i : Nat) (v : Value) : Nat → Option Value := fun j => if j = i then some v else D j
theorem updD_ne {D : Nat → Option Value} {i j : Nat} {v : Value} (h : j ≠ i) : updD D i v j = D j := if_neg h
theorem updD_eq {D : Nat → Option Value} {i : Nat} {v : Value} : updD D i v i = some v := if_pos rfl
section
variable {P : Program} {ops : Array Oper} {md : Region.Mode} {Q : Exit → Act → World → Prop}

/-- What holds while the operations come up. -/
structure LaneJ (ops : Array Oper) (d : Nat → Nat) (S : Nat → Value → Prop) (J : (Nat → Option Value) → World → Prop) (a0 : Act) (b : Array Bool) (D : Nat → Option Value) (a : Act) (w : World) : Prop where
  size : b.size = ops.size
  tmps : a.tmps.size = a0.tmps.size
  defers : a.defers = a0.defers
  old : ∀ j, (∀ i, i < ops.size → d i ≠ j) → a.tmps[j]? = a0.tmps[j]?
  got : ∀ i, i < ops.size → b.getD i true = true → ∃ v, D i = some v ∧ a.tmps[d i]? = some v ∧ S i v
  no : ∀ i, i < ops.size → b.getD i true = false → D i = none
  inv : J D w

theorem wpAny_laneJ {d : Nat → Nat} {S : Nat → Value → Prop} {J : (Nat → Option Value) → World → Prop} {a0 : Act} (hf : Region.fwdB md ops ops.size = true)
    (hinj : ∀ i j, i < ops.size → j < ops.size → d i = d j → i = j) (hd : ∀ i, i < ops.size → d i < a0.tmps.size)
    (hstep : ∀ i, i < ops.size → ∀ b D a w, LaneJ ops d S J a0 b D a w → D i = none → i ∈ Region.ready md ops b → ∃ o, ops[i]? = some o ∧ o.guard = none ∧ o.wp P a w (fun a' w' => ∃ v, a' = a.put (some (d i)) v ∧ S i v ∧ J (updD D i v) w') Q)
    (hend : ∀ V D w, (∀ i, i < ops.size → D i = some (V i) ∧ S i (V i)) → J D w → Q .normal (putAll d V ops.size a0) w) :
    ∀ (f : Nat) (b : Array Bool) (D : Nat → Option Value) (a : Act) (w : World), b.toList.count false ≤ f → LaneJ ops d S J a0 b D a w → wpAny P md ops Q f b a w := by
  have hfin : ∀ b D a w, LaneJ ops d S J a0 b D a w → Region.ready md ops b = [] → Q .normal a w := by
    intro b D a w u hr
    have hall : ∀ i, i < ops.size → b.getD i true = true := by
      intro i hi
      cases hv : b.getD i true with
      | true => rfl
      | false =>
        obtain ⟨k, hk, hkr⟩ := head_ready hf (Nat.le_refl _) i hi hv
        rw [hr] at hkr
        cases hkr
    have hV : ∃ V : Nat → Value, ∀ i, i < ops.size → a.tmps[d i]? = some (V i) ∧ D i = some (V i) ∧ S i (V i) := by
      refine ⟨fun i => (a.tmps[d i]?).getD undef, fun i hi => ?_⟩
      obtain ⟨v, h0, h1, h2⟩ := u.got i hi (hall i hi)
      have e : (a.tmps[d i]?).getD undef = v := by rw [h1]; rfl
      simp only [e]
      exact ⟨h1, h0, h2⟩
    obtain ⟨V, hV⟩ := hV
    have ha : a = putAll d V ops.size a0 := by
      have ht : a.tmps = (putAll d V ops.size a0).tmps := by
        apply Array.ext_getElem?
        intro j
        by_cases h : ∃ i, i < ops.size ∧ d i = j
        · obtain ⟨i, hi, rfl⟩ := h
          rw [(hV i hi).1, putAll_at d V ops.size a0 i hinj hi (hd i hi)]
        · have hno : ∀ i, i < ops.size → d i ≠ j := fun i hi e => h ⟨i, hi, e⟩
          rw [u.old j hno, putAll_old d V ops.size a0 j hno]
      have hdf : a.defers = (putAll d V ops.size a0).defers := u.defers.trans (putAll_defers d V ops.size a0).symm
      cases a
      cases hp : putAll d V ops.size a0
      rw [hp] at ht hdf
      simp only at ht hdf
      rw [ht, hdf]
    rw [ha]
    exact hend V D w (fun i hi => (hV i hi).2) u.inv
  intro f
  induction f with
  | zero =>
    intro b D a w hc u
    have hr : Region.ready md ops b = [] := by
      apply List.eq_nil_iff_forall_not_mem.2
      intro i hi
      obtain ⟨hu, o, ho, _⟩ := mem_ready.1 hi
      have hib : i < b.size := by rw [u.size]; exact (Array.getElem?_eq_some_iff.1 ho).1
      simp [hib] at hu
      have h0 : b.toList.count false = 0 := by omega
      rw [List.count_eq_zero] at h0
      exact h0 (by rw [← hu]; simp)
    exact ⟨hr, hfin b D a w u hr⟩
  | succ f ih =>
    intro b D a w hc u
    refine ⟨fun hr => hfin b D a w u hr, fun i hi => ?_⟩
    obtain ⟨hu, o', ho', _⟩ := mem_ready.1 hi
    have his : i < ops.size := (Array.getElem?_eq_some_iff.1 ho').1
    have hib : i < b.size := by rw [u.size]; exact his
    have hno : D i = none := u.no i his (by simp [hib] at hu; simp [hib, hu])
    obtain ⟨o, ho, hg, hw⟩ := hstep i his b D a w u hno hi
    unfold wpOp
    rw [ho]
    simp only
    rw [if_pos (by unfold Region.wanted; rw [hg])]
    refine .inl (Oper.wp_mono (fun a' w' h' => ?_) hw)
    obtain ⟨v, rfl, hS, hJ⟩ := h'
    refine ih _ (updD D i v) _ _ ?_ ⟨by simp [u.size], by simp [Act.put, u.tmps], u.defers, fun j hj => ?_, fun k hk hkb => ?_, fun k hk hkb => ?_, hJ⟩
    · have h1 : b.toList[i]? = some false := by
        simp [hib] at hu
        simp [hib, hu]
      have := count_set b.toList i h1
      rw [Array.toList_setIfInBounds]
      omega
    · simp only [Act.put]
      rw [Array.getElem?_setIfInBounds_ne (hj i his)]
      exact u.old j hj
    · simp only [Act.put]
      by_cases hki : k = i
      · subst hki
        exact ⟨v, updD_eq, Array.getElem?_setIfInBounds_self_of_lt (by rw [u.tmps]; exact hd k hk), hS⟩
      · rw [getD_set_ne true (Ne.symm hki)] at hkb
        obtain ⟨v', h0, h1, h2⟩ := u.got k hk hkb
        exact ⟨v', by rw [updD_ne hki]; exact h0, by rw [Array.getElem?_setIfInBounds_ne (fun e => hki (hinj i k his hk e).symm)]; exact h1, h2⟩
    · by_cases hki : k = i
      · subst hki
        simp [hib] at hkb
      · rw [getD_set_ne true (Ne.symm hki)] at hkb
        rw [updD_ne hki]
        exact u.no k hk hkb

/-- The law: a drawn head of operations, a forced tail. -/
theorem wp_region_laneJ {id : Nat} {a : Act} {w : World} {l : List Oper} (n : Nat) (hm : P.follows .mixedOrders = true) (hB : Region.splitB .any l.toArray n = true) (hF : Region.fwdB .any (l.take n).toArray n = true) (hn : (l.take n).length = n)
    {d : Nat → Nat} {S : Nat → Value → Prop} {J : (Nat → Option Value) → World → Prop}
    (hinj : ∀ i j, i < n → j < n → d i = d j → i = j) (hd : ∀ i, i < n → d i < a.tmps.size)
    (h0 : J (fun _ => none) w.drew)
    (hstep : ∀ i, i < n → ∀ b D a' w', LaneJ (l.take n).toArray d S J a b D a' w' → D i = none → i ∈ Region.ready .any (l.take n).toArray b → ∃ o, (l.take n).toArray[i]? = some o ∧ o.guard = none ∧ o.wp P a' w' (fun a2 w2 => ∃ v, a2 = a'.put (some (d i)) v ∧ S i v ∧ J (updD D i v) w2) Q)
    (hend : ∀ V D w', (∀ i, i < n → D i = some (V i) ∧ S i (V i)) → J D w' → wpList P l.toArray Q (l.drop n) (putAll d V n a) w') : (Code.region id l.toArray true).wp P Q a w := by
  have hs : (l.take n).toArray.size = n := by simpa using hn
  refine wp_region_split n hm hB ?_
  refine wpAny_laneJ (ops := (l.take n).toArray) (d := d) (S := S) (J := J) (a0 := a) (by rw [hs]; exact hF) (by rw [hs]; exact hinj) (by rw [hs]; exact hd) (fun i hi b D a' w' u hno hr => ?_) (fun V D w' hV hJ => ?_) n _ (fun _ => none) a _ (by simp) ⟨by simp [hs], rfl, rfl, fun _ _ => rfl, fun i hi hbi => ?_, fun i hi _ => rfl, h0⟩
  · rw [hs] at hi
    obtain ⟨o, h1, h2, h3⟩ := hstep i hi b D a' w' u hno hr
    refine ⟨o, h1, h2, ?_⟩
    exact wp_weak h3
  · rw [hs] at hV ⊢
    exact hend V D w' hV hJ
  · rw [hs] at hi
    simp [hi] at hbi
end
end Go.Proofs.YtknpkifhkefikaaDoor
