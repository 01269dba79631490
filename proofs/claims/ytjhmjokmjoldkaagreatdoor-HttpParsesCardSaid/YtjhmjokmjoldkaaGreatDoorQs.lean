/-
  A region that draws its order, parted: whatever order its first n operations come in, and behind them all a forced tail: the head is a region of its own.
-/
import Derived.StillTail
namespace Go.Proofs.YtjhmjokmjoldkaaGreatDoor
open Go
set_option linter.unusedVariables false
set_option maxRecDepth 100000

section
variable {P : Program} {ops : Array Oper} {md : Region.Mode} {Q : Exit → Act → World → Prop}

/-- Behind the head the tail is walked. -/
def headPost (P : Program) (ops : Array Oper) (T : List Oper) (Q : Exit → Act → World → Prop) : Exit → Act → World → Prop
  | .normal, a, w => wpList P ops Q T a w
  | e, a, w => Q e a w

theorem wp_head {T : List Oper} {o : Oper} {a : Act} {w : World} {K : Act → World → Prop} (hh : o.wp P a w K (headPost P ops T Q)) : o.wp P a w K Q := by
  unfold Oper.wp at *
  generalize (execOp a.eval o).run P w = r at *
  cases r with
  | ok n w' =>
    cases n <;> simp only [Oper.upon] at hh ⊢ <;>
      first
        | exact hh
        | exact Calls.mono hh (fun e w'' he => by cases e <;> exact he)
        | exact Rows.mono hh (fun _ _ he => he)
  | halt x w' => cases x <;> simp only [Oper.upon] at hh ⊢ <;> exact hh
theorem wpAny_succ : ∀ (f : Nat) (b : Array Bool) (a : Act) (w : World), wpAny P md ops Q f b a w → wpAny P md ops Q (f + 1) b a w
  | 0, b, a, w, h => ⟨fun _ => h.2, fun i hi => by rw [h.1] at hi; cases hi⟩
  | f + 1, b, a, w, h => ⟨h.1, fun i hi => wpOp_mono (fun a' w' h' => wpAny_succ f _ a' w' h') (h.2 i hi)⟩
theorem wpAny_more (f k : Nat) (b : Array Bool) (a : Act) (w : World) (h : wpAny P md ops Q f b a w) : wpAny P md ops Q (f + k) b a w := by
  induction k with
  | zero => exact h
  | succ k ih => exact wpAny_succ _ _ _ _ ih

/-- Each operation of the head waits for earlier ones alone, and hangs on earlier ones alone. -/
def Region.fwdB (md : Region.Mode) (ops : Array Oper) (n : Nat) : Bool :=
  (List.range n).all fun i => match ops[i]? with
    | none => true
    | some o => (o.after.all fun e => !Region.binds md e || decide (e.on < i)) && (match o.guard with | none => true | some (j, _) => decide (j < n))
/-- The head listed, the tail not. -/
def Region.headDone (n m : Nat) : Array Bool := Array.replicate n true ++ Array.replicate m false
def Region.splitB (md : Region.Mode) (ops : Array Oper) (n : Nat) : Bool :=
  decide (n < ops.size) && Region.sinkB md ops n && Region.chainB md ops n && Region.fwdB md ops n && Region.seqB md ops (ops.size - n) n (Region.headDone n (ops.size - n))

theorem fwd_after {n i : Nat} {o : Oper} (h : Region.fwdB md ops n = true) (hi : i < n) (ho : ops[i]? = some o) : ∀ e ∈ o.after, Region.binds md e = true → e.on < i := by
  have := List.all_eq_true.1 h i (List.mem_range.2 hi)
  rw [ho] at this
  simp only [Bool.and_eq_true, Array.all_eq_true_iff_forall_mem, Bool.or_eq_true, Bool.not_eq_true', decide_eq_true_eq] at this
  intro e he hb
  rcases this.1 e he with h1 | h1
  · rw [hb] at h1; cases h1
  · exact h1
theorem fwd_guard {n i : Nat} {o : Oper} (h : Region.fwdB md ops n = true) (hi : i < n) (ho : ops[i]? = some o) : ∀ j v, o.guard = some (j, v) → j < n := by
  have := List.all_eq_true.1 h i (List.mem_range.2 hi)
  rw [ho] at this
  simp only [Bool.and_eq_true] at this
  intro j v hg
  have h2 := this.2
  rw [hg] at h2
  simpa using h2

/-- An unlisted operation of the head: then one is ready. -/
theorem head_ready {n : Nat} {b : Array Bool} (hf : Region.fwdB md ops n = true) (hn : n ≤ ops.size) : ∀ (i : Nat), i < n → b.getD i true = false → ∃ k, k < n ∧ k ∈ Region.ready md ops b := by
  intro i
  induction i using Nat.strongRecOn with
  | _ i ih =>
    intro hi hu
    obtain ⟨o, ho⟩ : ∃ o, ops[i]? = some o := ⟨_, Array.getElem?_eq_getElem (by omega)⟩
    by_cases hall : ∀ e ∈ o.after, Region.binds md e = true → b.getD e.on false = true
    · exact ⟨i, hi, mem_ready.2 ⟨hu, o, ho, hall⟩⟩
    · have : ∃ e, e ∈ o.after ∧ Region.binds md e = true ∧ b.getD e.on false = false := by
        apply Classical.byContradiction
        intro hno
        refine hall fun e he hb => ?_
        cases hv : b.getD e.on false with
        | true => rfl
        | false => exact absurd ⟨e, he, hb, hv⟩ hno
      obtain ⟨e, he, hb, hv⟩ := this
      have hlt := fwd_after hf hi ho e he hb
      by_cases hin : e.on < b.size
      · exact ih e.on hlt (by omega) (getD_in hin hv)
      · exfalso
        have : b.getD i true = true := by
          rw [Array.getD_eq_getD_getElem?, Array.getElem?_eq_none (by omega)]; rfl
        rw [hu] at this
        cases this

theorem split_runs {n : Nat} {T : List Oper} {hops : Array Oper} (hh : ∀ i, i < n → hops[i]? = ops[i]?) (hsz : hops.size = n) (hn : n < ops.size)
    (hs : Region.sinkB md ops n = true) (hc : Region.chainB md ops n = true) (hf : Region.fwdB md ops n = true) (hT : ∀ j, T[j]? = ops[n + j]?) (hTl : T.length = ops.size - n)
    (hq : Region.seqB md ops T.length n (Region.headDone n (ops.size - n)) = true) :
    ∀ (f : Nat) (b b' : Array Bool) (a : Act) (w : World), HeadInv md ops n b → b'.size = n → (∀ i, i < n → b.getD i true = b'.getD i true) → wpAny P md hops (headPost P ops T Q) f b' a w → wpAny P md ops Q (f + T.length) b a w := by
  have hread : ∀ (b b' : Array Bool), HeadInv md ops n b → b'.size = n → (∀ i, i < n → b.getD i true = b'.getD i true) → ∀ i, i < n → (i ∈ Region.ready md ops b ↔ i ∈ Region.ready md hops b') := by
    intro b b' inv hb' he i hi
    rw [mem_ready, mem_ready, hh i hi, he i hi]
    refine and_congr_right fun _ => ⟨fun ⟨o, ho, hall⟩ => ⟨o, ho, fun e hm hb => ?_⟩, fun ⟨o, ho, hall⟩ => ⟨o, ho, fun e hm hb => ?_⟩⟩
    · have hlt := fwd_after hf hi ho e hm hb
      have h1 := hall e hm hb
      have h2 := he e.on (by omega)
      have hb1 : e.on < b.size := by rw [inv.size]; omega
      have hb2 : e.on < b'.size := by omega
      simp [hb1, hb2] at h1 h2 ⊢
      rw [← h2]; exact h1
    · have hlt := fwd_after hf hi ho e hm hb
      have h1 := hall e hm hb
      have h2 := he e.on (by omega)
      have hb1 : e.on < b.size := by rw [inv.size]; omega
      have hb2 : e.on < b'.size := by omega
      simp [hb1, hb2] at h1 h2 ⊢
      rw [h2]; exact h1
  have hdone : ∀ (b b' : Array Bool), HeadInv md ops n b → b'.size = n → (∀ i, i < n → b.getD i true = b'.getD i true) → Region.ready md hops b' = [] → ∀ a w, wpList P ops Q T a w → wpAny P md ops Q T.length b a w := by
    intro b b' inv hb' he hr a w h
    have hall : ∀ i, i < n → b.getD i true = true := by
      intro i hi
      cases hv : b.getD i true with
      | true => rfl
      | false =>
        obtain ⟨k, hk, hkr⟩ := head_ready hf (by omega) i hi hv
        rw [hread b b' inv hb' he k hk, hr] at hkr
        cases hkr
    have hb : b = Region.headDone n (ops.size - n) := by
      apply Array.ext
      · rw [inv.size]; simp [Region.headDone]; omega
      · intro i h1 h2
        by_cases hi : i < n
        · have := hall i hi
          simp [h1] at this
          rw [this]
          simp [Region.headDone, hi]
        · have := inv.tail i (by omega) (by rw [← inv.size]; exact h1)
          simp [h1] at this
          rw [this]
          simp only [Region.headDone]
          rw [Array.getElem_append_right (by simp; omega)]
          simp
    rw [hb]
    exact wpAny_of_seq T n _ a w hT hq h
  intro f
  induction f with
  | zero =>
    intro b b' a w inv hb' he h
    rw [Nat.zero_add]
    exact hdone b b' inv hb' he h.1 a w h.2
  | succ f ih =>
    intro b b' a w inv hb' he h
    by_cases hr : Region.ready md hops b' = []
    · have := hdone b b' inv hb' he hr a w (h.1 hr)
      rw [Nat.add_comm]
      exact wpAny_more _ _ _ _ _ this
    · obtain ⟨k, hkr⟩ := List.exists_mem_of_ne_nil _ hr
      have hkn : k < n := by
        obtain ⟨_, o, ho, _⟩ := mem_ready.1 hkr
        have := (Array.getElem?_eq_some_iff.1 ho).1
        omega
      have hko := (hread b b' inv hb' he k hkn).2 hkr
      have hun : b.getD k true = false := (mem_ready.1 hko).1
      rw [Nat.succ_add]
      refine ⟨fun h0 => (by rw [h0] at hko; cases hko), fun i hi => ?_⟩
      have hin : i < n := Nat.lt_of_not_le fun hle => tail_waits hs hc hn inv _ k rfl hkn hun i hle hi
      have hi' := (hread b b' inv hb' he i hin).1 hi
      have hstep := h.2 i hi'
      have hK : ∀ a' w', wpAny P md hops (headPost P ops T Q) f (b'.setIfInBounds i true) a' w' → wpAny P md ops Q (f + T.length) (b.setIfInBounds i true) a' w' := by
        intro a' w' h'
        refine ih _ _ a' w' (inv.set hi hin) (by simp [hb']) (fun j hj => ?_) h'
        by_cases hij : i = j
        · subst hij
          have h1 : i < b.size := by rw [inv.size]; omega
          simp [h1, hb', hin]
        · rw [getD_set_ne true hij, getD_set_ne true hij]
          exact he j hj
      have hop := wpOp_mono (K' := wpAny P md ops Q (f + T.length) (b.setIfInBounds i true)) hK hstep
      unfold wpOp at hop ⊢
      rw [hh i hin] at hop
      cases ho : ops[i]? with
      | none => rw [ho] at hop; exact hop
      | some o =>
        rw [ho] at hop
        simp only at hop ⊢
        have hw : Region.wanted o (yielded hops a.tmps) = Region.wanted o (yielded ops a.tmps) := by
          unfold Region.wanted
          cases hg : o.guard with
          | none => rfl
          | some p =>
            obtain ⟨j, v⟩ := p
            have hj := fwd_guard hf hin ho j v hg
            simp only [yielded, hh j hj]
        rw [hw] at hop
        by_cases hwn : Region.wanted o (yielded ops a.tmps) = true
        · rw [if_pos hwn] at hop ⊢
          rcases hop with h1 | ⟨h1, h2⟩
          · exact .inl (wp_head h1)
          · exact .inr ⟨h1, h2⟩
        · rw [if_neg hwn] at hop ⊢
          exact hop

/-- The law: a drawn head, a forced tail. -/
theorem wp_region_split {id : Nat} {a : Act} {w : World} {l : List Oper} (n : Nat) (hm : P.follows .mixedOrders = true) (hB : Region.splitB .any l.toArray n = true)
    (h : wpAny P .any (l.take n).toArray (headPost P l.toArray (l.drop n) Q) n (Array.replicate n false) a { w with drawn := w.drawn + 1 }) : (Code.region id l.toArray true).wp P Q a w := by
  unfold Region.splitB at hB
  simp only [Bool.and_eq_true, decide_eq_true_eq] at hB
  obtain ⟨⟨⟨⟨hn, hs⟩, hc⟩, hf⟩, hq⟩ := hB
  have hn' : n < l.length := by simpa using hn
  have hTl : (l.drop n).length = l.toArray.size - n := by simp
  refine wp_region_any hm ?_
  have := split_runs (P := P) (Q := Q) (ops := l.toArray) (md := .any) (T := l.drop n) (hops := (l.take n).toArray) (fun i hi => by simp [List.getElem?_take_of_lt hi]) (by simp; omega) hn hs hc hf (fun j => by simp [List.getElem?_drop]) hTl (by rw [hTl]; exact hq) n (Array.replicate l.toArray.size false) (Array.replicate n false) a _
    ⟨by simp, fun j oj _ hj => (by rw [getD_replicate_false] at hj; cases hj), fun t _ ht => getD_in (by simpa using ht) (getD_replicate_false _ _)⟩ (by simp)
    (fun i hi => by
      have h1 : i < l.length := by omega
      simp [hi, h1]) h
  rw [hTl, show n + (l.toArray.size - n) = l.toArray.size by omega] at this
  exact this
end
end Go.Proofs.YtjhmjokmjoldkaaGreatDoor
