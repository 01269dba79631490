/-
  A region that draws its order, parted: whatever order its first n operations come in, and behind them all operations that only read, in whatever order: the head walked by lanes (Qj), the rest once, in the text's order.
-/
import Derived.Test.YtdifemaidngnjaaQj
import Derived.Deep.Quiet
import Derived.Lib.QuietBelow
namespace Go.Proofs.Ytdifemaidngnjaa
open Go Go.RowKit Go.Sort
set_option linter.unusedVariables false
set_option maxRecDepth 100000

section
variable {P : Program} {ops : Array Oper} {md : Region.Mode} {Q : Exit → Act → World → Prop}

/-- Behind the head K is asked. -/
def headK (K : Act → World → Prop) (Q : Exit → Act → World → Prop) : Exit → Act → World → Prop
  | .normal, a, w => K a w
  | e, a, w => Q e a w

theorem wp_headK {L : Act → World → Prop} {o : Oper} {a : Act} {w : World} {K : Act → World → Prop} (hh : o.wp P a w K (headK L Q)) : o.wp P a w K Q := by
  unfold Oper.wp at *
  generalize (execOp a.eval o).run P w = r at *
  cases r with
  | ok n w' =>
    cases n <;> simp only [Oper.upon] at hh ⊢ <;>
      first
        | exact hh
        | exact Calls.mono hh (fun e w'' he => by cases e <;> exact he)
        | exact Rows.mono hh (fun _ _ he => he)
  | halt x w' => cases x <;> simp only [Oper.upon] at hh ⊢ <;> exact hh
theorem wp_weakK {L : Act → World → Prop} {o : Oper} {a : Act} {w : World} {K : Act → World → Prop} (hh : o.wp P a w K Q) : o.wp P a w K (headK L Q) := by
  unfold Oper.wp at *
  generalize (execOp a.eval o).run P w = r at *
  cases r with
  | ok n w' =>
    cases n <;> simp only [Oper.upon] at hh ⊢ <;>
      first
        | exact hh
        | exact Calls.mono hh (fun e w'' he => by cases e <;> exact he)
        | exact Rows.mono hh (fun _ _ he => he)
  | halt x w' => cases x <;> simp only [Oper.upon] at hh ⊢ <;> exact hh

/-- Each operation behind number n waits for one of the tail ahead of it. -/
def Region.backB (md : Region.Mode) (ops : Array Oper) (n : Nat) : Bool :=
  (List.range ops.size).all fun t => decide (t ≤ n) || (List.range t).any fun j => decide (n ≤ j) && Region.waitsFor md ops t j
def Region.partB (md : Region.Mode) (ops : Array Oper) (n : Nat) : Bool :=
  decide (n < ops.size) && Region.sinkB md ops n && Region.backB md ops n && Region.fwdB md ops n && Region.noSelect ops && Region.lexFrom md ops (ops.size - n) n (Region.headDone n (ops.size - n))

/-- What waits for an operation that isn't listed isn't ready. -/
theorem not_ready {b : Array Bool} {t j : Nat} (h : Region.waitsFor md ops t j = true) (hj : b.getD j false = false) : t ∉ Region.ready md ops b := by
  intro hr
  obtain ⟨_, o, ho, hall⟩ := mem_ready.1 hr
  obtain ⟨o', ho', e, he, hb, hon⟩ := Region.waitsFor_spec h
  have : o' = o := Option.some.inj (ho'.symm.trans ho)
  subst this
  have h2 := hall e he hb
  rw [hon, hj] at h2
  cases h2
theorem back_waits {n : Nat} {b : Array Bool} (hs : Region.sinkB md ops n = true) (hc : Region.backB md ops n = true) (hn : n < ops.size) (inv : HeadInv md ops n b) {i : Nat} (hi : i < n) (hu : b.getD i true = false) : ∀ t, n ≤ t → t ∉ Region.ready md ops b := by
  have key : ∀ (d i : Nat), n - i = d → i < n → b.getD i true = false → n ∉ Region.ready md ops b := by
    intro d
    induction d using Nat.strongRecOn with
    | _ d ih =>
      intro i hd hi hu
      have h1 := List.all_eq_true.1 hs i (List.mem_range.2 hi)
      obtain ⟨j, hj, hj2⟩ := List.any_eq_true.1 h1
      simp only [Bool.and_eq_true, decide_eq_true_eq] at hj2
      have hjle : j ≤ n := by have := List.mem_range.1 hj; omega
      by_cases hjn : j = n
      · subst hjn
        exact not_ready hj2.2 (getD_both hu)
      · obtain ⟨oj, hoj, e, he, hb, hon⟩ := Region.waitsFor_spec hj2.2
        cases hl : b.getD j false with
        | true =>
          have h2 := inv.closed j oj hoj hl e he hb
          rw [hon, getD_both hu] at h2
          cases h2
        | false =>
          have hjs : j < b.size := by rw [inv.size]; omega
          exact ih (n - j) (by omega) j rfl (by omega) (getD_in hjs hl)
  intro t ht
  by_cases e : t = n
  · rw [e]; exact key _ i rfl hi hu
  · intro hr
    have htl : t < ops.size := by
      obtain ⟨_, o, ho, _⟩ := mem_ready.1 hr
      exact (Array.getElem?_eq_some_iff.1 ho).1
    have h1 := List.all_eq_true.1 hc t (List.mem_range.2 htl)
    simp only [Bool.or_eq_true, decide_eq_true_eq] at h1
    rcases h1 with h1 | h1
    · omega
    · obtain ⟨j, hj, hj2⟩ := List.any_eq_true.1 h1
      simp only [Bool.and_eq_true, decide_eq_true_eq] at hj2
      have hjt := List.mem_range.1 hj
      exact not_ready hj2.2 (getD_both (inv.tail j hj2.1 (by omega))) hr

theorem part_runs {n m : Nat} {K : Act → World → Prop} {hops : Array Oper} (hh : ∀ i, i < n → hops[i]? = ops[i]?) (hsz : hops.size = n) (hn : n < ops.size)
    (hs : Region.sinkB md ops n = true) (hc : Region.backB md ops n = true) (hf : Region.fwdB md ops n = true)
    (hK : ∀ a w, K a w → wpAny P md ops Q m (Region.headDone n (ops.size - n)) a w) :
    ∀ (f : Nat) (b b' : Array Bool) (a : Act) (w : World), HeadInv md ops n b → b'.size = n → (∀ i, i < n → b.getD i true = b'.getD i true) → wpAny P md hops (headK K Q) f b' a w → wpAny P md ops Q (f + m) b a w := by
  have hread : ∀ (b b' : Array Bool), HeadInv md ops n b → b'.size = n → (∀ i, i < n → b.getD i true = b'.getD i true) → ∀ i, i < n → (i ∈ Region.ready md ops b ↔ i ∈ Region.ready md hops b') := by
    intro b b' inv hb' he i hi
    rw [mem_ready, mem_ready, hh i hi, he i hi]
    refine and_congr_right fun _ => ⟨fun ⟨o, ho, hall⟩ => ⟨o, ho, fun e hm hb => ?_⟩, fun ⟨o, ho, hall⟩ => ⟨o, ho, fun e hm hb => ?_⟩⟩
    · have hlt := fwd_after hf hi ho e hm hb
      have h1 := hall e hm hb
      have h2 := he e.on (by omega)
      have hb1 : e.on < b.size := by rw [inv.size]; omega
      have hb2 : e.on < b'.size := by omega
      simp [hb1, hb2] at h1 h2 ⊢
      rw [← h2]; exact h1
    · have hlt := fwd_after hf hi ho e hm hb
      have h1 := hall e hm hb
      have h2 := he e.on (by omega)
      have hb1 : e.on < b.size := by rw [inv.size]; omega
      have hb2 : e.on < b'.size := by omega
      simp [hb1, hb2] at h1 h2 ⊢
      rw [h2]; exact h1
  have hdone : ∀ (b b' : Array Bool), HeadInv md ops n b → b'.size = n → (∀ i, i < n → b.getD i true = b'.getD i true) → Region.ready md hops b' = [] → ∀ a w, K a w → wpAny P md ops Q m b a w := by
    intro b b' inv hb' he hr a w h
    have hall : ∀ i, i < n → b.getD i true = true := by
      intro i hi
      cases hv : b.getD i true with
      | true => rfl
      | false =>
        obtain ⟨k, hk, hkr⟩ := head_ready hf (by omega) i hi hv
        rw [hread b b' inv hb' he k hk, hr] at hkr
        cases hkr
    have hb : b = Region.headDone n (ops.size - n) := by
      apply Array.ext
      · rw [inv.size]; simp [Region.headDone]; omega
      · intro i h1 h2
        by_cases hi : i < n
        · have := hall i hi
          simp [h1] at this
          rw [this]
          simp [Region.headDone, hi]
        · have := inv.tail i (by omega) (by rw [← inv.size]; exact h1)
          simp [h1] at this
          rw [this]
          simp only [Region.headDone]
          rw [Array.getElem_append_right (by simp; omega)]
          simp
    rw [hb]
    exact hK a w h
  intro f
  induction f with
  | zero =>
    intro b b' a w inv hb' he h
    rw [Nat.zero_add]
    exact hdone b b' inv hb' he h.1 a w h.2
  | succ f ih =>
    intro b b' a w inv hb' he h
    by_cases hr : Region.ready md hops b' = []
    · have := hdone b b' inv hb' he hr a w (h.1 hr)
      rw [Nat.add_comm]
      exact wpAny_more _ _ _ _ _ this
    · obtain ⟨k, hkr⟩ := List.exists_mem_of_ne_nil _ hr
      have hkn : k < n := by
        obtain ⟨_, o, ho, _⟩ := mem_ready.1 hkr
        have := (Array.getElem?_eq_some_iff.1 ho).1
        omega
      have hko := (hread b b' inv hb' he k hkn).2 hkr
      have hun : b.getD k true = false := (mem_ready.1 hko).1
      rw [Nat.succ_add]
      refine ⟨fun h0 => (by rw [h0] at hko; cases hko), fun i hi => ?_⟩
      have hin : i < n := Nat.lt_of_not_le fun hle => back_waits hs hc hn inv hkn hun i hle hi
      have hi' := (hread b b' inv hb' he i hin).1 hi
      have hstep := h.2 i hi'
      have hK : ∀ a' w', wpAny P md hops (headK K Q) f (b'.setIfInBounds i true) a' w' → wpAny P md ops Q (f + m) (b.setIfInBounds i true) a' w' := by
        intro a' w' h'
        refine ih _ _ a' w' (inv.set hi hin) (by simp [hb']) (fun j hj => ?_) h'
        by_cases hij : i = j
        · subst hij
          have h1 : i < b.size := by rw [inv.size]; omega
          simp [h1, hb', hin]
        · rw [getD_set_ne true hij, getD_set_ne true hij]
          exact he j hj
      have hop := wpOp_mono (K' := wpAny P md ops Q (f + m) (b.setIfInBounds i true)) hK hstep
      unfold wpOp at hop ⊢
      rw [hh i hin] at hop
      cases ho : ops[i]? with
      | none => rw [ho] at hop; exact hop
      | some o =>
        rw [ho] at hop
        simp only at hop ⊢
        have hw : Region.wanted o (yielded hops a.tmps) = Region.wanted o (yielded ops a.tmps) := by
          unfold Region.wanted
          cases hg : o.guard with
          | none => rfl
          | some p =>
            obtain ⟨j, v⟩ := p
            have hj := fwd_guard hf hin ho j v hg
            simp only [yielded, hh j hj]
        rw [hw] at hop
        by_cases hwn : Region.wanted o (yielded ops a.tmps) = true
        · rw [if_pos hwn] at hop ⊢
          rcases hop with h1 | ⟨h1, h2⟩
          · exact .inl (wp_headK h1)
          · exact .inr ⟨h1, h2⟩
        · rw [if_neg hwn] at hop ⊢
          exact hop

/-- The law: a drawn head of operations whose values are said, a quiet rest. -/
theorem wp_region_lane2q {id : Nat} {a : Act} {w : World} {l : List Oper} (n : Nat) (hm : P.follows .mixedOrders = true) (hB : Region.partB .any l.toArray n = true) (hF : Region.fwdB .any (l.take n).toArray n = true) (hn : (l.take n).length = n)
    {d : Nat → Nat} {pre : Nat → Nat → Prop} {S : Nat → Value → Prop} {R : Nat → Value → World → Prop} {killR : Nat → Nat} {F : Nat → World → Prop} {kill : Nat → Nat} {Rel : Nat → World → World → Prop}
    (hinj : ∀ i j, i < n → j < n → d i = d j → i = j) (hd : ∀ i, i < n → d i < a.tmps.size)
    (hstab : ∀ i j v w w', i ≠ j → ¬ pre i j → j ≠ killR i → Rel j w w' → S i v → R i v w → R i v w')
    (hkeep : ∀ m j w w', j ≠ kill m → (pre j (kill m) → n ≤ kill m) → Rel j w w' → F m w → F m w') (h0 : ∀ m, F m w.drew)
    (hstep : ∀ i, i < n → ∀ b a' w', Lane2 (l.take n).toArray d pre S R killR F kill a b a' w' → i ∈ Region.ready .any (l.take n).toArray b → (∀ j, pre i j → b.getD j true = true) ∧ ∃ o, (l.take n).toArray[i]? = some o ∧ o.guard = none ∧ o.wp P a' w' (fun a2 w2 => ∃ v, a2 = a'.put (some (d i)) v ∧ S i v ∧ R i v w2 ∧ Rel i w' w2) Q)
    (hend : ∀ V w', (∀ i, i < n → S i (V i)) → (∀ i, i < n → n ≤ killR i → R i (V i) w') → (∀ m, n ≤ kill m → F m w') → wpQuiet P l.toArray (fun w'' => ∃ p : Regrown, w'' = grow (redrawn w' p.d) p.os) (fun a' => ∀ w'', (∃ p : Regrown, w'' = grow (redrawn w' p.d) p.os) → Q .normal a' w'') (l.drop n) (putAll d V n a)) : (Code.region id l.toArray true).wp P Q a w := by
  have hs : (l.take n).toArray.size = n := by simpa using hn
  unfold Region.partB at hB
  simp only [Bool.and_eq_true, decide_eq_true_eq] at hB
  obtain ⟨⟨⟨⟨⟨hnl, hsk⟩, hbk⟩, hfw⟩, hsel⟩, hlex⟩ := hB
  have hn' : n < l.length := by simpa using hnl
  have hdl : (l.drop n).length = l.toArray.size - n := by simp
  refine wp_region_any hm ?_
  have hK : ∀ a w', wpQuiet P l.toArray (fun w'' => ∃ p : Regrown, w'' = grow (redrawn w' p.d) p.os) (fun a' => ∀ w'', (∃ p : Regrown, w'' = grow (redrawn w' p.d) p.os) → Q .normal a' w'') (l.drop n) a → wpAny P .any l.toArray Q (l.drop n).length (Region.headDone n (l.toArray.size - n)) a w' := by
    intro a w' h
    refine wpAny_of_quiet (C := fun w'' => ∃ p : Regrown, w'' = grow (redrawn w' p.d) p.os) (Q := fun a' => ∀ w'', (∃ p : Regrown, w'' = grow (redrawn w' p.d) p.os) → Q .normal a' w'') (fun _ w'' hw'' h => h w'' hw'') _ _ _ _ ⟨⟨w'.drawn, #[]⟩, by rw [grow_empty]; rfl⟩ ?_
    exact wpAnyQ_lex hsel (l.drop n) n _ a (fun j => by simp [List.getElem?_drop]) (by rw [hdl]; exact hlex) h
  have := part_runs (P := P) (Q := Q) (ops := l.toArray) (md := .any) (m := (l.drop n).length) (K := fun a w' => wpQuiet P l.toArray (fun w'' => ∃ p : Regrown, w'' = grow (redrawn w' p.d) p.os) (fun a' => ∀ w'', (∃ p : Regrown, w'' = grow (redrawn w' p.d) p.os) → Q .normal a' w'') (l.drop n) a) (hops := (l.take n).toArray) (fun i hi => by simp [List.getElem?_take_of_lt hi]) hs hnl hsk hbk hfw hK n (Array.replicate l.toArray.size false) (Array.replicate n false) a { w with drawn := w.drawn + 1 }
    ⟨by simp, fun j oj _ hj => (by rw [getD_replicate_false] at hj; cases hj), fun t _ ht => getD_in (by simpa using ht) (getD_replicate_false _ _)⟩ (by simp)
    (fun i hi => by
      have h1 : i < l.length := by omega
      simp [hi, h1]) ?_
  · rw [hdl, show n + (l.toArray.size - n) = l.toArray.size by omega] at this
    exact this
  refine wpAny_lane2 (ops := (l.take n).toArray) (d := d) (pre := pre) (S := S) (R := R) (killR := killR) (F := F) (kill := kill) (Rel := Rel) (a0 := a) (by rw [hs]; exact hF) (by rw [hs]; exact hinj) (by rw [hs]; exact hd) hstab (by rw [hs]; exact hkeep) (fun i hi b a' w' u hr => ?_) (fun V w' hS hV hB => ?_) n _ a _ (by simp) ⟨by simp [hs], rfl, rfl, fun _ _ => rfl, fun i hi hbi => ?_, fun i hi hbi => ?_, fun m _ => h0 m⟩
  · rw [hs] at hi
    obtain ⟨h0, o, h1, h2, h3⟩ := hstep i hi b a' w' u hr
    refine ⟨h0, o, h1, h2, ?_⟩
    exact wp_weakK h3
  · rw [hs] at hV hS ⊢
    exact hend V w' hS hV (fun m hm => hB m (by rw [hs]; exact hm))
  · rw [hs] at hi
    simp [hi] at hbi
  · rw [hs] at hi
    simp [hi] at hbi
end
end Go.Proofs.Ytdifemaidngnjaa
