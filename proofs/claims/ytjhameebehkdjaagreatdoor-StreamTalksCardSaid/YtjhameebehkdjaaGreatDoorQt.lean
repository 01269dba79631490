/-
  A region that draws its order: quiet operations and calls ahead (in a class C of worlds), a forced tail behind: one walk of the text's order serves every order, and the tail is walked in any world of the class. (The library has the two halves: Derived/Deep/Quiet.lean, no tail; Derived/StillTail.lean, a tail behind operations that leave the very world. This joins them.)
-/
import Derived.StillTail
import Derived.Deep.Quiet
import Derived.Deep.QuietTactic
import Derived.BigQuiet
namespace Go.Proofs.YtjhameebehkdjaaGreatDoor
open Go

section
variable {P : Program} {ops : Array Oper} {md : Region.Mode} {C : World → Prop}

/-- Any order of the first n operations, f of them yet to come; L is what is asked behind. -/
def headQ (P : Program) (md : Region.Mode) (ops : Array Oper) (C : World → Prop) (n : Nat) (L : Array Bool → Act → Prop) : Nat → Array Bool → Act → Prop
  | 0, b, a => L b a
  | f + 1, b, a => Region.ready md ops b ≠ [] ∧ ∀ i ∈ Region.ready md ops b, i < n ∧ qOp P ops C i (headQ P md ops C n L f (b.setIfInBounds i true)) a

theorem headQ_runs {n g : Nat} {L : Array Bool → Act → Prop} {Q : Exit → Act → World → Prop} (hL : ∀ b a w, C w → L b a → wpAny P md ops Q g b a w) :
    ∀ (f : Nat) (b : Array Bool) (a : Act), headQ P md ops C n L f b a → ∀ w, C w → wpAny P md ops Q (f + g) b a w := by
  intro f
  induction f with
  | zero => intro b a h w hw; rw [Nat.zero_add]; exact hL b a w hw h
  | succ f ih =>
    intro b a h w hw
    obtain ⟨hne, hall⟩ := h
    rw [Nat.succ_add]
    refine ⟨fun h0 => absurd h0 hne, fun i hi => ?_⟩
    exact wpOp_of_qOp hw (fun a' w' hw' h' => ih _ a' h' w' hw') (hall i hi).2

/-- What is ready in the head, and apart from all that may come between, may be taken first. -/
theorem headQ_take {n i : Nat} {o : Oper} {v : Value} {L : Array Bool → Act → Prop} (ho : ops[i]? = some o) (hsel : ∀ (j : Nat) (o : Oper) cs b, ops[j]? = some o → o.op ≠ .select cs b)
    (hs : Region.sinkB md ops n = true) (hc : Region.chainB md ops n = true) (hn : n < ops.size) (hin : i < n) (hend : ∀ b a, L b a → ∀ j ∈ Region.ready md ops b, n ≤ j)
    (f : Nat) : ∀ (b : Array Bool) (a : Act), HeadInv md ops n b →
      (∀ j oj, ops[j]? = some oj → j ≠ i → b.getD j true = false → (∀ e ∈ oj.after, Region.binds md e = true → e.on ≠ i) → o.apart ops oj = true) →
      i ∈ Region.ready md ops b → YieldsIn P ops C o v a → headQ P md ops C n L f (b.setIfInBounds i true) (a.put o.dst v) → headQ P md ops C n L (f + 1) b a := by
  induction f with
  | zero =>
    intro b a inv _ hr hy H
    have hun := (mem_ready.1 hr).1
    refine ⟨List.ne_nil_of_mem hr, fun j hj => ?_⟩
    have hjn : j < n := Nat.lt_of_not_le fun h => tail_waits hs hc hn inv _ i rfl hin hun j h hj
    by_cases e : j = i
    · rw [e]; exact ⟨hin, hy.qOp ho H⟩
    · have := hend _ _ H j (ready_mono hj e)
      omega
  | succ f ih =>
    intro b a inv hap hr hy H
    have hun := (mem_ready.1 hr).1
    refine ⟨List.ne_nil_of_mem hr, fun j hj => ?_⟩
    have hjn : j < n := Nat.lt_of_not_le fun h => tail_waits hs hc hn inv _ i rfl hin hun j h hj
    by_cases e : j = i
    · rw [e]; exact ⟨hin, hy.qOp ho H⟩
    · obtain ⟨hju, oj, hoj, hdeps⟩ := mem_ready.1 hj
      have hno : ∀ e ∈ oj.after, Region.binds md e = true → e.on ≠ i := by
        intro e he hb heq
        have := hdeps e he hb
        rw [heq, getD_both hun] at this
        cases this
      have hq := (H.2 j (ready_mono hj e)).2
      have hq := qOp_put hoj (hap j oj hoj e hju hno) (fun cs d => hsel i o cs d ho) (fun cs d => hsel j oj cs d hoj) hy hq
      refine ⟨hjn, qOp_mono (fun a' h' => ?_) hq⟩
      obtain ⟨hy', H'⟩ := h'
      refine ih (b.setIfInBounds j true) a' (inv.set hj hjn) (fun k ok hk hki hku hkn => hap k ok hk hki ?_ hkn) (ready_mono hr (Ne.symm e)) hy' ?_
      · by_cases hjk : j = k
        · rw [← hjk]; exact hju
        · rwa [getD_set_ne true hjk] at hku
      · rw [Array.setIfInBounds_comm _ _ e]
        exact H'

theorem headQ_lex {n g : Nat} {K : Act → Prop} (hsel : Region.noSelect ops = true) (hs : Region.sinkB md ops n = true) (hc : Region.chainB md ops n = true) (hn : n < ops.size) (l : List Oper) :
    ∀ (k : Nat) (b : Array Bool) (a : Act), (∀ j, j < l.length → l[j]? = ops[k + j]?) → k + l.length = n → HeadInv md ops n b → Region.lexHead md ops g l.length k b = true → wpQuiet P ops C K l a →
    headQ P md ops C n (fun b' a' => Region.seqB md ops g n b' = true ∧ K a') l.length b a := by
  induction l with
  | nil =>
    intro k b a _ hk _ hB h
    rw [List.length_nil, Nat.add_zero] at hk
    subst hk
    exact ⟨by simpa [Region.lexHead] using hB, h⟩
  | cons o l ih =>
    intro k b a hl hk inv hB h
    rw [List.length_cons] at hk
    have ho : ops[k]? = some o := by
      have := hl 0 (by simp)
      rw [Nat.add_zero] at this
      exact this.symm
    simp only [List.length_cons, Region.lexHead, Bool.and_eq_true, List.contains_eq_mem, decide_eq_true_eq] at hB
    obtain ⟨⟨hr, hf⟩, hB'⟩ := hB
    have hq : qOp P ops C k (wpQuiet P ops C K l) a := by
      unfold qOp
      rw [ho]
      exact h
    obtain ⟨v, hy, hK⟩ := yieldsIn_of_qOp ho hq
    refine headQ_take ho (Region.noSelect_spec hsel) hs hc hn (by omega) (fun b' a' h' => seqB_ready h'.1) l.length b a inv (Region.free_spec ho hf) hr hy ?_
    refine ih (k + 1) _ _ (fun j hj => ?_) (by omega) (inv.set hr (by omega)) hB' hK
    have := hl (j + 1) (by simp; omega)
    rw [List.getElem?_cons_succ] at this
    rw [this]
    congr 1
    omega

/-- The law: n quiet operations, then the rest in its order. -/
theorem wp_region_quiet_tail {id : Nat} {Q : Exit → Act → World → Prop} {a : Act} {w : World} {l : List Oper} (n : Nat) (hm : P.follows .mixedOrders = true) (hB : Region.lexTailB .any l.toArray n = true)
    (h : wpQuiet P l.toArray (fun w' => ∃ k, w' = w.drewN k) (fun a' => ∀ w', (∃ k, w' = w.drewN k) → wpList P l.toArray Q (l.drop n) a' w') (l.take n) a) : (Code.region id l.toArray true).wp P Q a w := by
  unfold Region.lexTailB at hB
  simp only [Bool.and_eq_true, decide_eq_true_eq] at hB
  obtain ⟨⟨⟨⟨hsel, hn⟩, hs⟩, hc⟩, hx⟩ := hB
  have hn' : n < l.length := by simpa using hn
  have hlen : (l.take n).length = n := by rw [List.length_take]; omega
  have inv : HeadInv .any l.toArray n (Array.replicate l.toArray.size false) :=
    ⟨by simp, fun j oj _ hj => (by rw [getD_replicate_false] at hj; cases hj), fun t _ ht => getD_in (by simpa using ht) (getD_replicate_false _ _)⟩
  have hH := headQ_lex (md := .any) (g := l.toArray.size - n) hsel hs hc hn (l.take n) 0 _ a (fun j hj => by
    rw [hlen] at hj
    rw [Nat.zero_add, List.getElem?_take_of_lt hj]
    simp) (by omega) inv (by rw [hlen]; exact hx) h
  have hR := headQ_runs (Q := Q) (g := l.toArray.size - n) (fun b a' w' hw' hL => by
    have ht := wpAny_of_seq (md := .any) (Q' := Q) (l.drop n) n b a' w' (fun j => by simp [List.getElem?_drop]) (by
      have : (l.drop n).length = l.toArray.size - n := by simp
      rw [this]; exact hL.1) (hL.2 w' hw')
    have e : (l.drop n).length = l.toArray.size - n := by simp
    rwa [e] at ht) _ _ _ hH { w with drawn := w.drawn + 1 } ⟨1, rfl⟩
  refine wp_region_any hm ?_
  rw [hlen, show n + (l.toArray.size - n) = l.toArray.size by omega] at hR
  exact hR
end
end Go.Proofs.YtjhameebehkdjaaGreatDoor
