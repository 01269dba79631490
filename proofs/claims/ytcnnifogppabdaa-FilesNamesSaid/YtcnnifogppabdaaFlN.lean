/-
  The landed disk's Crash.
-/
import Derived.Test.YtcnnifogppabdaaFlM
import Derived.Maps.RangeWalk
namespace Go.Proofs.Ytcnnifogppabdaa
open Go.RowKit Go.Maps
set_option linter.unusedVariables false
set_option maxRecDepth 100000

def crashOf (L : List Tl) (f : Fil) : Fil := crashF f (firstT L f.n)
def leftS (L : List Tl) (left : Lit → Bool) (S : List Fil) : List Fil := S.map (fun f => if left (.string f.n) then f else crashOf L f)
def leftU (L : List Tl) (left : Lit → Bool) (S : List Fil) : Nat := (S.map (fun f => if left (.string f.n) then 0 else (crashOf L f).d.length)).sum
def crashS (L : List Tl) (S : List Fil) : List Fil := S.map (crashOf L)
theorem crash_n (f : Fil) (t : Tl) : (crashF f t).n = f.n := rfl
theorem leftS_names (L : List Tl) (left : Lit → Bool) (S : List Fil) : (leftS L left S).map (·.n) = S.map (·.n) := by
  unfold leftS
  rw [List.map_map]
  refine List.map_congr_left fun f _ => ?_
  show (if left (.string f.n) then f else crashOf L f).n = f.n
  split <;> rfl
theorem leftS_uniq {L : List Tl} {left : Lit → Bool} {S : List Fil} (h : Uniq S) : Uniq (leftS L left S) := by
  rw [uniq_names] at h ⊢
  rw [leftS_names]; exact h
theorem same_str (a b : Bs) : (Lit.string a).sameKey (.string b) = (a == b) := rfl
theorem leftS_next {L : List Tl} {left : Lit → Bool} {S : List Fil} (hU : Uniq S) {f : Fil} (hf : f ∈ S) (hl : left (.string f.n) = true) : leftS L (fun z => left z && !z.sameKey (.string f.n)) S = upd (leftS L left S) (crashOf L f) := by
  unfold leftS upd
  rw [List.map_map]
  refine List.map_congr_left fun g hg => ?_
  simp only [Function.comp, same_str]
  by_cases e : g.n = f.n
  · obtain rfl := uniq_eq hU hg hf e
    simp [hl, crashOf, crash_n]
  · have e2 : (g.n == f.n) = false := by simpa using e
    have e3 : ((if left (.string g.n) then g else crashOf L g).n == (crashOf L f).n) = false := by
      have : (if left (.string g.n) then g else crashOf L g).n = g.n := by split <;> rfl
      rw [this]
      exact e2
    simp [e2, e3]
theorem leftU_next {L : List Tl} {left : Lit → Bool} : ∀ {S : List Fil}, Uniq S → ∀ {f : Fil}, f ∈ S → left (.string f.n) = true → leftU L (fun z => left z && !z.sameKey (.string f.n)) S = leftU L left S + (crashOf L f).d.length := by
  intro S
  induction S with
  | nil => intro _ f hf; cases hf
  | cons g S ih =>
    intro hU f hf hl
    obtain ⟨k1, k2⟩ := List.pairwise_cons.1 hU
    have hc : ∀ (le : Lit → Bool), leftU L le (g :: S) = (if le (.string g.n) then 0 else (crashOf L g).d.length) + leftU L le S := fun le => by simp [leftU]
    rw [hc, hc]
    by_cases e : g.n = f.n
    · have hgf : f = g := by
        rcases List.mem_cons.1 hf with h | h
        · exact h
        · exact absurd e (k1 f h)
      subst hgf
      have hS : leftU L (fun z => left z && !z.sameKey (.string f.n)) S = leftU L left S := by
        unfold leftU
        congr 1
        refine List.map_congr_left fun u hu => ?_
        have : (u.n == f.n) = false := by simpa using (k1 u hu).symm
        simp [same_str, this]
      rw [hS]
      simp [same_str, hl]
      omega
    · have hfS : f ∈ S := by
        rcases List.mem_cons.1 hf with h | h
        · exact absurd (congrArg Fil.n h).symm e
        · exact h
      rw [ih k2 hfS hl]
      have : (g.n == f.n) = false := by simpa using e
      simp [same_str, this]
      omega
theorem leftS_done {L : List Tl} {left : Lit → Bool} {S : List Fil} (h : ∀ kl, left kl = false) : leftS L left S = crashS L S ∧ leftU L left S = used (crashS L S) := by
  constructor
  · unfold leftS crashS
    exact List.map_congr_left fun f _ => by simp [h]
  · unfold leftU used crashS
    rw [List.map_map]
    congr 1
    exact List.map_congr_left fun f _ => by simp [h]
theorem leftS_start {L : List Tl} {left : Lit → Bool} {S : List Fil} (h : ∀ f ∈ S, left (.string f.n) = true) : leftS L left S = S ∧ leftU L left S = 0 := by
  constructor
  · unfold leftS
    conv => rhs; rw [← List.map_id S]
    exact List.map_congr_left fun f hf => by simp [h f hf]
  · unfold leftU
    have : S.map (fun f => if left (.string f.n) then 0 else (crashOf L f).d.length) = S.map (fun _ => 0) := List.map_congr_left fun f hf => by simp [h f hf]
    rw [this]
    clear this h
    induction S with
    | nil => rfl
    | cons f S ih => simpa using ih
theorem crashF_le {f : Fil} (t : Tl) (h : f.s ≤ f.d.length) : (crashF f t).d.length ≤ f.d.length := by
  rw [crashF_len t h]
  have : keptT f t ≤ f.d.length - f.s := Nat.min_le_right _ _
  show f.s + keptT f t ≤ _
  omega
theorem leftU_le {L : List Tl} {left : Lit → Bool} {S : List Fil} (h : ∀ f ∈ S, f.s ≤ f.d.length) : leftU L left S ≤ used S := by
  induction S with
  | nil => simp [leftU, used]
  | cons g S ih =>
    have h1 := ih fun f hf => h f (List.mem_cons_of_mem _ hf)
    have h2 := crashF_le (firstT L g.n) (h g List.mem_cons_self)
    simp only [leftU, used, List.map_cons, List.sum_cons] at h1 ⊢
    have h3 : (if left (.string g.n) then 0 else (crashOf L g).d.length) ≤ g.d.length := by
      split
      · omega
      · exact h2
    omega

theorem ranges_block {w w' : World} {P : Program} {k : TypeId} {R : Value → Option (DataW Unit × List MemPlace)} {b r n cnt : Nat} {M : DataW Unit} {left : Lit → Bool} (h : w.ranges P k R b r n M left cnt) (hb : w'.heap[b]? = w.heap[b]?) (hr : w'.heap[r]? = w.heap[r]?) : w'.ranges P k R b r n M left cnt := by
  obtain ⟨es, clock, since, seen, c0, h1, h2, h3, h4, h5, h6⟩ := h
  exact ⟨es, clock, since, seen, c0, hb.trans h1, h2, h3, h4, hr.trans h5, h6⟩
def mkP : Option Nat → Value
  | some b => .pointer (some ⟨b, 0, none⟩)
  | none => .pointer none
theorem inv_key (key : Value) (kl : Lit) (h : keyOf Try.prog 9 key = some kl) : ∃ x : Bs, key = .string (bs x) := by
  cases key <;> simp [keyOf, Try.underlying9, mapKey] at h
  rename_i s
  exact ⟨s.data.toList, congrArg _ (bs_list s)⟩
theorem inv_val (v : Value) (y : DataW Unit × List MemPlace) (h : ptrE v = some y) : ∃ c : Option Nat, v = mkP c := by
  rcases ptrE_inv h with ⟨rfl, _⟩ | ⟨b, rfl, _⟩
  · exact ⟨none, rfl⟩
  · exact ⟨some b, rfl⟩
theorem key_len {x : Bs} {kl : Lit} (h : keyOf Try.prog 9 (.string (bs x)) = some kl) : x.length ≤ maxLen ∧ kl = .string x := by
  simp [keyOf, Try.underlying9, mapKey] at h
  obtain ⟨h1, h2⟩ := h
  rw [bs_size] at h1
  exact ⟨h1, by simpa using h2.symm⟩
end Go.Proofs.Ytcnnifogppabdaa
