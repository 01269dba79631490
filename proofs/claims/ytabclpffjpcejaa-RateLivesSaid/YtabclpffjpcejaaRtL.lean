/-
  The document's table: a list of what is known, in a row of its own.
-/
import Derived.Test.YtabclpffjpcejaaRtE
import Derived.Test.YtabclpffjpcejaaHdB
import Derived.BigQuiet
import Derived.BigRegion
import Derived.LoopN
namespace Go.Proofs.Ytabclpffjpcejaa
open Go.RowKit Go.Maps
set_option linter.unusedVariables false
set_option maxRecDepth 100000

abbrev Kn : Type := Int × (Nat × Nat)
def kL (q : Kn) : List Value := [.int .i64 q.1, .int .i64 q.2.1, .int .i64 q.2.2]
def kRow (K : List Kn) : List Value := K.flatMap kL
theorem kRow_len (K : List Kn) : (kRow K).length = K.length * 3 := by
  induction K with
  | nil => rfl
  | cons q r ih => unfold kRow at *; rw [List.flatMap_cons, List.length_append, ih]; simp [kL]; omega
theorem kRow_get (K : List Kn) : ∀ (j : Nat) (h : j < K.length) (i : Nat), i < 3 → (kRow K)[j * 3 + i]? = (kL K[j])[i]? := by
  induction K with
  | nil => intro j h; simp at h
  | cons q r ih =>
    intro j h i hi
    unfold kRow
    rw [List.flatMap_cons]
    cases j with
    | zero => rw [List.getElem?_append_left (by simp [kL]; omega)]; simp
    | succ j =>
      rw [List.getElem?_append_right (by simp [kL]; omega)]
      have e : (j + 1) * 3 + i - (kL q).length = j * 3 + i := by simp [kL]; omega
      rw [e]
      simpa [kRow] using ih j (by simpa using h) i hi
theorem kRow_snoc (K : List Kn) (q : Kn) : kRow (K ++ [q]) = kRow K ++ kL q := by unfold kRow; simp
theorem kRow_set1 (K : List Kn) (j : Nat) (h : j < K.length) (t : Nat) : (kRow K).set (j * 3 + 1) (.int .i64 t) = kRow (K.set j (K[j].1, (t, K[j].2.2))) := by
  induction K generalizing j with
  | nil => simp at h
  | cons q r ih =>
    unfold kRow
    rw [List.flatMap_cons]
    cases j with
    | zero => simp [kL]
    | succ j =>
      rw [List.set_append_right _ _ (by simp [kL]; omega)]
      have e : (j + 1) * 3 + 1 - (kL q).length = j * 3 + 1 := by simp [kL]; omega
      rw [e]
      have := ih j (by simpa using h)
      unfold kRow at this
      rw [this]
      simp
theorem kRow_set2 (K : List Kn) (j : Nat) (h : j < K.length) (t : Nat) : (kRow K).set (j * 3 + 2) (.int .i64 t) = kRow (K.set j (K[j].1, (K[j].2.1, t))) := by
  induction K generalizing j with
  | nil => simp at h
  | cons q r ih =>
    unfold kRow
    rw [List.flatMap_cons]
    cases j with
    | zero => simp [kL]
    | succ j =>
      rw [List.set_append_right _ _ (by simp [kL]; omega)]
      have e : (j + 1) * 3 + 2 - (kL q).length = j * 3 + 2 := by simp [kL]; omega
      rw [e]
      have := ih j (by simpa using h)
      unfold kRow at this
      rw [this]
      simp
/-- What is known of one. -/
def lookK (K : List Kn) (a : Int) : Nat × Nat := match K.find? (fun q => decide (q.1 = a)) with | some q => q.2 | none => (0, 0)
def keysK (K : List Kn) : List Int := K.map (·.1)
theorem look_none {K : List Kn} {a : Int} (h : ∀ q ∈ K, q.1 ≠ a) : lookK K a = (0, 0) := by
  unfold lookK
  rw [List.find?_eq_none.2 (by simpa using h)]
theorem look_at {K : List Kn} (hu : (keysK K).Nodup) {j : Nat} (h : j < K.length) : lookK K K[j].1 = K[j].2 := by
  unfold lookK
  cases hf : K.find? (fun q => decide (q.1 = K[j].1)) with
  | none => rw [List.find?_eq_none] at hf; exact absurd (hf K[j] (List.getElem_mem h)) (by simp)
  | some q =>
    have h1 := List.mem_of_find?_eq_some hf
    have h2 : q.1 = K[j].1 := by simpa using List.find?_some hf
    obtain ⟨i, hi, rfl⟩ := List.getElem_of_mem h1
    have : i = j := by
      have h3 : (keysK K)[i]'(by simpa [keysK] using hi) = (keysK K)[j]'(by simpa [keysK] using h) := by simpa [keysK] using h2
      exact (List.getElem_inj hu).1 h3
    subst this
    rfl
theorem look_snoc {K : List Kn} {a b : Int} (h : ∀ q ∈ K, q.1 ≠ a) : lookK (K ++ [(a, (0, 0))]) b = lookK K b := by
  unfold lookK
  rw [List.find?_append]
  cases hf : K.find? (fun q => decide (q.1 = b)) with
  | some q => rfl
  | none =>
    by_cases e : a = b
    · simp [e]
    · simp [e]
theorem keys_set (K : List Kn) (j : Nat) (x : Nat × Nat) (h : j < K.length) : keysK (K.set j (K[j].1, x)) = keysK K := by
  unfold keysK
  rw [List.map_set]
  apply List.ext_getElem? 
  intro i
  rw [List.getElem?_set]
  split
  · rename_i e; subst e; simp [h]
  · rfl
theorem look_set {K : List Kn} (hu : (keysK K).Nodup) {j : Nat} (h : j < K.length) (x : Nat × Nat) (b : Int) : lookK (K.set j (K[j].1, x)) b = put1 (lookK K) K[j].1 x b := by
  have hu2 : (keysK (K.set j (K[j].1, x))).Nodup := by rw [keys_set K j x h]; exact hu
  unfold put1
  by_cases e : b = K[j].1
  · rw [if_pos e]
    have h2 : j < (K.set j (K[j].1, x)).length := by simpa using h
    have := look_at hu2 h2
    simp at this
    rw [e]; exact this
  · rw [if_neg e]
    by_cases hb : b ∈ keysK K
    · obtain ⟨i, hi, hib⟩ := List.getElem_of_mem hb
      have hi' : i < K.length := by simpa [keysK] using hi
      have hib' : K[i].1 = b := by simpa [keysK] using hib
      have hne : j ≠ i := fun e2 => e (by subst e2; exact hib'.symm)
      have h2 : i < (K.set j (K[j].1, x)).length := by simpa using hi'
      have l1 := look_at hu2 h2
      rw [List.getElem_set_ne hne] at l1
      rw [← hib', l1, look_at hu hi']
    · have n1 : ∀ q ∈ K, q.1 ≠ b := fun q hq e2 => hb (by unfold keysK; rw [List.mem_map]; exact ⟨q, hq, e2⟩)
      have n2 : ∀ q ∈ K.set j (K[j].1, x), q.1 ≠ b := fun q hq => by
        rcases List.mem_or_eq_of_mem_set hq with h3 | h3
        · exact n1 q h3
        · subst h3; exact fun e2 => e e2.symm
      rw [look_none n1, look_none n2]

structure TabR (B x : Nat) (v : Value) (K : List Kn) (w : World) : Prop where
  head : w.heap[x]? = some (.cells #[v] 61 (0, 0))
  row : w.ownsRow B 96 3 v K.length (kRow K)
  uq : (keysK K).Nodup
  ok : ∀ q ∈ K, q.2.1 ≤ 8000 ∧ q.2.2 ≤ 1000
def FootR (x : Nat) (v : Value) (k : Nat) : Prop := k = x ∨ v.ownBlock = some k
theorem rrow_block {w w' : World} {base n sz : Nat} {e : TypeId} {v : Value} {xs : List Value} (h : w.ownsRow base e sz v n xs) (hk : ∀ k, v.ownBlock = some k → w'.heap[k]? = w.heap[k]?) : w'.ownsRow base e sz v n xs := by
  refine ⟨h.1, ?_⟩
  rcases h.2 with h | ⟨g, cap, cur, rfl, hb, hh, r⟩
  · exact .inl h
  · exact .inr ⟨g, cap, cur, rfl, hb, (hk g rfl).trans hh, r⟩
theorem rrow_lt {w : World} {base n sz : Nat} {e : TypeId} {v : Value} {xs : List Value} (h : w.ownsRow base e sz v n xs) {k : Nat} (hk : v.ownBlock = some k) : base ≤ k ∧ ∃ cur, w.heap[k]? = some (.cells cur e (0, 0)) := by
  rcases h.2 with ⟨rfl, _⟩ | ⟨g, cap, cur, rfl, hb, hh, r⟩
  · cases hk
  · injection hk with hk
    subst hk
    exact ⟨hb, cur, hh⟩
theorem rrow_set {w : World} {base n k g c : Nat} {e : TypeId} {xs : List Value} (h : w.ownsRow base e 3 (.slice (some ⟨g, 0, none⟩) n c) n xs) (hk : k < n * 3) (u : Value) : (w.setCell ⟨g, k, none⟩ u).ownsRow base e 3 (.slice (some ⟨g, 0, none⟩) n c) n (xs.set k u) := by
  refine ⟨by rw [List.length_set]; exact h.1, ?_⟩
  rcases h.2 with ⟨hv, _⟩ | ⟨g', cap, cur, hv, hb, hh, hc, hm, hsz, ht⟩
  · cases hv
  · injection hv with h1 h2 h3
    injection h1 with h1
    injection h1 with h1
    subst h1 h3
    refine .inr ⟨g, c, _, rfl, hb, row_set u hh, hc, hm, by simpa using hsz, ?_⟩
    rw [Array.toList_setIfInBounds, List.take_set, ht]
section
variable {B x : Nat} {v : Value} {K : List Kn} {w w' : World}
theorem TabR.lt (h : TabR B x v K w) {k : Nat} (hk : FootR x v k) : k < w.heap.size := by
  rcases hk with rfl | e
  · exact (Array.getElem?_eq_some_iff.1 h.head).1
  · obtain ⟨_, cur, hc⟩ := rrow_lt h.row e
    exact (Array.getElem?_eq_some_iff.1 hc).1
theorem TabR.kept (h : TabR B x v K w) (hk : ∀ k, FootR x v k → w'.heap[k]? = w.heap[k]?) : TabR B x v K w' :=
  ⟨(hk _ (.inl rfl)).trans h.head, rrow_block h.row fun k e => hk k (.inr e), h.uq, h.ok⟩
theorem TabR.below (h : TabR B x v K w) (hB : Below w.heap.size w w') : TabR B x v K w' := h.kept fun k hk => hB.block k (h.lt hk)
theorem TabR.mod {S : Nat → Prop} (h : TabR B x v K w) (hM : Mod S w w') (hS : ∀ k, FootR x v k → ¬ S k) : TabR B x v K w' := h.kept fun k hk => hM.block k (h.lt hk) (hS k hk)
theorem TabR.cell (h : TabR B x v K w) : w.cell? ⟨x, 0, none⟩ = some v := (cell_of_row _ _ 0 _ _ _ h.head).trans rfl
theorem TabR.thaw (h : TabR B x v K w) : w.frozen? ⟨x, 0, none⟩ = false := frozen_of_row _ _ _ _ _ h.head
theorem TabR.xv (h : TabR B x v K w) : v.ownBlock ≠ some x := fun e => by
  obtain ⟨_, cur, hc⟩ := rrow_lt h.row e
  have h1 := h.head
  rw [hc] at h1
  injection h1 with h1
  injection h1 with h1 h3
  cases h3
theorem TabR.slice (h : TabR B x v K w) : ∃ a c, v = .slice a K.length c ∧ K.length ≤ c ∧ c ≤ maxLen := by
  rcases h.row.2 with ⟨rfl, h0⟩ | ⟨g, cap, cur, rfl, _, _, hc, hm, _⟩
  · exact ⟨none, 0, by rw [h0], by omega, by omega⟩
  · exact ⟨_, cap, rfl, hc, hm⟩
theorem TabR.cells (h : TabR B x v K w) {j : Nat} (hj : j < K.length) : ∃ g c, v = .slice (some ⟨g, 0, none⟩) K.length c ∧ K.length ≤ c ∧ c ≤ maxLen ∧ w.cell? ⟨g, j * 3, none⟩ = some (.int .i64 K[j].1) ∧ w.cell? ⟨g, j * 3 + 1, none⟩ = some (.int .i64 K[j].2.1) ∧ w.cell? ⟨g, j * 3 + 2, none⟩ = some (.int .i64 K[j].2.2) ∧ ∀ i, w.frozen? ⟨g, i, none⟩ = false := by
  rcases h.row.2 with ⟨rfl, h0⟩ | ⟨g, cap, cur, rfl, _, hh, hc, hm, hsz, ht⟩
  · omega
  · have q : ∀ i, i < 3 → cur[j * 3 + i]? = (kL K[j])[i]? := fun i hi => by
      have e := congrArg (fun l => l[j * 3 + i]?) ht
      rw [List.getElem?_take_of_lt (by omega), kRow_get K j hj i hi] at e
      simpa using e
    exact ⟨g, cap, rfl, hc, hm, (cell_of_row _ _ _ _ _ _ hh).trans (q 0 (by omega)), (cell_of_row _ _ _ _ _ _ hh).trans (q 1 (by omega)), (cell_of_row _ _ _ _ _ _ hh).trans (q 2 (by omega)), fun i => frozen_of_row _ _ _ _ _ hh⟩
end
end Go.Proofs.Ytabclpffjpcejaa
