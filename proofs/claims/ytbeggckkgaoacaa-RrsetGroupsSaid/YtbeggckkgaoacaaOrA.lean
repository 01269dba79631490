/-
  Data in order, each once: as plain lists.
-/
import Derived.Test.YtbeggckkgaoacaaGa
namespace Go.Proofs.Ytbeggckkgaoacaa
open Go.RowKit
set_option linter.unusedVariables false
set_option maxRecDepth 100000

/-- Rising, each once. -/
def Up (L : List Bs) : Prop := L.Pairwise fun a b => Op.bytesLess a b = true
def insP (d : Bs) : List Bs → List Bs
  | [] => [d]
  | x :: r => if Op.bytesLess x d then x :: insP d r else if x == d then x :: r else d :: x :: r
def orderP (L : List Bs) : List Bs := L.foldl (fun o d => insP d o) []

theorem mem_ins {d y : Bs} : ∀ {L : List Bs}, y ∈ insP d L ↔ y = d ∨ y ∈ L
  | [] => by simp [insP]
  | x :: r => by
    have ih := mem_ins (d := d) (y := y) (L := r)
    unfold insP
    split
    · simp only [List.mem_cons, ih]
      exact ⟨fun h => by rcases h with h | h | h <;> simp [h], fun h => by rcases h with h | h | h <;> simp [h]⟩
    · split
      · rename_i h
        have h := beq_iff_eq.1 h
        subst h
        simp
      · simp
theorem up_ins {d : Bs} : ∀ {L : List Bs}, Up L → Up (insP d L)
  | [], _ => by simp [insP, Up]
  | x :: r, h => by
    have h' := h
    unfold Up at h'
    rw [List.pairwise_cons] at h'
    obtain ⟨h1, h2⟩ := h'
    unfold insP
    split
    · rename_i hx
      unfold Up
      rw [List.pairwise_cons]
      refine ⟨fun y hy => ?_, up_ins (L := r) h2⟩
      rcases mem_ins.1 hy with rfl | hy
      · exact hx
      · exact h1 y hy
    · split
      · exact h
      · rename_i hx he
        have hdx : Op.bytesLess d x = true := by
          rcases less_total x d with k | k | k
          · exact absurd k (by simpa using hx)
          · subst k; exact absurd (beq_self_eq_true x) he
          · exact k
        unfold Up
        rw [List.pairwise_cons]
        refine ⟨fun y hy => ?_, h⟩
        rcases List.mem_cons.1 hy with rfl | hy
        · exact hdx
        · exact less_trans hdx (h1 y hy)
theorem order_from {L : List Bs} : ∀ {o : List Bs}, Up o → Up (L.foldl (fun o d => insP d o) o) ∧ ∀ y, y ∈ L.foldl (fun o d => insP d o) o ↔ y ∈ L ∨ y ∈ o := by
  induction L with
  | nil => intro o h; exact ⟨h, fun y => by simp⟩
  | cons d r ih =>
    intro o h
    obtain ⟨h1, h2⟩ := ih (up_ins (d := d) h)
    refine ⟨h1, fun y => ?_⟩
    rw [List.foldl_cons, h2, mem_ins, List.mem_cons]
    exact ⟨fun h => by rcases h with h | h | h <;> simp [h], fun h => by rcases h with (h | h) | h <;> simp [h]⟩
theorem up_nil : Up [] := List.Pairwise.nil
theorem up_order (L : List Bs) : Up (orderP L) := (order_from up_nil).1
theorem mem_order {L : List Bs} {y : Bs} : y ∈ orderP L ↔ y ∈ L := by rw [orderP, (order_from up_nil).2 y]; simp
theorem up_unique : ∀ {A B : List Bs}, Up A → Up B → (∀ y, y ∈ A ↔ y ∈ B) → A = B
  | [], [], _, _, _ => rfl
  | [], b :: B, _, _, h => absurd ((h b).2 (by simp)) (by simp)
  | a :: A, [], _, _, h => absurd ((h a).1 (by simp)) (by simp)
  | a :: A, b :: B, hA, hB, h => by
    unfold Up at hA hB
    rw [List.pairwise_cons] at hA hB
    have e : a = b := by
      rcases List.mem_cons.1 ((h a).1 (by simp)) with k | k
      · exact k
      · rcases List.mem_cons.1 ((h b).2 (by simp)) with m | m
        · exact m.symm
        · have := less_trans (hA.1 b m) (hB.1 a k)
          rw [less_irrefl] at this; cases this
    subst e
    rw [up_unique (A := A) (B := B) hA.2 hB.2 fun y => ?_]
    constructor
    · intro k
      rcases List.mem_cons.1 ((h y).1 (List.mem_cons_of_mem _ k)) with m | m
      · subst m; have := hA.1 y k; rw [less_irrefl] at this; cases this
      · exact m
    · intro k
      rcases List.mem_cons.1 ((h y).2 (List.mem_cons_of_mem _ k)) with m | m
      · subst m; have := hB.1 y k; rw [less_irrefl] at this; cases this
      · exact m
theorem order_up {L : List Bs} (h : Up L) : orderP L = L := up_unique (up_order L) h (fun y => mem_order)
theorem order_mem {L M : List Bs} (h : ∀ y, y ∈ L ↔ y ∈ M) : orderP L = orderP M := up_unique (up_order L) (up_order M) (fun y => by rw [mem_order, mem_order]; exact h y)
theorem ins_len (d : Bs) : ∀ L : List Bs, (insP d L).length ≤ L.length + 1
  | [] => by simp [insP]
  | x :: r => by
    have := ins_len d r
    unfold insP
    split
    · simp; omega
    · split <;> simp
theorem order_len (L : List Bs) : (orderP L).length ≤ L.length := by
  have h : ∀ (L o : List Bs), (L.foldl (fun o d => insP d o) o).length ≤ L.length + o.length := by
    intro L
    induction L with
    | nil => intro o; simp
    | cons d r ih => intro o; have := ih (insP d o); have := ins_len d o; simp; omega
  have := h L []
  rwa [List.length_nil, Nat.add_zero] at this
theorem order_snoc (L : List Bs) (d : Bs) : orderP (L ++ [d]) = insP d (orderP L) := by simp [orderP]
theorem order_pos {L : List Bs} (h : 0 < L.length) : 0 < (orderP L).length := by
  obtain ⟨y, hy⟩ := List.exists_mem_of_length_pos h
  exact List.length_pos_of_mem (mem_order.2 hy)
theorem up_at {L : List Bs} (h : Up L) {i j : Nat} (hij : i < j) (hj : j < L.length) : Op.bytesLess (L[i]'(by omega)) L[j] = true := List.pairwise_iff_getElem.1 h i j (by omega) hj hij

/-- Of neighbours that are the same the first one. -/
def ddS (o : List Bs) (x : Bs) : List Bs := if o.getLast? == some x then o else o ++ [x]
def ddP (L : List Bs) : List Bs := L.foldl ddS []
theorem ddS_same {o : List Bs} {x : Bs} (h : o.getLast? = some x) : ddS o x = o := by unfold ddS; rw [if_pos (by rw [h]; exact beq_self_eq_true _)]
theorem ddS_other {o : List Bs} {x : Bs} (h : o.getLast? ≠ some x) : ddS o x = o ++ [x] := by unfold ddS; rw [if_neg (by simpa using h)]
theorem dd_snoc (L : List Bs) (x : Bs) : ddP (L ++ [x]) = ddS (ddP L) x := by simp [ddP]
theorem dd_next {L : List Bs} {n : Nat} (h : n < L.length) : ddP (L.take (n + 1)) = ddS (ddP (L.take n)) L[n] := by
  rw [List.take_succ_eq_append_getElem h, dd_snoc]
theorem dd_last : ∀ (n : Nat) (L : List Bs), n ≤ L.length → (ddP (L.take n)).getLast? = (L.take n).getLast?
  | 0, L, _ => by simp [ddP]
  | n + 1, L, h => by
    rw [dd_next (by omega), List.take_succ_eq_append_getElem (by omega), List.getLast?_concat]
    by_cases hc : (ddP (L.take n)).getLast? = some (L[n]'(by omega))
    · rw [ddS_same hc, hc]
    · rw [ddS_other hc, List.getLast?_concat]
theorem take_last {L : List Bs} {n : Nat} (h : n < L.length) : (L.take (n + 1)).getLast? = some L[n] := by
  rw [List.take_succ_eq_append_getElem h, List.getLast?_concat]
/-- The next one: kept unless it is the same as the one ahead. -/
theorem dd_same {L : List Bs} {n : Nat} (h : n + 1 < L.length) (he : L[n + 1] = L[n]) : ddP (L.take (n + 2)) = ddP (L.take (n + 1)) := by
  rw [dd_next h, ddS_same]
  rw [dd_last _ _ (by omega), take_last (by omega), he]
theorem dd_other {L : List Bs} {n : Nat} (h : n + 1 < L.length) (he : L[n + 1] ≠ L[n]) : ddP (L.take (n + 2)) = ddP (L.take (n + 1)) ++ [L[n + 1]] := by
  rw [dd_next h, ddS_other]
  rw [dd_last _ _ (by omega), take_last (by omega)]
  intro e
  injection e with e
  exact he e.symm
theorem dd_one {L : List Bs} (h : 0 < L.length) : ddP (L.take 1) = L.take 1 := by
  match L, h with
  | x :: r, _ => simp [ddP, ddS]
theorem dd_len (L : List Bs) : (ddP L).length ≤ L.length := by
  have h : ∀ (L o : List Bs), (L.foldl ddS o).length ≤ L.length + o.length := by
    intro L
    induction L with
    | nil => intro o; simp
    | cons d r ih =>
      intro o
      rw [List.foldl_cons]
      by_cases hc : o.getLast? = some d
      · rw [ddS_same hc]; have := ih o; simp; omega
      · rw [ddS_other hc]; have := ih (o ++ [d]); simp at this ⊢; omega
  have := h L []
  rwa [List.length_nil, Nat.add_zero] at this
theorem up_last {o : List Bs} {a l : Bs} (h : Up o) (ha : a ∈ o) (hl : o.getLast? = some l) : a = l ∨ Op.bytesLess a l = true := by
  obtain ⟨p, rfl⟩ := List.getLast?_eq_some_iff.1 hl
  rcases List.mem_append.1 ha with k | k
  · unfold Up at h
    rw [List.pairwise_append] at h
    exact .inr (h.2.2 a k l (by simp))
  · exact .inl (by simpa using k)
theorem dd_from {L : List Bs} : ∀ {o : List Bs}, Up o → (∀ a ∈ o, ∀ x ∈ L, Op.bytesLess x a = false) → L.Pairwise (fun a b => Op.bytesLess b a = false) →
    Up (L.foldl ddS o) ∧ ∀ y, y ∈ L.foldl ddS o ↔ y ∈ o ∨ y ∈ L := by
  induction L with
  | nil => intro o h _ _; exact ⟨h, fun y => by simp⟩
  | cons x r ih =>
    intro o h h2 h3
    rw [List.pairwise_cons] at h3
    rw [List.foldl_cons]
    by_cases hx : o.getLast? = some x
    · rw [ddS_same hx]
      obtain ⟨k1, k2⟩ := ih h (fun a ha y hy => h2 a ha y (List.mem_cons_of_mem _ hy)) h3.2
      refine ⟨k1, fun y => ?_⟩
      rw [k2, List.mem_cons]
      have hxo : x ∈ o := List.mem_of_getLast? hx
      exact ⟨fun h => by rcases h with h | h <;> simp [h], fun h => by rcases h with h | h | h <;> simp [h, hxo]⟩
    · rw [ddS_other hx]
      have hup : Up (o ++ [x]) := by
        unfold Up
        rw [List.pairwise_append]
        refine ⟨h, List.pairwise_singleton _ _, fun a ha b hb => ?_⟩
        rw [List.mem_singleton.1 hb]
        rcases less_total a x with k | k | k
        · exact k
        · subst k
          cases hl : o.getLast? with
          | none => rw [List.getLast?_eq_none_iff] at hl; subst hl; cases ha
          | some l =>
            rcases up_last h ha hl with e | e
            · subst e; exact absurd hl hx
            · have := h2 l (List.mem_of_getLast? hl) a (by simp)
              rw [this] at e; cases e
        · rw [h2 a ha x (by simp)] at k; cases k
      obtain ⟨k1, k2⟩ := ih hup (fun a ha y hy => by
        rcases List.mem_append.1 ha with k | k
        · exact h2 a k y (List.mem_cons_of_mem _ hy)
        · rw [List.mem_singleton.1 k]; exact h3.1 y hy) h3.2
      refine ⟨k1, fun y => ?_⟩
      rw [k2, List.mem_append, List.mem_singleton, List.mem_cons]
      exact ⟨fun h => by rcases h with (h | h) | h <;> simp [h], fun h => by rcases h with h | h | h <;> simp [h]⟩
/-- What is in order, with neighbours that are the same let go, is each once. -/
theorem dd_order {L M : List Bs} (hs : M.Pairwise (fun a b => Op.bytesLess b a = false)) (hm : ∀ y, y ∈ M ↔ y ∈ L) : ddP M = orderP L := by
  obtain ⟨h1, h2⟩ := dd_from up_nil (by simp) hs
  exact up_unique h1 (up_order L) (fun y => by rw [mem_order, ← hm]; exact (h2 y).trans ⟨fun h => h.resolve_left (by simp), .inr⟩)
end Go.Proofs.Ytbeggckkgaoacaa
