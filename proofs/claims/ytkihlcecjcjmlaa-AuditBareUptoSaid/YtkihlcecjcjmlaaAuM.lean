/-
  The map of spans, in memory: what is kept of it, and one more span.
-/
import Derived.Test.YtkihlcecjcjmlaaAuL
namespace Go.Proofs.Ytkihlcecjcjmlaa
open Go.RowKit Go.Maps Go.WideElems Go.ChangeMaps
set_option linter.unusedVariables false
set_option maxRecDepth 100000

theorem zeroSp (w : World) : (zeroValue 63).run Try.prog w = .ok (.slice none 0 0) w := by kernel_rfl
def SpOk (w : World) (B N : Nat) (v : Value) : Prop := ∃ n xs, n ≤ N ∧ w.ownsRow B 65 2 v n xs
theorem own_cells {w : World} {base size n : Nat} {e : TypeId} {v : Value} {xs : List Value} (h : w.ownsRow base e size v n xs) : ∀ g, v.ownBlock = some g → ∃ cs fz, w.heap[g]? = some (.cells cs e fz) := by
  intro g hg
  rcases h with ⟨h0, ⟨h1, h2⟩ | ⟨g', cap, cur, h1, hb, hh, h3⟩⟩
  · subst h1; simp [Value.ownBlock] at hg
  · subst h1
    simp [Value.ownBlock] at hg
    subst hg
    exact ⟨_, _, hh⟩
theorem own_map {w w' : World} {base size n mb ck : Nat} {e : TypeId} {v : Value} {xs : List Value} {es : Array MapEntry} (h : w.ownsRow base e size v n xs) (hm : w.heap[mb]? = some (.map es ck)) (hg : w.grownBy w' (some mb)) : w'.ownsRow base e size v n xs := by
  refine h.kept hg ?_
  cases hv : v.ownBlock with
  | none => exact .inl rfl
  | some g =>
    refine .inr (fun e => ?_)
    injection e with e
    subst e
    obtain ⟨cs, fz, hc⟩ := own_cells h _ hv
    rw [hm] at hc
    injection hc with hc
    cases hc
structure Bk (w : World) (mb B N : Nat) (es : Array MapEntry) (ck : Nat) : Prop where
  map : w.heap[mb]? = some (.map es ck)
  fit : WideElems.Fit Try.prog 62 anyG es ck
  size : es.size ≤ N
  vals : ∀ (i : Nat) (e : MapEntry), es[i]? = some e → SpOk w B N e.val
  sep : ∀ (i j : Nat) (ei ej : MapEntry), es[i]? = some ei → es[j]? = some ej → i ≠ j → ∀ g, ei.val.ownBlock = some g → ej.val.ownBlock ≠ some g
def BkM (w : World) (mb B N : Nat) : Prop := ∃ es ck, Bk w mb B N es ck
theorem BkM.new (w : World) (B : Nat) : BkM (w.alloc (.map #[] 0)) w.heap.size B 0 := by
  obtain ⟨es, ck, h1, h2, h3, -⟩ := World.ownsMap_made w Try.prog 62 anyG
  refine ⟨es, ck, h1, h2, h3, fun i e hi => ?_, fun i j ei ej hi => ?_⟩
  · have := (Array.getElem?_eq_some_iff.1 hi).1; omega
  · have := (Array.getElem?_eq_some_iff.1 hi).1; omega
theorem BkM.lt {w : World} {mb B N : Nat} (h : BkM w mb B N) : mb < w.heap.size := by
  obtain ⟨es, ck, h⟩ := h
  exact (Array.getElem?_eq_some_iff.1 h.map).1
theorem BkM.below {w w' : World} {mb B N : Nat} (h : BkM w mb B N) (hB : Below w.heap.size w w') : BkM w' mb B N := by
  obtain ⟨es, ck, h⟩ := h
  refine ⟨es, ck, (hB.block _ (Array.getElem?_eq_some_iff.1 h.map).1).trans h.map, h.fit, h.size, fun i e hi => ?_, h.sep⟩
  obtain ⟨n, xs, h1, h2⟩ := h.vals i e hi
  exact ⟨n, xs, h1, ownsRow_below h2 hB (Nat.le_refl _)⟩
theorem BkM.more {w : World} {mb B N M : Nat} (h : BkM w mb B N) (hM : N ≤ M) : BkM w mb B M := by
  obtain ⟨es, ck, h⟩ := h
  refine ⟨es, ck, h.map, h.fit, Nat.le_trans h.size hM, fun i e hi => ?_, h.sep⟩
  obtain ⟨n, xs, h1, h2⟩ := h.vals i e hi
  exact ⟨n, xs, Nat.le_trans h1 hM, h2⟩
theorem grown_set {w : World} {mb ck ck' : Nat} {es es' : Array MapEntry} (hb : w.heap[mb]? = some (.map es ck)) : w.grownBy (setBlock w mb (.map es' ck')) (some mb) := ⟨rfl, rfl, rfl, by simp [setBlock], fun i _ hi => heap_setBlock_other hb _ (fun e => hi (by rw [e]))⟩
theorem BkM.step {w : World} {mb B N : Nat} (h : BkM w mb B N) (hN : N < 100000000000000) {f : Fa} (hf : FaOk f) (V : Array Value) (hV : V = faC f) :
    ∃ (v0 : Value) (st : Int) (w1 : World) (n : Nat) (xs : List Value), (Instr.mapEntry 45 (.map (some mb)) (.agg V)).run Try.prog w = .ok (.tuple #[v0, .int .i64 st]) w1 ∧ w.grownBy w1 (some mb) ∧ n ≤ N ∧ w1.ownsRow B 65 2 v0 n xs ∧
      ∀ w2 v2 xs2, w1.grownBy w2 v0.ownBlock → w2.ownsRow B 65 2 v2 (n + 1) xs2 → (v2.ownBlock = v0.ownBlock ∨ ∃ g, v2.ownBlock = some g ∧ w1.heap.size ≤ g) →
        ∃ w3, (Instr.entryStore 45 (.map (some mb)) (.int .i64 st) v2).run Try.prog w2 = .ok () w3 ∧ BkM w3 mb B (N + 1) ∧ w2.grownBy w3 (some mb) ∧ ∃ es ck, w2.heap[mb]? = some (.map es ck) := by
  subst hV
  obtain ⟨es, ck, h⟩ := h
  obtain ⟨j, v0, st, es1, ck1, m1, m2, m3⟩ := entry_full lawF Try.underlying45 zeroSp h.map h.fit (by have := h.size; unfold maxLen; omega) (keyOf_fa hf)
  have g1 : w.grownBy (setBlock w mb (.map es1 ck1)) (some mb) := grown_set h.map
  have r1 := heap_setBlock_same h.map (.map es1 ck1)
  obtain ⟨n, xs, hn, hx⟩ : ∃ n xs, n ≤ N ∧ w.ownsRow B 65 2 v0 n xs := by
    rcases m2 with ⟨-, rfl⟩ | ⟨e0, he, rfl⟩
    · exact ⟨0, [], Nat.zero_le _, World.ownsRow_nil _ _ _ _⟩
    · obtain ⟨n, xs, a, b⟩ := h.vals j e0 he
      exact ⟨n, xs, a, b⟩
  have hx1 := own_map hx h.map g1
  refine ⟨v0, st, _, n, xs, m1, g1, hn, hx1, fun w2 v2 xs2 g2 o2 hloc => ?_⟩
  have hmb : w2.heap[mb]? = some (.map es1 ck1) := by
    rw [g2.block mb (Array.getElem?_eq_some_iff.1 r1).1 (fun e => ?_)]
    · exact r1
    · obtain ⟨cs, fz, hc⟩ := own_cells hx1 mb e.symm
      rw [r1] at hc
      injection hc with hc
      cases hc
  obtain ⟨es', ck', q1, q2, q3, q4, e', q5, q6⟩ := m3 w2 v2 hmb
  have g3 : w2.grownBy (setBlock w2 mb (.map es' ck')) (some mb) := grown_set hmb
  have hne : ∀ (i : Nat) (e : MapEntry), es[i]? = some e → i ≠ j → e.val.ownBlock = none ∨ e.val.ownBlock ≠ v0.ownBlock := fun i e hi hij => by
    cases hv : e.val.ownBlock with
    | none => exact .inl rfl
    | some g =>
      refine .inr (fun he => ?_)
      rcases m2 with ⟨-, rfl⟩ | ⟨e0, h0, rfl⟩
      · simp [Value.ownBlock] at he
      · exact h.sep i j e e0 hi h0 hij g hv he.symm
  have hlt : ∀ (i : Nat) (e : MapEntry), es[i]? = some e → ∀ g, e.val.ownBlock = some g → g < w.heap.size := fun i e hi g hg => by
    obtain ⟨n', xs', a, b⟩ := h.vals i e hi
    exact (b.lt g hg).2
  have hsz : (setBlock w mb (.map es1 ck1)).heap.size = w.heap.size := by simp [setBlock]
  refine ⟨_, q1, ⟨es', ck', heap_setBlock_same hmb _, q2, by have := h.size; omega, fun i e hi => ?_, fun i i' ei ei' hi hi' hii g hg => ?_⟩, g3, _, _, hmb⟩
  · by_cases hij : i = j
    · subst hij
      rw [q5] at hi
      injection hi with hi
      subst hi
      rw [q6]
      exact ⟨n + 1, xs2, by omega, own_map o2 hmb g3⟩
    · rw [q4 i hij] at hi
      obtain ⟨n', xs', a, b⟩ := h.vals i e hi
      refine ⟨n', xs', by omega, own_map ((own_map b h.map g1).kept g2 (hne i e hi hij)) hmb g3⟩
  · by_cases hij : i = j
    · subst hij
      rw [q5] at hi
      injection hi with hi
      subst hi
      rw [q6] at hg
      rw [q4 i' (fun e => hii e.symm)] at hi'
      rcases hloc with hl | ⟨g', hl, hge⟩
      · rw [hl] at hg
        intro he
        rcases hne i' ei' hi' (fun e => hii e.symm) with hz | hz
        · rw [hz] at he; cases he
        · exact hz (he.trans hg.symm)
      · rw [hl] at hg
        injection hg with hg
        subst hg
        intro he
        have := hlt i' ei' hi' g' he
        omega
    · rw [q4 i hij] at hi
      by_cases hij' : i' = j
      · subst hij'
        rw [q5] at hi'
        injection hi' with hi'
        subst hi'
        rw [q6]
        intro he
        rcases hloc with hl | ⟨g', hl, hge⟩
        · rw [hl] at he
          rcases hne i ei hi hij with hz | hz
          · rw [hz] at hg; cases hg
          · exact hz (hg.trans he.symm)
        · rw [hl] at he
          injection he with he
          subst he
          have := hlt i ei hi g' hg
          omega
      · rw [q4 i' hij'] at hi'
        exact h.sep i i' ei ei' hi hi' hii g hg
end Go.Proofs.Ytkihlcecjcjmlaa
