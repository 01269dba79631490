/-
  Laws: a text copied by append([]byte{}, d...); one more text behind a list of texts, of the call's own and of the argument's.
-/
import Derived.Test.YtbeggckkgaoacaaEl
namespace Go.Proofs.Ytbeggckkgaoacaa
open Go.RowKit
set_option linter.unusedVariables false
set_option maxRecDepth 100000

/-- A list of texts under way: its row from B1 on, its texts' own from B on. -/
def NxL (w : World) (B1 B : Nat) (v : Value) (acc : List Bs) : Prop := ∃ xs, w.ownsRow B1 37 1 v acc.length xs ∧ RowsR w B none xs acc
theorem NxL.nil (w : World) (B1 B : Nat) : NxL w B1 B (.slice none 0 0) [] := ⟨[], World.ownsRow_nil _ _ _ _, RowsR.nil⟩
theorem NxL.below {w w' : World} {B1 B : Nat} {v : Value} {L : List Bs} (h : NxL w B1 B v L) (hB : Below w.heap.size w w') : NxL w' B1 B v L := by
  obtain ⟨xs, a, b⟩ := h
  exact ⟨xs, ownsRow_below a hB (Nat.le_refl _), b.below hB⟩
theorem NxL.own {w : World} {B1 B : Nat} {v : Value} {L : List Bs} (h : NxL w B1 B v L) (hb : B ≤ B1) : OwnL w B v L := by
  obtain ⟨xs, a, b⟩ := h
  exact ⟨xs, own_mono a hb, b⟩
/-- Texts of the argument's in a row of the call's own. -/
def NxA (w0 w : World) (B1 : Nat) (v : Value) (acc : List Bs) : Prop := ∃ xs, w.ownsRow B1 37 1 v acc.length xs ∧ RowsA w0 xs acc
theorem NxA.nil (w0 w : World) (B1 : Nat) : NxA w0 w B1 (.slice none 0 0) [] := ⟨[], World.ownsRow_nil _ _ _ _, RowsA.nil _⟩
theorem NxA.below {w0 w w' : World} {B1 : Nat} {v : Value} {L : List Bs} (h : NxA w0 w B1 v L) (hB : Below w.heap.size w w') : NxA w0 w' B1 v L := by
  obtain ⟨xs, a, b⟩ := h
  exact ⟨xs, ownsRow_below a hB (Nat.le_refl _), b⟩
theorem grown_below {w w' : World} {B : Nat} {r : Option Nat} (hg : w.grownBy w' r) (hr : ∀ k, r = some k → B ≤ k) (hb : B ≤ w.heap.size) : Below B w w' := Below.grown (Below.refl _ _) hg hb hr

section
variable {ops : Array Oper} {rest : List Oper} {o : Oper} {a : Act} {W : World} {Q : Exit → Act → World → Prop}
theorem wpList_cloneR (hgd : o.guard = none) (s x : Operand) (ho : o.op = .call { callee := .builtin .append, args := #[s, x], argTypes := #[37, 37] })
    (hs : a.eval s = .slice (some ⟨W.heap.size, 0, none⟩) 0 0) (A : Option Addr) (m c : Nat) (hx : a.eval x = .slice A m c) (d : Bs) (hm : m = d.length) (hS : Sl W A c d) (hl : d.length ≤ 140737488351232)
    (h : ∀ A' c' w', OwnR w' W.heap.size (.slice A' d.length c') d → Below W.heap.size W w' → wpList Try.prog ops Q rest (a.put o.dst (.slice A' d.length c')) w') :
    wpList Try.prog ops Q (o :: rest) a (W.alloc (.cells #[] 5)) := by
  have b0 : Below W.heap.size W (W.alloc (.cells #[] 5)) := Below.alloc (Below.refl _ _) (Nat.le_refl _) _
  refine wpList_appR hgd s x ho W.heap.size _ [] hs (OwnR.empty W W.heap.size (Nat.le_refl _)) A m c hx d hm (hS.on b0).bys hS.nil (by simp; omega) (by simp) ?_
  intro v' w' h1 h2
  obtain ⟨A', c', rfl, -, -⟩ := h1.ownB.bys
  refine h A' c' w' h1 ?_
  exact Below.grown b0 h2 (by simp) (fun k hk => by simp [Value.ownBlock] at hk; omega)
theorem wpList_snocL (hgd : o.guard = none) (s x : Operand) (ho : o.op = .call { callee := .builtin .append, args := #[s, x], argTypes := #[27, 27] })
    (B1 B : Nat) (v : Value) (acc : List Bs) (hs : a.eval s = v) (hN : NxL W B1 B v acc) (hx : a.eval x = .slice (some ⟨W.heap.size, 0, none⟩) 1 1) (u : Value) (y : Bs) (hU : OwnR W B u y) (hlen : (acc.length + 1) * 24 ≤ 140737488355328) (hb : B1 ≤ W.heap.size)
    (h : ∀ v' w', NxL w' B1 B v' (acc ++ [y]) → Below B1 W w' → wpList Try.prog ops Q rest (a.put o.dst v') w') :
    wpList Try.prog ops Q (o :: rest) a (W.alloc (.cells #[u] 37)) := by
  obtain ⟨i0, hi, hz0, hz1, hz2⟩ := info_parts info_slb
  obtain ⟨xs, o1, r1⟩ := hN
  have b0 : Below W.heap.size W (W.alloc (.cells #[u] 37)) := Below.alloc (Below.refl _ _) (Nat.le_refl _) _
  have o2 := ownsRow_below o1 b0 (Nat.le_refl _)
  obtain ⟨A, c, rfl, -, -⟩ := hU.ownB.bys
  refine wpList_append_at hgd s x 27 ho B1 37 i0 (.slice none 0 0) 1 24 Try.underlying27 hi hz0 hz1 hz2 rfl (by decide) v acc.length xs hs o2 ⟨W.heap.size, 0, none⟩ 1 1 [.slice A y.length c] hx rfl (World.news_of_block (cs := #[.slice A y.length c]) (t := 37) (fr := (0, 0)) (row_new _ rfl)) (by intro u hu; rw [List.mem_singleton.1 hu]; rfl) (by unfold maxLen; omega) (by omega) (by simp; omega) ?_
  intro v' w' h1 h2 _
  refine h v' w' ⟨xs ++ [.slice A y.length c], by simpa using h1, ?_⟩ ?_
  · exact RowsR.snoc ((r1.below b0).keptE h2 (elsewhere_own o2 (by decide))) ((hU.below b0).keptE h2 (elsewhere_own o2 (by decide))) (ne_none _)
  · exact Below.grown (b0.mono hb) h2 (by simp; omega) (fun k hk => (o1.lt k hk).1)
theorem wpList_snocA (hgd : o.guard = none) (s x : Operand) (ho : o.op = .call { callee := .builtin .append, args := #[s, x], argTypes := #[27, 27] })
    (w0 : World) (B1 : Nat) (v : Value) (acc : List Bs) (hs : a.eval s = v) (hN : NxA w0 W B1 v acc) (hx : a.eval x = .slice (some ⟨W.heap.size, 0, none⟩) 1 1) (A : Option Addr) (c n : Nat) (y : Bs) (hn : n = y.length) (hU : Sl w0 A c y) (hlen : (acc.length + 1) * 24 ≤ 140737488355328) (hb : B1 ≤ W.heap.size)
    (h : ∀ v' w', NxA w0 w' B1 v' (acc ++ [y]) → Below B1 W w' → wpList Try.prog ops Q rest (a.put o.dst v') w') :
    wpList Try.prog ops Q (o :: rest) a (W.alloc (.cells #[.slice A n c] 37)) := by
  obtain ⟨i0, hi, hz0, hz1, hz2⟩ := info_parts info_slb
  obtain ⟨xs, o1, r1⟩ := hN
  subst hn
  have b0 : Below W.heap.size W (W.alloc (.cells #[.slice A y.length c] 37)) := Below.alloc (Below.refl _ _) (Nat.le_refl _) _
  have o2 := ownsRow_below o1 b0 (Nat.le_refl _)
  refine wpList_append_at hgd s x 27 ho B1 37 i0 (.slice none 0 0) 1 24 Try.underlying27 hi hz0 hz1 hz2 rfl (by decide) v acc.length xs hs o2 ⟨W.heap.size, 0, none⟩ 1 1 [.slice A y.length c] hx rfl (World.news_of_block (cs := #[.slice A y.length c]) (t := 37) (fr := (0, 0)) (row_new _ rfl)) (by intro u hu; rw [List.mem_singleton.1 hu]; rfl) (by unfold maxLen; omega) (by omega) (by simp; omega) ?_
  intro v' w' h1 h2 _
  exact h v' w' ⟨xs ++ [.slice A y.length c], by simpa using h1, r1.snoc hU⟩ (Below.grown (b0.mono hb) h2 (by simp; omega) (fun k hk => (o1.lt k hk).1))
end
end Go.Proofs.Ytbeggckkgaoacaa
