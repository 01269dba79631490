/-
  append onto a slice of bytes in a plain row, from any source; where the new one lies.
-/
import Derived.Test.YtabclpffjpcejaaQw
import Derived.Maps.AppendAt
namespace Go.Proofs.Ytabclpffjpcejaa
open Go.RowKit
set_option linter.unusedVariables false
set_option maxRecDepth 100000

theorem run_append_nilR {w : World} {v : Value} {n : Nat} {xs : List Value} (ty : TypeId) (hown : w.ownsRow 0 5 1 v n xs) : (Builtin.append_ #[29, 29] ty #[v, .slice none 0 0]).run Try.prog w = .ok v w := by
  obtain ⟨i0, hi, hz0, hz1, hz2⟩ := info_parts info_u8
  rcases hown.2 with ⟨rfl, _⟩ | ⟨g, cap, cur, rfl, _, _, hc, _⟩
  · simp [Builtin.append_, run_underlying Try.underlying29, sizeOf, typeInfo, hi, Builtin.lenOf, Builtin.firstCells]
  · simp [Builtin.append_, run_underlying Try.underlying29, sizeOf, typeInfo, hi, Builtin.lenOf, Builtin.firstCells, hc, storeCells]
theorem wpList_append_row {w : World} {ops : Array Oper} {rest : List Oper} {o : Oper} {a : Act} {Q : Exit → Act → World → Prop} (hgd : o.guard = none) (s x : Operand)
    (ho : o.op = .call { callee := .builtin .append, args := #[s, x], argTypes := #[29, 29] })
    (v : Value) (l : Bs) (hs : a.eval s = v) (hown : w.ownsRow 0 5 1 v l.length (l.map byteV))
    (A : Option Addr) (c m : Nat) (news : Bs) (hx : a.eval x = .slice A m c) (hm : m = news.length) (hB : Bys w A news) (hA : A = none → c = 0)
    (hlen : l.length + news.length ≤ 140737488355328)
    (h : ∀ v' w', w'.ownsRow 0 5 1 v' (l ++ news).length ((l ++ news).map byteV) → w.grownBy w' v.ownBlock → (∀ k, v'.ownBlock = some k → v.ownBlock = some k ∨ w.heap.size ≤ k) → wpList Try.prog ops Q rest (a.put o.dst v') w') : wpList Try.prog ops Q (o :: rest) a w := by
  obtain ⟨i0, hi, hz0, hz1, hz2⟩ := info_parts info_u8
  cases A with
  | none =>
    have hn : news = [] := by
      rcases news with _ | ⟨b, r⟩
      · rfl
      · obtain ⟨g, off, hp, _⟩ := hB (by simp)
        cases hp
    subst hn
    obtain rfl := hA rfl
    obtain rfl : m = 0 := hm
    have hrun := run_append_nilR o.type hown
    have hh := h v w (by simpa using hown) ⟨rfl, rfl, rfl, Nat.le_refl _, fun _ _ _ => rfl⟩ (fun k hk => .inl hk)
    refine wpList_plain hgd fun K hK => ?_
    unfold Oper.wp
    simp [execOp, ho, resolve, invoke, builtin, hs, hx, hrun, Result.andThen]
    exact hK _ _ hh
  | some ad =>
    refine wpList_append_own_at w hgd s x 29 ho 0 5 i0 (.int .u8 0) 1 1 Try.underlying29 hi hz0 hz1 hz2 rfl (by decide) v l.length (l.map byteV) hs hown ad m c (news.map byteV) hx (by simp [hm]) (fun j u hj => ?_) (fun u hu => by obtain ⟨b, _, rfl⟩ := List.mem_map.1 hu; rfl) (by unfold maxLen; omega) (by omega) (Nat.zero_le _) (fun v' w' h1 h2 h3 h4 => ?_)
    · rw [List.getElem?_map] at hj
      cases hl : news[j]? with
      | none => rw [hl] at hj; cases hj
      | some b =>
        rw [hl] at hj
        injection hj with hj
        obtain ⟨hjl, hjb⟩ := List.getElem?_eq_some_iff.1 hl
        obtain ⟨g, off, hp, hcs⟩ := hB (by omega)
        injection hp with hp
        subst hp
        rw [show (⟨g, off, none⟩ : Addr).add j = ⟨g, off + j, none⟩ by unfold Addr.add; split <;> simp_all]
        rw [hcs j hjl, hjb, ← hj]
        rfl
    · refine h v' w' (by rw [List.length_append, List.map_append, ← hm]; exact h1) h2 (fun k hk => ?_)
      rcases h4 with h4 | h4
      · exact .inl (h4 ▸ hk)
      · rw [h4] at hk
        injection hk with hk
        exact .inr (by omega)
theorem row_slice {w : World} {base n : Nat} {e : TypeId} {v : Value} {xs : List Value} (h : w.ownsRow base e 1 v n xs) : ∃ a c, v = .slice a n c ∧ n ≤ c ∧ c ≤ maxLen ∧ (a = none → c = 0) := by
  rcases h.2 with ⟨rfl, rfl⟩ | ⟨g, cap, cur, rfl, _, _, hc, hm, _⟩
  · exact ⟨none, 0, rfl, Nat.le_refl _, Nat.zero_le _, fun _ => rfl⟩
  · exact ⟨_, cap, rfl, hc, hm, fun e => by cases e⟩
theorem row_bys {w : World} {base : Nat} {v : Value} {l : Bs} (h : w.ownsRow base 5 1 v l.length (l.map byteV)) : ∃ a c, v = .slice a l.length c ∧ l.length ≤ c ∧ c ≤ maxLen ∧ (a = none → c = 0) ∧ Bys w a l := by
  obtain ⟨a, c, hv, h1, h2, h3⟩ := row_slice h
  obtain ⟨_, ho⟩ := RowB.of h rfl
  refine ⟨a, c, hv, h1, h2, h3, ?_⟩
  rcases ho with ⟨_, rfl⟩ | ⟨g, cap, hv2, _, _, _, hR⟩
  · exact Bys.nil _ _
  · rw [hv] at hv2
    injection hv2 with e1 _ _
    subst e1
    exact hR.bys
end Go.Proofs.Ytabclpffjpcejaa
