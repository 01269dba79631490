/-
  append onto bytes of one's own as a step of a region that draws, from whatever bytes; where the new row lies.
-/
import Derived.Test.YtjhameebehkdjaaGreatDoorEnN
import Derived.Test.YtjhameebehkdjaaGreatDoorMo
namespace Go.Proofs.YtjhameebehkdjaaGreatDoor
open Go.RowKit
set_option linter.unusedVariables false
set_option maxRecDepth 100000

/-- append, as an answer of the machine. -/
theorem run_append_bysK {w : World} {base : Nat} {v : Value} {l : Bs} (ty : TypeId) (hown : OwnB w base v l)
    (ad : Addr) (c m : Nat) (news : Bs) (hm : m = news.length) (xs : List Value) (hxs : news.map byteV = xs) (hnews : ∀ j u, xs[j]? = some u → w.cell? (ad.add j) = some u)
    (hlen : l.length + news.length ≤ 140737488355328) (hbase : base ≤ w.heap.size) :
    ∃ v' w', (Builtin.append_ #[29, 29] ty #[v, .slice (some ad) m c]).run Tryz.prog w = .ok v' w' ∧ OwnB w' base v' (l ++ news) ∧ w.grownBy w' v.ownBlock ∧ ∀ k, v'.ownBlock = some k → v.ownBlock = some k ∨ w.heap.size ≤ k := by
  obtain ⟨i0, hi, hz0, hz1, hz2⟩ := info_parts info_u8
  subst hm
  subst hxs
  have hone : ∀ u ∈ news.map byteV, u.oneCell' = true := fun u hu => by obtain ⟨b, _, rfl⟩ := List.mem_map.1 hu; rfl
  have hmax : l.length + news.length ≤ maxLen := by unfold maxLen; omega
  rcases hown with ⟨rfl, rfl⟩ | ⟨g, cap, rfl, hb, hlt, hc, hm, hcs, hsp⟩
  · obtain ⟨v', w', hr, h2, h3, h4⟩ := run_append_own (P := Tryz.prog) w w.heap.size 29 ty 5 i0 (.int .u8 0) 1 1 Tryz.underlying29 hi hz0 hz1 hz2 rfl (by decide) (.slice none 0 0) 0 [] (World.ownsRow_nil _ _ _ _) ad news.length c (news.map byteV) (by simp) hnews hone (by simpa using hmax) (by simpa using hlen) (Nat.le_refl _)
    have ho2 := OwnB.of (l := news) h2 (by simp)
    exact ⟨v', w', hr, ho2.mono hbase, h3, fun k hk => .inr (ho2.lt k hk).1⟩
  · have holds : ∀ j u, (l.map byteV)[j]? = some u → w.cell? ⟨g, 0 + j, none⟩ = some u := by
      intro j u hj
      rw [List.getElem?_map] at hj
      cases hl : l[j]? with
      | none => rw [hl] at hj; cases hj
      | some b =>
        rw [hl] at hj
        injection hj with hj
        obtain ⟨hjl, hjb⟩ := List.getElem?_eq_some_iff.1 hl
        rw [Nat.zero_add, hcs j hjl, hjb, hj]
    by_cases hr : l.length + news.length ≤ cap
    · have hrun := run_append_room_cells (P := Tryz.prog) w 29 ty 5 i0 Tryz.underlying29 hi g 0 l.length cap ad news.length c (news.map byteV) (by rw [hz1]; simp) hnews hone hr (fun j hj => by rw [List.length_map] at hj; have := (hsp (l.length + j) (by omega) (by omega)).1; rw [hz1]; simpa using this) (fun j hj => by rw [List.length_map] at hj; have := (hsp (l.length + j) (by omega) (by omega)).2; rw [hz1]; simpa using this)
      rw [hz1] at hrun
      refine ⟨_, _, hrun, .inr ⟨g, cap, by rw [List.length_append], hb, ?_, by rw [List.length_append]; exact hr, hm, fun j hj => ?_, fun j h1 h2 => ?_⟩, ?_, fun k hk => .inl hk⟩
      · exact Nat.lt_of_lt_of_le hlt (grownBy_setCells g _ _ w).size
      · by_cases hjl : j < l.length
        · rw [World.cell?_setCells_out g _ _ _ _ (fun _ _ => Or.inl (by simp; omega)), hcs j hjl, List.getElem_append_left hjl]
        · have hj2 : j - l.length < news.length := by rw [List.length_append] at hj; omega
          have := World.cell?_setCells_in g (news.map byteV) (0 + l.length * 1) w (fun k hk => by rw [List.length_map] at hk; have := (hsp (l.length + k) (by omega) (by omega)).1; simpa using this) (j - l.length) (by simpa using hj2)
          rw [show 0 + l.length * 1 + (j - l.length) = j by omega] at this
          rw [this, List.getElem_append_right (by omega)]
          simp
      · rw [List.length_append] at h1
        rw [World.frozen?_setCells, World.cell?_setCells_out g _ _ _ _ (fun _ _ => Or.inr (by simp; omega))]
        exact hsp j (by omega) h2
      · exact grownBy_setCells g _ _ w
    · obtain ⟨v', w', hrun, r1, r2⟩ := run_append_arg_grows (P := Tryz.prog) w 29 ty 5 i0 (.int .u8 0) 1 1 Tryz.underlying29 hi hz0 hz1 hz2 rfl (by decide) ⟨g, 0, none⟩ l.length cap (l.map byteV) (by simp) (fun j u hj => by rw [Addr.add_lit]; exact holds j u hj) ad news.length c (news.map byteV) (by simp) hnews (by omega) hmax (by omega)
      have ho2 := OwnB.of (l := l ++ news) r1 (by simp)
      exact ⟨v', w', hrun, ho2.mono hbase, ⟨r2.os, r2.tape, r2.output, r2.size, fun k hk _ => r2.block k hk (by simp)⟩, fun k hk => .inr (ho2.lt k hk).1⟩
theorem run_append_anyK {w : World} {base : Nat} {v : Value} {l : Bs} (ty : TypeId) (hown : OwnB w base v l) (A : Option Addr) (c m : Nat) (news : Bs) (hm : m = news.length) (hB : Bys w A news) (hA : A = none → c = 0) (hlen : l.length + news.length ≤ 140737488355328) (hbase : base ≤ w.heap.size) :
    ∃ v' w', (Builtin.append_ #[29, 29] ty #[v, .slice A m c]).run Tryz.prog w = .ok v' w' ∧ OwnB w' base v' (l ++ news) ∧ w.grownBy w' v.ownBlock ∧ ∀ k, v'.ownBlock = some k → v.ownBlock = some k ∨ w.heap.size ≤ k := by
  cases A with
  | none =>
    have hn : news = [] := by
      rcases news with _ | ⟨b, r⟩
      · rfl
      · obtain ⟨g, off, hp, _⟩ := hB (by simp)
        cases hp
    subst hn
    have hm0 : m = 0 := hm
    subst hm0
    rw [hA rfl]
    exact ⟨v, w, run_append_nilB ty hown, by rw [List.append_nil]; exact hown, grown_refl _ _, fun k hk => .inl hk⟩
  | some ad =>
    by_cases hn : news = []
    · subst hn
      exact run_append_bysK ty hown ad c m [] hm [] rfl (fun j u hj => by simp at hj) hlen hbase
    · obtain ⟨g, off, hp, hc⟩ := hB (List.length_pos_iff.2 hn)
      injection hp with hp
      subst hp
      refine run_append_bysK ty hown _ c m news hm _ rfl (fun j u hj => ?_) hlen hbase
      rw [List.getElem?_map] at hj
      cases hl : news[j]? with
      | none => rw [hl] at hj; cases hj
      | some b =>
        rw [hl] at hj
        injection hj with hj
        obtain ⟨hjl, hjb⟩ := List.getElem?_eq_some_iff.1 hl
        rw [Addr.add_lit, hc j hjl, hjb, ← hj]
        rfl
section
variable {ops : Array Oper} {o : Oper} {a : Act} {w : World} {K : Act → World → Prop} {Q : Exit → Act → World → Prop} {E : Prop}
theorem step_bys (hgd : o.guard = none) (x y : Operand) (ho : o.op = .call { callee := .builtin .append, args := #[x, y], argTypes := #[29, 29] }) (base : Nat) (v : Value) (l : Bs) (hs : a.eval x = v) (hown : OwnB w base v l)
    (A : Option Addr) (m c : Nat) (hx : a.eval y = .slice A m c) (news : Bs) (hm : m = news.length) (hB : Bys w A news) (hA : A = none → c = 0) (hlen : l.length + news.length ≤ 140737488355328) (hbase : base ≤ w.heap.size)
    (h : ∀ v' w', OwnB w' base v' (l ++ news) → w.grownBy w' v.ownBlock → (∀ k, v'.ownBlock = some k → v.ownBlock = some k ∨ w.heap.size ≤ k) → K (a.put o.dst v') w') : if Region.wanted o (yielded ops a.tmps) = true then Oper.wp Tryz.prog o a w K Q else E := by
  obtain ⟨v', w', hr, h1, h2, h3⟩ := run_append_anyK o.type hown A c m news hm hB hA hlen hbase
  exact step_run hgd x y _ ho _ _ hs hx hr (h v' w' h1 h2 h3)
end
end Go.Proofs.YtjhameebehkdjaaGreatDoor
