/-
  append onto a slice of bytes that the call made: where the new one lies; from any source, a nil one too.
-/
import Derived.Test.YtjhameebehkdjaaGreatQb
import Derived.Laws.AppendOwnNone
namespace Go.Proofs.YtjhameebehkdjaaGreat
open Go.RowKit
set_option linter.unusedVariables false
set_option maxRecDepth 100000

/-- As wpList_append_ownB; and it says where the new slice lies. -/
theorem wpList_append_ownC {w : World} {ops : Array Oper} {rest : List Oper} {o : Oper} {a : Act} {Q : Exit → Act → World → Prop} (hgd : o.guard = none) (s x : Operand)
    (ho : o.op = .call { callee := .builtin .append, args := #[s, x], argTypes := #[29, 29] })
    (base : Nat) (v : Value) (l : Bs) (hs : a.eval s = v) (hown : OwnB w base v l)
    (ad : Addr) (c m : Nat) (news : Bs) (hx : a.eval x = .slice (some ad) m c) (hm : m = news.length) (xs : List Value) (hxs : news.map byteV = xs) (hnews : ∀ j u, xs[j]? = some u → w.cell? (ad.add j) = some u)
    (hlen : l.length + news.length ≤ 140737488355328) (hbase : base ≤ w.heap.size)
    (h : ∀ v' w', OwnB w' base v' (l ++ news) → w.grownBy w' v.ownBlock → (∀ k, v'.ownBlock = some k → v.ownBlock = some k ∨ w.heap.size ≤ k) → wpList Tryz.prog ops Q rest (a.put o.dst v') w') : wpList Tryz.prog ops Q (o :: rest) a w := by
  obtain ⟨i0, hi, hz0, hz1, hz2⟩ := info_parts info_u8
  subst hm
  subst hxs
  have hone : ∀ u ∈ news.map byteV, u.oneCell' = true := fun u hu => by obtain ⟨b, _, rfl⟩ := List.mem_map.1 hu; rfl
  have hmax : l.length + news.length ≤ maxLen := by unfold maxLen; omega
  rcases hown with ⟨rfl, rfl⟩ | ⟨g, cap, rfl, hb, hlt, hc, hm, hcs, hsp⟩
  · refine wpList_append_own w hgd s x 29 ho w.heap.size 5 i0 (.int .u8 0) 1 1 Tryz.underlying29 hi hz0 hz1 hz2 rfl (by decide) _ 0 [] hs (World.ownsRow_nil _ w.heap.size _ _) ad news.length c (news.map byteV) hx (by simp) hnews hone (by simpa using hmax) (by simpa using hlen) (Nat.le_refl _) ?_
    intro v' w' ho' hg' _
    have ho2 := OwnB.of (l := news) ho' (by simp)
    exact h v' w' (ho2.mono hbase) hg' (fun k hk => .inr (ho2.lt k hk).1)
  · refine wpList_append_arg w hgd s x 29 ho 5 i0 (.int .u8 0) 1 1 Tryz.underlying29 hi hz0 hz1 hz2 rfl (by decide) g 0 l.length cap (l.map byteV) hs (by simp) ?_ ad news.length c (news.map byteV) hx (by simp) hnews hone ?_ hmax (by omega) ?_ ?_
    · intro j u hj
      rw [List.getElem?_map] at hj
      cases hl : l[j]? with
      | none => rw [hl] at hj; cases hj
      | some b =>
        rw [hl] at hj
        injection hj with hj
        obtain ⟨hjl, hjb⟩ := List.getElem?_eq_some_iff.1 hl
        rw [Nat.zero_add, hcs j hjl, hjb, hj]
    · intro hr j hj
      rw [List.length_map] at hj
      have := hsp (l.length + j) (by omega) (by omega)
      simpa using this
    · intro hr
      refine h _ _ (.inr ⟨g, cap, by rw [List.length_append], hb, ?_, by rw [List.length_append]; exact hr, hm, fun j hj => ?_, fun j h1 h2 => ?_⟩) ?_ (fun k hk => .inl hk)
      · exact Nat.lt_of_lt_of_le hlt (grownBy_setCells g _ _ w).size
      · by_cases hjl : j < l.length
        · rw [World.cell?_setCells_out g _ _ _ _ (fun _ _ => Or.inl (by simp; omega)), hcs j hjl, List.getElem_append_left hjl]
        · have hj2 : j - l.length < news.length := by rw [List.length_append] at hj; omega
          have := World.cell?_setCells_in g (news.map byteV) (0 + l.length * 1) w (fun k hk => by rw [List.length_map] at hk; have := (hsp (l.length + k) (by omega) (by omega)).1; simpa using this) (j - l.length) (by simpa using hj2)
          rw [show 0 + l.length * 1 + (j - l.length) = j by omega] at this
          rw [this, List.getElem_append_right (by omega)]
          simp
      · rw [List.length_append] at h1
        rw [World.frozen?_setCells, World.cell?_setCells_out g _ _ _ _ (fun _ _ => Or.inr (by simp; omega))]
        exact hsp j (by omega) h2
      · exact grownBy_setCells g _ _ w
    · intro hr v' w' ho' hg'
      have ho2 := OwnB.of (l := l ++ news) ho' (by simp)
      refine h v' w' (ho2.mono hbase) ⟨hg'.os, hg'.tape, hg'.output, hg'.size, fun k hk _ => hg'.block k hk (by simp)⟩ (fun k hk => .inr (ho2.lt k hk).1)

theorem run_append_nilB {w : World} {base : Nat} {v : Value} {l : Bs} (ty : TypeId) (hown : OwnB w base v l) : (Builtin.append_ #[29, 29] ty #[v, .slice none 0 0]).run Tryz.prog w = .ok v w := by
  obtain ⟨i0, hi, hz0, hz1, hz2⟩ := info_parts info_u8
  rcases hown with ⟨rfl, rfl⟩ | ⟨g, cap, rfl, hb, hlt, hc, hm, hcs, hsp⟩
  · simp [Builtin.append_, run_underlying Tryz.underlying29, sizeOf, typeInfo, hi, Builtin.lenOf, Builtin.firstCells]
  · simp [Builtin.append_, run_underlying Tryz.underlying29, sizeOf, typeInfo, hi, Builtin.lenOf, Builtin.firstCells, hc, storeCells]
/-- append of whatever bytes. -/
theorem wpList_append_bys {w : World} {ops : Array Oper} {rest : List Oper} {o : Oper} {a : Act} {Q : Exit → Act → World → Prop} (hgd : o.guard = none) (s x : Operand)
    (ho : o.op = .call { callee := .builtin .append, args := #[s, x], argTypes := #[29, 29] })
    (base : Nat) (v : Value) (l : Bs) (hs : a.eval s = v) (hown : OwnB w base v l)
    (A : Option Addr) (c m : Nat) (news : Bs) (hx : a.eval x = .slice A m c) (hm : m = news.length) (hB : Bys w A news) (hA : A = none → c = 0)
    (hlen : l.length + news.length ≤ 140737488355328) (hbase : base ≤ w.heap.size)
    (h : ∀ v' w', OwnB w' base v' (l ++ news) → w.grownBy w' v.ownBlock → (∀ k, v'.ownBlock = some k → v.ownBlock = some k ∨ w.heap.size ≤ k) → wpList Tryz.prog ops Q rest (a.put o.dst v') w') : wpList Tryz.prog ops Q (o :: rest) a w := by
  cases A with
  | none =>
    have hn : news = [] := by
      rcases news with _ | ⟨b, r⟩
      · rfl
      · obtain ⟨g, off, hp, _⟩ := hB (by simp)
        cases hp
    subst hn
    obtain rfl := hA rfl
    obtain rfl : m = 0 := hm
    have hrun := run_append_nilB o.type hown
    have hh := h v w (by simpa using hown) ⟨rfl, rfl, rfl, Nat.le_refl _, fun _ _ _ => rfl⟩ (fun k hk => .inl hk)
    refine wpList_plain hgd fun K hK => ?_
    unfold Oper.wp
    simp [execOp, ho, resolve, invoke, builtin, hs, hx, hrun, Result.andThen]
    exact hK _ _ hh
  | some ad =>
    refine wpList_append_ownC hgd s x ho base v l hs hown ad c m news hx hm _ rfl (fun j u hj => ?_) hlen hbase h
    rw [List.getElem?_map] at hj
    cases hl : news[j]? with
    | none => rw [hl] at hj; cases hj
    | some b =>
      rw [hl] at hj
      injection hj with hj
      obtain ⟨hjl, hjb⟩ := List.getElem?_eq_some_iff.1 hl
      obtain ⟨g, off, hp, hcs⟩ := hB (by omega)
      injection hp with hp
      subst hp
      rw [show (⟨g, off, none⟩ : Addr).add j = ⟨g, off + j, none⟩ by unfold Addr.add; split <;> simp_all]
      rw [hcs j hjl, hjb, ← hj]
      rfl
/-- append, as an answer of the machine. -/
theorem run_append_bys {w : World} {base : Nat} {v : Value} {l : Bs} (ty : TypeId) (hown : OwnB w base v l)
    (ad : Addr) (c m : Nat) (news : Bs) (hm : m = news.length) (xs : List Value) (hxs : news.map byteV = xs) (hnews : ∀ j u, xs[j]? = some u → w.cell? (ad.add j) = some u)
    (hlen : l.length + news.length ≤ 140737488355328) (hbase : base ≤ w.heap.size) :
    ∃ v' w', (Builtin.append_ #[29, 29] ty #[v, .slice (some ad) m c]).run Tryz.prog w = .ok v' w' ∧ OwnB w' base v' (l ++ news) ∧ w.grownBy w' v.ownBlock := by
  obtain ⟨i0, hi, hz0, hz1, hz2⟩ := info_parts info_u8
  subst hm
  subst hxs
  have hone : ∀ u ∈ news.map byteV, u.oneCell' = true := fun u hu => by obtain ⟨b, _, rfl⟩ := List.mem_map.1 hu; rfl
  have hmax : l.length + news.length ≤ maxLen := by unfold maxLen; omega
  rcases hown with ⟨rfl, rfl⟩ | ⟨g, cap, rfl, hb, hlt, hc, hm, hcs, hsp⟩
  · obtain ⟨v', w', hr, h2, h3, h4⟩ := run_append_own (P := Tryz.prog) w w.heap.size 29 ty 5 i0 (.int .u8 0) 1 1 Tryz.underlying29 hi hz0 hz1 hz2 rfl (by decide) (.slice none 0 0) 0 [] (World.ownsRow_nil _ _ _ _) ad news.length c (news.map byteV) (by simp) hnews hone (by simpa using hmax) (by simpa using hlen) (Nat.le_refl _)
    have ho2 := OwnB.of (l := news) h2 (by simp)
    exact ⟨v', w', hr, ho2.mono hbase, h3⟩
  · have holds : ∀ j u, (l.map byteV)[j]? = some u → w.cell? ⟨g, 0 + j, none⟩ = some u := by
      intro j u hj
      rw [List.getElem?_map] at hj
      cases hl : l[j]? with
      | none => rw [hl] at hj; cases hj
      | some b =>
        rw [hl] at hj
        injection hj with hj
        obtain ⟨hjl, hjb⟩ := List.getElem?_eq_some_iff.1 hl
        rw [Nat.zero_add, hcs j hjl, hjb, hj]
    by_cases hr : l.length + news.length ≤ cap
    · have hrun := run_append_room_cells (P := Tryz.prog) w 29 ty 5 i0 Tryz.underlying29 hi g 0 l.length cap ad news.length c (news.map byteV) (by rw [hz1]; simp) hnews hone hr (fun j hj => by rw [List.length_map] at hj; have := (hsp (l.length + j) (by omega) (by omega)).1; rw [hz1]; simpa using this) (fun j hj => by rw [List.length_map] at hj; have := (hsp (l.length + j) (by omega) (by omega)).2; rw [hz1]; simpa using this)
      rw [hz1] at hrun
      refine ⟨_, _, hrun, .inr ⟨g, cap, by rw [List.length_append], hb, ?_, by rw [List.length_append]; exact hr, hm, fun j hj => ?_, fun j h1 h2 => ?_⟩, ?_⟩
      · exact Nat.lt_of_lt_of_le hlt (grownBy_setCells g _ _ w).size
      · by_cases hjl : j < l.length
        · rw [World.cell?_setCells_out g _ _ _ _ (fun _ _ => Or.inl (by simp; omega)), hcs j hjl, List.getElem_append_left hjl]
        · have hj2 : j - l.length < news.length := by rw [List.length_append] at hj; omega
          have := World.cell?_setCells_in g (news.map byteV) (0 + l.length * 1) w (fun k hk => by rw [List.length_map] at hk; have := (hsp (l.length + k) (by omega) (by omega)).1; simpa using this) (j - l.length) (by simpa using hj2)
          rw [show 0 + l.length * 1 + (j - l.length) = j by omega] at this
          rw [this, List.getElem_append_right (by omega)]
          simp
      · rw [List.length_append] at h1
        rw [World.frozen?_setCells, World.cell?_setCells_out g _ _ _ _ (fun _ _ => Or.inr (by simp; omega))]
        exact hsp j (by omega) h2
      · exact grownBy_setCells g _ _ w
    · obtain ⟨v', w', hrun, r1, r2⟩ := run_append_arg_grows (P := Tryz.prog) w 29 ty 5 i0 (.int .u8 0) 1 1 Tryz.underlying29 hi hz0 hz1 hz2 rfl (by decide) ⟨g, 0, none⟩ l.length cap (l.map byteV) (by simp) (fun j u hj => by rw [Addr.add_lit]; exact holds j u hj) ad news.length c (news.map byteV) (by simp) hnews (by omega) hmax (by omega)
      have ho2 := OwnB.of (l := l ++ news) r1 (by simp)
      exact ⟨v', w', hrun, ho2.mono hbase, ⟨r2.os, r2.tape, r2.output, r2.size, fun k hk _ => r2.block k hk (by simp)⟩⟩
/-- append under a guard: the walk takes its answer as it is laid. -/
noncomputable def appB (v u : Value) (ty : TypeId) (w : World) : Result Next := ((Builtin.append_ #[29, 29] ty #[v, u]).run Tryz.prog w).andThen fun a w' => .ok (.value a) w'
theorem exec_appB (ev : Operand → Value) (d : Option Tmp) (x y : Operand) (t : TypeId) (p : String) (f : Array Edge) (gd : Nat × Bool) (w : World) : (execOp ev { dst := d, op := .call { callee := .builtin .append, args := #[x, y], argTypes := #[29, 29] }, type := t, pos := p, after := f, guard := some gd }).run Tryz.prog w = appB (ev x) (ev y) t w := by
  unfold execOp appB
  simp only [resolve, invoke, builtin, Sem.run_bind, Sem.run_pure, Result.andThen_ok, List.map_toArray, List.map_cons, List.map_nil]
theorem appB_of {v u : Value} {ty : TypeId} {w w' : World} {v' : Value} (h : (Builtin.append_ #[29, 29] ty #[v, u]).run Tryz.prog w = .ok v' w') : appB v u ty w = .ok (.value v') w' := by
  unfold appB; rw [h]; rfl
end Go.Proofs.YtjhameebehkdjaaGreat
