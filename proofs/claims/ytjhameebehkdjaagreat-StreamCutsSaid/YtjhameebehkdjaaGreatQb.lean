/-
  A slice of bytes that the call made, said by its cells: what '[]byte(s)' leaves too (its row bears a mark behind its cells, so it is no 'ownsRow'); append onto it, both ways in one law.
-/
import Derived.ArgAppend
import Derived.Test.YtjhameebehkdjaaGreatRdW
namespace Go.Proofs.YtjhameebehkdjaaGreat
open Go.RowKit
set_option linter.unusedVariables false
set_option maxRecDepth 100000

def byteV (b : UInt8) : Value := .int .u8 b.toNat
def OwnB (w : World) (base : Nat) (v : Value) (l : Bs) : Prop :=
  (v = .slice none 0 0 ∧ l = []) ∨
  ∃ g cap, v = .slice (some ⟨g, 0, none⟩) l.length cap ∧ base ≤ g ∧ g < w.heap.size ∧ l.length ≤ cap ∧ cap ≤ maxLen ∧ (∀ j (h : j < l.length), w.cell? ⟨g, j, none⟩ = some (byteV l[j])) ∧
    ∀ j, l.length ≤ j → j < cap → (w.cell? ⟨g, j, none⟩).isSome = true ∧ w.frozen? ⟨g, j, none⟩ = false

theorem OwnB.kept {w w' : World} {base : Nat} {v : Value} {l : Bs} {r : Option Nat} (h : OwnB w base v l) (hg : w.grownBy w' r) (hne : v.ownBlock = none ∨ v.ownBlock ≠ r) : OwnB w' base v l := by
  rcases h with h | ⟨g, cap, rfl, hb, hlt, hc, hm, hcs, hsp⟩
  · exact .inl h
  · have hblk : w'.heap[g]? = w.heap[g]? := hg.block g hlt (by simpa [Value.ownBlock] using hne)
    refine .inr ⟨g, cap, rfl, hb, Nat.lt_of_lt_of_le hlt hg.size, hc, hm, fun j hj => ?_, fun j h1 h2 => ?_⟩
    · rw [World.cell?_of_block (a := ⟨g, j, none⟩) hblk]; exact hcs j hj
    · rw [World.cell?_of_block (a := ⟨g, j, none⟩) hblk, World.frozen?_of_block (a := ⟨g, j, none⟩) hblk]; exact hsp j h1 h2
theorem OwnB.alloc {w : World} {base : Nat} {v : Value} {l : Bs} (h : OwnB w base v l) (o : Obj) : OwnB (w.alloc o) base v l :=
  h.kept (World.grownBy_alloc w o none) (by cases hv : v.ownBlock <;> simp)
theorem OwnB.below {w w' : World} {base B : Nat} {v : Value} {l : Bs} (h : OwnB w base v l) (hB : Below B w w') (hs : w.heap.size ≤ B) : OwnB w' base v l := by
  refine h.kept (r := none) ⟨hB.os, hB.tape, hB.output, hB.size, fun k hk _ => hB.block k (by omega)⟩ (by cases hv : v.ownBlock <;> simp)
theorem OwnB.bys {w : World} {base : Nat} {v : Value} {l : Bs} (h : OwnB w base v l) : ∃ A c, v = .slice A l.length c ∧ Bys w A l ∧ l.length ≤ c ∧ c ≤ maxLen := by
  rcases h with ⟨rfl, rfl⟩ | ⟨g, cap, rfl, hb, hlt, hc, hm, hcs, hsp⟩
  · exact ⟨none, 0, rfl, fun h => absurd h (by simp), Nat.le_refl _, by unfold maxLen; omega⟩
  · exact ⟨_, cap, rfl, fun _ => ⟨g, 0, rfl, fun j hj => by rw [Nat.zero_add]; exact hcs j hj⟩, hc, hm⟩
theorem OwnB.mono {w : World} {base base' : Nat} {v : Value} {l : Bs} (h : OwnB w base v l) (hb : base' ≤ base) : OwnB w base' v l := by
  rcases h with h | ⟨g, cap, hv, h1, r⟩
  · exact .inl h
  · exact .inr ⟨g, cap, hv, by omega, r⟩
theorem OwnB.lt {w : World} {base : Nat} {v : Value} {l : Bs} (h : OwnB w base v l) : ∀ k, v.ownBlock = some k → base ≤ k ∧ k < w.heap.size := by
  intro k hk
  rcases h with ⟨rfl, _⟩ | ⟨g, cap, rfl, h1, h2, _⟩
  · simp [Value.ownBlock] at hk
  · simp [Value.ownBlock] at hk
    subst hk
    exact ⟨h1, h2⟩
theorem OwnB.of {w : World} {base n : Nat} {v : Value} {l : Bs} {xs : List Value} (h : w.ownsRow base 5 1 v n xs) (hx : xs = l.map byteV) : OwnB w base v l := by
  subst hx
  have hn : l.length = n := by have := h.1; simpa using this
  rcases h.2 with ⟨hv, h0⟩ | ⟨g, cap, cur, hv, hb, hh, hc, hm, hsz, ht⟩
  · exact .inl ⟨hv, List.eq_nil_of_length_eq_zero (by omega)⟩
  · rw [Nat.mul_one] at hsz ht
    refine .inr ⟨g, cap, by rw [hv, hn], hb, (Array.getElem?_eq_some_iff.1 hh).1, by omega, hm, fun j hj => ?_, fun j h1 h2 => ?_⟩
    · rw [cell_of_row _ _ _ _ _ _ hh]
      have e := congrArg (fun x => x[j]?) ht
      simp [hj] at e
      rw [List.getElem?_take_of_lt (by omega)] at e
      simpa using e
    · rw [cell_of_row _ _ _ _ _ _ hh]
      refine ⟨by simp [hsz, h2], ?_⟩
      simp [World.frozen?, hh]

/-- '[]byte(s)'. -/
theorem conv_own (l : Bs) (w : World) (hl : l.length ≤ 140737488355328) : ∃ v w1, (convert 9 29 (.string (bs l))).run Tryz.prog w = .ok v w1 ∧ OwnB w1 w.heap.size v l ∧ Below w.heap.size w w1 := by
  have hr := run_bytes_of_string (P := Tryz.prog) w 9 29 5 (bs l) Tryz.underlying9 Tryz.underlying29 Tryz.underlying5
  rw [bs_size] at hr
  have hge := grownCap_ge w l.length 0 5
  have hcm : grownCap w l.length 0 5 ≤ maxLen := grownCap_le_maxLen w l.length 0 _ (by unfold maxLen; omega)
  have hsz : (bytesRow (bs l) (grownCap w l.length 0 5)).size = grownCap w l.length 0 5 := by have hz := bs_size l; simp [bytesRow]; omega
  have hrow := row_new (w := w.drew) (k := w.heap.size) (.cells (bytesRow (bs l) (grownCap w l.length 0 5)) 5 ((bytesRow (bs l) (grownCap w l.length 0 5)).size, (bytesRow (bs l) (grownCap w l.length 0 5)).size + 1)) rfl
  refine ⟨_, _, hr, .inr ⟨_, _, rfl, Nat.le_refl _, (Array.getElem?_eq_some_iff.1 hrow).1, hge, hcm, fun j hj => ?_, fun j h1 h2 => ?_⟩, Below.alloc (Below.drew (Below.refl _ _)) (Nat.le_refl _) _⟩
  · rw [cell_of_row _ _ _ _ _ _ hrow]
    simp [bytesRow, Array.getElem?_append, hj, byteV]
  · rw [cell_of_row _ _ _ _ _ _ hrow]
    refine ⟨by simp [hsz, h2], ?_⟩
    have hlo : ¬ (bytesRow (bs l) (grownCap w l.length 0 5)).size ≤ j := by omega
    exact (World.frozen?_alloc_mark w.drew _ _ _ _ j).trans (by simp [hlo])

theorem grownBy_setCells (b : Nat) : ∀ (vs : List Value) (o : Nat) (w : World), w.grownBy (w.setCells b o vs) (some b)
  | [], _, w => ⟨rfl, rfl, rfl, Nat.le_refl _, fun _ _ _ => rfl⟩
  | v :: r, o, w => by
    have h := grownBy_setCells b r (o + 1) (w.setCell ⟨b, o, none⟩ v)
    rw [World.setCells]
    refine ⟨by rw [h.os]; rfl, by rw [h.tape]; rfl, by rw [h.output]; rfl, by have := h.size; simpa using this, fun k hk hne => ?_⟩
    rw [h.block k (by simpa using hk) hne]
    exact heap_setCell_other _ _ _ _ (by simpa using hne)

/-- append of bytes onto such a slice. -/
theorem wpList_append_ownB {w : World} {ops : Array Oper} {rest : List Oper} {o : Oper} {a : Act} {Q : Exit → Act → World → Prop} (hgd : o.guard = none) (s x : Operand)
    (ho : o.op = .call { callee := .builtin .append, args := #[s, x], argTypes := #[29, 29] })
    (base : Nat) (v : Value) (l : Bs) (hs : a.eval s = v) (hown : OwnB w base v l)
    (ad : Addr) (c m : Nat) (news : Bs) (hx : a.eval x = .slice (some ad) m c) (hm : m = news.length) (xs : List Value) (hxs : news.map byteV = xs) (hnews : ∀ j u, xs[j]? = some u → w.cell? (ad.add j) = some u)
    (hlen : l.length + news.length ≤ 140737488355328) (hbase : base ≤ w.heap.size)
    (h : ∀ v' w', OwnB w' base v' (l ++ news) → w.grownBy w' v.ownBlock → wpList Tryz.prog ops Q rest (a.put o.dst v') w') : wpList Tryz.prog ops Q (o :: rest) a w := by
  obtain ⟨i0, hi, hz0, hz1, hz2⟩ := info_parts info_u8
  subst hm
  subst hxs
  have hone : ∀ u ∈ news.map byteV, u.oneCell' = true := fun u hu => by obtain ⟨b, _, rfl⟩ := List.mem_map.1 hu; rfl
  have hmax : l.length + news.length ≤ maxLen := by unfold maxLen; omega
  rcases hown with ⟨rfl, rfl⟩ | ⟨g, cap, rfl, hb, hlt, hc, hm, hcs, hsp⟩
  · refine wpList_append_own w hgd s x 29 ho base 5 i0 (.int .u8 0) 1 1 Tryz.underlying29 hi hz0 hz1 hz2 rfl (by decide) _ 0 [] hs (World.ownsRow_nil _ _ _ _) ad news.length c (news.map byteV) hx (by simp) hnews hone (by simpa using hmax) (by simpa using hlen) hbase ?_
    intro v' w' ho' hg' _
    exact h v' w' (OwnB.of ho' (by simp)) hg'
  · refine wpList_append_arg w hgd s x 29 ho 5 i0 (.int .u8 0) 1 1 Tryz.underlying29 hi hz0 hz1 hz2 rfl (by decide) g 0 l.length cap (l.map byteV) hs (by simp) ?_ ad news.length c (news.map byteV) hx (by simp) hnews hone ?_ hmax (by omega) ?_ ?_
    · intro j u hj
      rw [List.getElem?_map] at hj
      cases hl : l[j]? with
      | none => rw [hl] at hj; cases hj
      | some b =>
        rw [hl] at hj
        injection hj with hj
        obtain ⟨hjl, hjb⟩ := List.getElem?_eq_some_iff.1 hl
        rw [Nat.zero_add, hcs j hjl, hjb, hj]
    · intro hr j hj
      rw [List.length_map] at hj
      have := hsp (l.length + j) (by omega) (by omega)
      simpa using this
    · intro hr
      refine h _ _ (.inr ⟨g, cap, by rw [List.length_append], hb, ?_, by rw [List.length_append]; exact hr, hm, fun j hj => ?_, fun j h1 h2 => ?_⟩) ?_
      · exact Nat.lt_of_lt_of_le hlt (grownBy_setCells g _ _ w).size
      · by_cases hjl : j < l.length
        · rw [World.cell?_setCells_out g _ _ _ _ (fun _ _ => Or.inl (by simp; omega)), hcs j hjl, List.getElem_append_left hjl]
        · have hj2 : j - l.length < news.length := by rw [List.length_append] at hj; omega
          have := World.cell?_setCells_in g (news.map byteV) (0 + l.length * 1) w (fun k hk => by rw [List.length_map] at hk; have := (hsp (l.length + k) (by omega) (by omega)).1; simpa using this) (j - l.length) (by simpa using hj2)
          rw [show 0 + l.length * 1 + (j - l.length) = j by omega] at this
          rw [this, List.getElem_append_right (by omega)]
          simp
      · rw [List.length_append] at h1
        rw [World.frozen?_setCells, World.cell?_setCells_out g _ _ _ _ (fun _ _ => Or.inr (by simp; omega))]
        exact hsp j (by omega) h2
      · exact grownBy_setCells g _ _ w
    · intro hr v' w' ho' hg'
      have ho2 := OwnB.of (l := l ++ news) ho' (by simp)
      refine h v' w' (ho2.mono hbase) ⟨hg'.os, hg'.tape, hg'.output, hg'.size, fun k hk _ => hg'.block k hk (by simp)⟩
end Go.Proofs.YtjhameebehkdjaaGreat
