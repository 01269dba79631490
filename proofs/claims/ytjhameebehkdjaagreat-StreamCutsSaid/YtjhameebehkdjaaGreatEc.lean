/-
  Slices of bytes in memory, one behind the other; rows whose data the call made; append that says where the new row lies.
-/
import Derived.Test.YtjhameebehkdjaaGreatRdE
import Derived.Test.YtjhameebehkdjaaGreatQc
import Derived.Maps.AppendAt
import Derived.Deep.MidRow
namespace Go.Proofs.YtjhameebehkdjaaGreat
open Go.RowKit
set_option linter.unusedVariables false
set_option maxRecDepth 100000

/-- Slices of bytes in memory, one behind the other. -/
def Byss (w : World) (A : Option Addr) (L : List Bs) : Prop := 0 < L.length → ∃ g off, A = some ⟨g, off, none⟩ ∧ ∀ j (h : j < L.length), ∃ a c, w.cell? ⟨g, off + j, none⟩ = some (.slice a (L[j]).length c) ∧ Bys w a L[j] ∧ (L[j]).length ≤ c ∧ c ≤ 9223372036854775807 ∧ (a = none → c = 0)
theorem Byss.on {w w1 : World} {A : Option Addr} {L : List Bs} (h : Byss w A L) (hB : Below w.heap.size w w1) : Byss w1 A L := fun hn => by
  obtain ⟨g, off, hA, hc⟩ := h hn
  refine ⟨g, off, hA, fun j hj => ?_⟩
  obtain ⟨a, c, h1, h2, h3⟩ := hc j hj
  have hlt := World.block_lt_of_cell? w _ h1
  exact ⟨a, c, (World.cell?_of_block (hB.block g hlt)).trans h1, h2.on hB, h3⟩

theorem info_sl : (Tryz.prog.info? 29).map (fun i => (i.zero, i.size, i.bytes)) = some (some (.slice none 0 0), 1, 24) := by kernel_rfl
theorem size_sl (w : World) : (sizeOf 29).run Tryz.prog w = .ok 1 w := by
  obtain ⟨i0, hi, hz0, hz1, hz2⟩ := info_parts info_sl
  simp [sizeOf, typeInfo, hi, hz1]
theorem elem_slices : Tryz.prog.elem 22 = 29 := by kernel_rfl
/-- 'l[:k]' of slices. -/
theorem slice_preS (A : Option Addr) (n c k : Nat) (i : Int) (hk : k ≤ n) (hc : n ≤ c) (hi : i = k) : ∀ w : World, (Instr.slice 22 (.slice A n c) none (some (.int .i64 i)) none).run Tryz.prog w = .ok (.slice A k c) w := by
  intro w
  subst hi
  rw [run_slice_h w 22 A n c (by rw [elem_slices]; exact Tryz.underlying22) _ _ (by omega) (by omega), elem_slices, size_sl]
  simp only [Result.andThen_ok, sliced]
  by_cases h : c = 0
  · subst h; simp
  · simp only [Nat.sub_zero, if_neg h, Int.toNat_natCast]
    cases A with
    | none => simp
    | some a => simp [Addr.add]
theorem grownBy_setRow {w : World} {g : Nat} (cs : Array Value) : w.grownBy (w.setRow g cs) (some g) :=
  ⟨rfl, rfl, rfl, by rw [size_setRow]; exact Nat.le_refl _, fun k _ hne => setRow_other w g k cs (by simpa using hne)⟩
section
variable {P : Program}
theorem wpList_append_at {w : World} {ops : Array Oper} {rest : List Oper} {o : Oper} {a : Act} {Q : Exit → Act → World → Prop} (hgd : o.guard = none) (s x : Operand) (t : TypeId)
    (ho : o.op = .call { callee := .builtin .append, args := #[s, x], argTypes := #[t, t] })
    (base : Nat) (e : TypeId) (i : TypeInfo) (z : Value) (size bytes : Nat) (ht : P.underlying t = some (.slice e)) (hi : P.info? e = some i) (hz : i.zero = some z)
    (hsize : i.size = size) (hby : i.bytes = bytes) (hzs : z.cells.size = size) (hsz : 0 < size)
    (v : Value) (n : Nat) (xs : List Value) (hs : a.eval s = v) (hown : w.ownsRow base e size v n xs)
    (ad : Addr) (m c : Nat) (news : List Value) (hx : a.eval x = .slice (some ad) m c) (hl : news.length = m * size) (hnews : ∀ j u, news[j]? = some u → w.cell? (ad.add j) = some u) (h1 : ∀ u ∈ news, u.oneCell' = true)
    (h63 : n + m ≤ maxLen) (hbytes : (n + m) * bytes ≤ 140737488355328) (hbase : base ≤ w.heap.size)
    (h : ∀ v' w', w'.ownsRow base e size v' (n + m) (xs ++ news) → w.grownBy w' v.ownBlock → (v'.ownBlock = v.ownBlock ∨ v'.ownBlock = some w.heap.size) → wpList P ops Q rest (a.put o.dst v') w') : wpList P ops Q (o :: rest) a w := by
  refine wpList_plain hgd fun K hK => ?_
  obtain ⟨v', w', hr, h2, h3, _, h5⟩ := run_append_own_at (P := P) w base t o.type e i z size bytes ht hi hz hsize hby hzs hsz v n xs hown ad m c news hl hnews h1 h63 hbytes hbase
  unfold Oper.wp execOp
  simp only [ho, resolve, invoke, builtin, Sem.run_bind, Sem.run_pure, Result.andThen_ok, List.map_toArray, List.map_cons, List.map_nil, hs, hx, hr]
  exact hK _ _ (h v' w' h2 h3 h5)
end
theorem grown_trans {W w1 w2 : World} {r r' : Option Nat} (h1 : W.grownBy w1 r) (h2 : w1.grownBy w2 r') (hr : ∀ k, r' = some k → r = some k ∨ W.heap.size ≤ k) : W.grownBy w2 r :=
  ⟨h2.os.trans h1.os, h2.tape.trans h1.tape, h2.output.trans h1.output, Nat.le_trans h1.size h2.size, fun k hk hne => (h2.block k (Nat.lt_of_lt_of_le hk h1.size) (fun he => by
    rcases hr k he.symm with h | h
    · exact hne h.symm
    · omega)).trans (h1.block k hk hne)⟩
theorem grown_refl (W : World) (r : Option Nat) : W.grownBy W r := ⟨rfl, rfl, rfl, Nat.le_refl _, fun _ _ _ => rfl⟩
theorem grown_alloc (w : World) (o : Obj) (r : Option Nat) : w.grownBy (w.alloc o) r := grown_of_below (Below.alloc (Below.refl _ _) (Nat.le_refl _) _) r

/-- Slices of bytes that the call made, none in the block u. -/
def RowsO (w : World) (base : Nat) (u : Option Nat) (xs : List Value) (M : List Bs) : Prop := xs.length = M.length ∧ ∀ j (h : j < M.length), ∃ v, xs[j]? = some v ∧ OwnB w base v M[j] ∧ (v.ownBlock = none ∨ v.ownBlock ≠ u)
theorem RowsO.nil {w : World} {base : Nat} {u : Option Nat} : RowsO w base u [] [] := ⟨rfl, fun j h => absurd h (by simp)⟩
theorem RowsO.kept {w w' : World} {base : Nat} {u : Option Nat} {xs : List Value} {M : List Bs} (h : RowsO w base u xs M) (hg : w.grownBy w' u) : RowsO w' base u xs M :=
  ⟨h.1, fun j hj => by
    obtain ⟨v, h1, h2, h3⟩ := h.2 j hj
    exact ⟨v, h1, h2.kept hg h3, h3⟩⟩
theorem RowsO.far {w w' : World} {base : Nat} {u r : Option Nat} {xs : List Value} {M : List Bs} (h : RowsO w base u xs M) (hg : w.grownBy w' r) (hr : ∀ k, r = some k → k < base) : RowsO w' base u xs M :=
  ⟨h.1, fun j hj => by
    obtain ⟨v, h1, h2, h3⟩ := h.2 j hj
    refine ⟨v, h1, h2.kept hg ?_, h3⟩
    cases hv : v.ownBlock with
    | none => exact .inl rfl
    | some k =>
      refine .inr fun e => ?_
      have := hr k e.symm
      have := (h2.lt k hv).1
      omega⟩
theorem RowsO.below {w w' : World} {base : Nat} {u : Option Nat} {xs : List Value} {M : List Bs} (h : RowsO w base u xs M) (hB : Below w.heap.size w w') : RowsO w' base u xs M := h.kept (grown_of_below hB u)
theorem RowsO.step {w w' : World} {base : Nat} {u u' : Option Nat} {xs : List Value} {M : List Bs} (h : RowsO w base u xs M) (hg : w.grownBy w' u) (hu : u' = u ∨ u' = some w.heap.size) : RowsO w' base u' xs M := by
  refine ⟨h.1, fun j hj => ?_⟩
  obtain ⟨v, h1, h2, h3⟩ := h.2 j hj
  refine ⟨v, h1, h2.kept hg h3, ?_⟩
  rcases hu with rfl | rfl
  · exact h3
  · refine .inr fun he => ?_
    have := (h2.lt _ he).2
    omega
theorem RowsO.snoc {w : World} {base : Nat} {u : Option Nat} {xs : List Value} {M : List Bs} {x : Bs} {v : Value} (h : RowsO w base u xs M) (hv : OwnB w base v x) (hn : v.ownBlock = none ∨ v.ownBlock ≠ u) : RowsO w base u (xs ++ [v]) (M ++ [x]) := by
  refine ⟨by simp [h.1], fun j hj => ?_⟩
  by_cases hjl : j < M.length
  · obtain ⟨v', h1, h2, h3⟩ := h.2 j hjl
    refine ⟨v', ?_, by rw [List.getElem_append_left hjl]; exact h2, h3⟩
    rw [List.getElem?_append_left (by rw [h.1]; exact hjl)]
    exact h1
  · have : j = M.length := by simp at hj; omega
    subst this
    refine ⟨v, ?_, by rw [List.getElem_append_right (Nat.le_refl _)]; simpa using hv, hn⟩
    rw [List.getElem?_append_right (by rw [h.1]; exact Nat.le_refl _), h.1]
    simp
/-- Slices of bytes in a row, all in memory that the call made. -/
theorem RowsO.byss {w : World} {base B n : Nat} {u : Option Nat} {v : Value} {xs : List Value} {M : List Bs} (ho : w.ownsRow B 29 1 v n xs) (h : RowsO w base u xs M) : n = M.length ∧ ∃ A c, v = .slice A M.length c ∧ Byss w A M ∧ M.length ≤ c ∧ c ≤ 9223372036854775807 ∧ (A = none → c = 0) := by
  have hl : n = M.length := by have := ho.1; rw [h.1] at this; omega
  refine ⟨hl, ?_⟩
  rcases ho.2 with ⟨hv, h0⟩ | ⟨g, cap, cur, hv, hb, hh, hc, hm2, hsz, ht⟩
  · exact ⟨none, 0, by rw [hv, ← hl, h0], fun hn => by omega, by omega, by omega, fun _ => rfl⟩
  · refine ⟨_, cap, by rw [hv, hl], fun hn => ⟨g, 0, rfl, fun j hj => ?_⟩, by omega, by unfold maxLen at hm2; omega, fun h => by cases h⟩
    obtain ⟨v', h1, h2, h3⟩ := h.2 j hj
    obtain ⟨A, c, rfl, hB, hle, hmx⟩ := h2.bys
    refine ⟨A, c, ?_, hB, hle, by unfold maxLen at hmx; omega, fun hA => ?_⟩
    · rw [cell_of_row _ g (0 + j) _ _ _ hh]
      rw [← ht, List.getElem?_take_of_lt (by omega)] at h1
      rw [Nat.zero_add]
      simpa using h1
    · rcases h2 with ⟨h2, _⟩ | ⟨g', cap', h2, _⟩
      · injection h2
      · injection h2 with e1
        rw [hA] at e1
        cases e1
theorem info_slb : (Tryz.prog.info? 29).map (fun i => (i.zero, i.size, i.bytes)) = some (some (.slice none 0 0), 1, 24) := info_sl
theorem OwnB.empty (w : World) (base : Nat) (hb : base ≤ w.heap.size) : OwnB (w.alloc (.cells #[] 5)) base (.slice (some ⟨w.heap.size, 0, none⟩) 0 0) [] :=
  .inr ⟨w.heap.size, 0, rfl, hb, by simp, Nat.le_refl _, by unfold maxLen; omega, fun j h => absurd h (by simp), fun j h1 h2 => by omega⟩
end Go.Proofs.YtjhameebehkdjaaGreat
