/-
  A slice of bytes, with its room.
  What a call may turn: some blocks of those that were there. Objects beside each other.
-/
import Derived.Test.YtknpkifhkefikaaDoorGb
namespace Go.Proofs.YtknpkifhkefikaaDoor
open Go.RowKit
set_option linter.unusedVariables false
set_option maxRecDepth 100000

theorem slice_bysN (A : Option Addr) (l : Bs) (c k : Nat) (i : Int) (w : World) (hS : Bys w A l) (hk : k ≤ l.length) (hc : l.length ≤ c) (hi : i = k) (hn : A = none → c = 0) : ∃ A', (∀ w : World, (Instr.slice 29 (.slice A l.length c) (some (.int .i64 i)) none none).run Tryd.prog w = .ok (.slice A' (l.drop k).length (c - k)) w) ∧ Bys w A' (l.drop k) ∧ (l.drop k).length ≤ c - k ∧ (A' = none → c - k = 0) := by
  subst hi
  refine ⟨_, fun w => ?_, hS.cut (k := k) hc, by rw [List.length_drop]; omega, fun h => ?_⟩
  · rw [run_slice_l w 29 A l.length c (by rw [elem_bytes]; exact Tryd.underlying29) _ _ (by omega) (by omega), elem_bytes, size_u8]
    simp [sliced]
  · split at h
    · omega
    · cases A with
      | none => have := hn rfl; omega
      | some a => cases h
/-- Bytes of the argument, a slice of them. -/
structure Sl (W0 : World) (A : Option Addr) (c : Nat) (l : Bs) : Prop where
  bys : Bys W0 A l
  le : l.length ≤ c
  max : c ≤ 9223372036854775807
  nil : A = none → c = 0
theorem Sl.none (W0 : World) : Sl W0 none 0 [] := ⟨fun h => absurd h (by simp), Nat.le_refl _, by omega, fun _ => rfl⟩
theorem Sl.on {W0 W1 : World} {A : Option Addr} {c : Nat} {l : Bs} (h : Sl W0 A c l) (hB : Below W0.heap.size W0 W1) : Sl W1 A c l := ⟨h.bys.on hB, h.le, h.max, h.nil⟩
theorem OwnB.bysN {w : World} {base : Nat} {v : Value} {l : Bs} (h : OwnB w base v l) : ∃ A c, v = .slice A l.length c ∧ Sl w A c l := by
  rcases h with ⟨rfl, rfl⟩ | ⟨g, cap, rfl, hb, hlt, hc, hm, hcs, hsp⟩
  · exact ⟨none, 0, rfl, Sl.none w⟩
  · exact ⟨_, cap, rfl, fun _ => ⟨g, 0, rfl, fun j hj => by rw [Nat.zero_add]; exact hcs j hj⟩, hc, by unfold maxLen at hm; omega, fun h => by cases h⟩
theorem Sl.made {w : World} {cs : Array Value} {t : TypeId} {l : Bs} (h : cs = (l.map byteV).toArray) (hl : l.length ≤ 9223372036854775807) : Sl (w.alloc (.cells cs t)) (some ⟨w.heap.size, 0, Option.none⟩) l.length l := by
  subst h
  exact ⟨fun _ => ⟨w.heap.size, 0, rfl, fun j hj => by rw [cell_of_row _ _ (0 + j) _ _ _ (row_new _ rfl)]; simp [byteV, hj]⟩, Nat.le_refl _, hl, fun h => by cases h⟩
theorem Sl.inside {w : World} {A : Option Addr} {c : Nat} {l : Bs} (h : Sl w A c l) : ∀ p, A = some p → 0 < l.length → p.block < w.heap.size := h.bys.inside
/-- 'b[k:k+m]', 'b[k:]'. -/
theorem Sl.mid {W0 : World} {A : Option Addr} {c : Nat} {l : Bs} (h : Sl W0 A c l) (k m : Nat) (i j : Int) (hk : k + m ≤ l.length) (hi : i = k) (hj : j = (k + m : Nat)) : ∃ A', (∀ w : World, (Instr.slice 29 (.slice A l.length c) (some (.int .i64 i)) (some (.int .i64 j)) Option.none).run Tryd.prog w = .ok (.slice A' ((l.drop k).take m).length (c - k)) w) ∧ Sl W0 A' (c - k) ((l.drop k).take m) := by
  subst hi
  subst hj
  have hle := h.le
  have hlm : ((l.drop k).take m).length = m := by rw [List.length_take, List.length_drop]; omega
  refine ⟨if c = k then A else A.map (·.add k), fun w => ?_, (h.bys.cut (k := k) hle).pre m, by rw [hlm]; omega, by have := h.max; omega, fun hn => ?_⟩
  · rw [run_slice_lh w 29 A l.length c (by rw [elem_bytes]; exact Tryd.underlying29) _ _ _ _ (by omega) (by omega) (by omega), elem_bytes, size_u8, hlm]
    simp [sliced]
    omega
  · split at hn
    · omega
    · cases A with
      | none => have := h.nil rfl; omega
      | some a => cases hn
theorem Sl.rest {W0 : World} {A : Option Addr} {c : Nat} {l : Bs} (h : Sl W0 A c l) (k : Nat) (i : Int) (hk : k ≤ l.length) (hi : i = k) : ∃ A', (∀ w : World, (Instr.slice 29 (.slice A l.length c) (some (.int .i64 i)) Option.none Option.none).run Tryd.prog w = .ok (.slice A' (l.drop k).length (c - k)) w) ∧ Sl W0 A' (c - k) (l.drop k) ∧ ∀ p, A' = some p → ∃ a, A = some a ∧ p.block = a.block := by
  subst hi
  have hle := h.le
  refine ⟨_, fun w => ?_, ⟨h.bys.cut (k := k) hle, by rw [List.length_drop]; omega, by have := h.max; omega, fun hn => ?_⟩, fun p hp => ?_⟩
  · rw [run_slice_l w 29 A l.length c (by rw [elem_bytes]; exact Tryd.underlying29) _ _ (by omega) (by omega), elem_bytes, size_u8]
    simp [sliced]
  · split at hn
    · omega
    · cases A with
      | none => have := h.nil rfl; omega
      | some a => cases hn
  · split at hp
    · exact ⟨p, hp, rfl⟩
    · cases A with
      | none => cases hp
      | some a =>
        injection hp with hp
        subst hp
        exact ⟨a, rfl, by unfold Addr.add; split <;> rfl⟩
theorem Sl.madeF {w : World} {cs : Array Value} {t : TypeId} {l : Bs} (fr : Nat × Nat) (h : cs = (l.map byteV).toArray) (hl : l.length ≤ 9223372036854775807) : Sl (w.alloc (.cells cs t fr)) (some ⟨w.heap.size, 0, Option.none⟩) l.length l := by
  subst h
  refine ⟨fun _ => ⟨_, 0, rfl, fun j hj => ?_⟩, Nat.le_refl _, hl, fun h => by cases h⟩
  have e : (w.alloc (.cells (l.map byteV).toArray t fr)).heap[w.heap.size]? = some (.cells (l.map byteV).toArray t fr) := by
    show (w.heap.push _)[w.heap.size]? = _
    simp
  rw [Nat.zero_add]
  unfold World.cell?
  rw [e]
  simp [byteV, hj]
theorem u64_modS (n : Int) : IntKind.u64.wrap n = n % 18446744073709551616 := by simp [IntKind.wrap, IntKind.bits, IntKind.signed]
/-- 'int(uint(n) % uint(m))'. -/
theorem rem_u64 (n : Int) (m : Nat) (h0 : 0 < m) (h1 : m ≤ 4611686018427387904) : ∃ q : Nat, Int.tmod (IntKind.u64.wrap n) (m : Int) = q ∧ q < m ∧ IntKind.u64.wrap (m : Int) = m ∧ IntKind.i64.wrap (q : Int) = q ∧ IntKind.u64.wrap (q : Int) = q := by
  have e0 : 0 ≤ IntKind.u64.wrap n := by rw [u64_modS]; omega
  have e2 := Int.tmod_lt_of_pos (IntKind.u64.wrap n) (show (0 : Int) < (m : Int) by omega)
  have e1 : 0 ≤ Int.tmod (IntKind.u64.wrap n) (m : Int) := Int.tmod_nonneg _ e0
  refine ⟨(Int.tmod (IntKind.u64.wrap n) (m : Int)).toNat, by omega, by omega, by rw [u64_modS]; omega, IntWalk.i64_in _ (by omega), by rw [u64_modS]; omega⟩
end Go.Proofs.YtknpkifhkefikaaDoor
namespace Go.Proofs.YtknpkifhkefikaaDoor
open Go.RowKit
set_option linter.unusedVariables false
set_option maxRecDepth 100000

/-- Of the blocks that were there those of S alone may have been turned. -/
structure Mod (S : Nat → Prop) (w w' : World) : Prop where
  os : w'.os = w.os
  tape : w'.tape = w.tape
  output : w'.output = w.output
  size : w.heap.size ≤ w'.heap.size
  block : ∀ k, k < w.heap.size → ¬ S k → w'.heap[k]? = w.heap[k]?
theorem Mod.refl (S : Nat → Prop) (w : World) : Mod S w w := ⟨rfl, rfl, rfl, Nat.le_refl _, fun _ _ _ => rfl⟩
theorem Mod.trans {S S' : Nat → Prop} {w w1 w2 : World} (h : Mod S w w1) (k : Mod S' w1 w2) (hs : ∀ i, S' i → S i ∨ w.heap.size ≤ i) : Mod S w w2 :=
  ⟨k.os.trans h.os, k.tape.trans h.tape, k.output.trans h.output, Nat.le_trans h.size k.size, fun i hi hn => (k.block i (Nat.lt_of_lt_of_le hi h.size) (fun e => by rcases hs i e with e | e; exact hn e; omega)).trans (h.block i hi hn)⟩
theorem Mod.wide {S S' : Nat → Prop} {w w1 : World} (h : Mod S w w1) (hs : ∀ i, S i → S' i) : Mod S' w w1 := ⟨h.os, h.tape, h.output, h.size, fun i hi hn => h.block i hi (fun e => hn (hs i e))⟩
theorem Mod.below {S : Nat → Prop} {w w1 : World} (h : Below w.heap.size w w1) : Mod S w w1 := ⟨h.os, h.tape, h.output, h.size, fun i hi _ => h.block i hi⟩
theorem Mod.grown {S : Nat → Prop} {w w1 : World} {r : Option Nat} (h : w.grownBy w1 r) (hr : ∀ k, r = some k → S k) : Mod S w w1 := ⟨h.os, h.tape, h.output, h.size, fun i hi hn => h.block i hi (fun e => hn (hr i e.symm))⟩
theorem Mod.then {S : Nat → Prop} {w w1 w2 : World} (h : Mod S w w1) (k : Below w1.heap.size w1 w2) : Mod S w w2 := h.trans (Mod.below (S := S) k) (fun i e => .inl e)
theorem Mod.toBelow {S : Nat → Prop} {w w1 : World} {B : Nat} (h : Mod S w w1) (hb : B ≤ w.heap.size) (hs : ∀ i, S i → B ≤ i) : Below B w w1 := ⟨h.os, h.tape, h.output, h.size, fun i hi => h.block i (by omega) (fun e => by have := hs i e; omega)⟩
theorem Mod.out {S : Nat → Prop} {w w1 w2 : World} {B : Nat} (h : Below B w w1) (k : Mod S w1 w2) (hb : B ≤ w1.heap.size) (hs : ∀ i, S i → B ≤ i) : Below B w w2 := Below.trans h (k.toBelow hb hs)
theorem Mod.drew {S : Nat → Prop} {w w1 : World} (h : Mod S w w1) : Mod S w w1.drew := h.then (Below.drew (Below.refl _ _))
theorem Mod.row {S : Nat → Prop} {w w1 : World} {g : Nat} {o : Obj} (h : Mod S w w1) (hg : w.heap[g]? = some o) (hn : ¬ S g) : w1.heap[g]? = some o := (h.block g (Array.getElem?_eq_some_iff.1 hg).1 hn).trans hg
theorem Mod.cell {S : Nat → Prop} {w w1 : World} {g i : Nat} {v : Value} (h : Mod S w w1) (hc : w.cell? ⟨g, i, none⟩ = some v) (hn : ¬ S g) : w1.cell? ⟨g, i, none⟩ = some v := (World.cell?_of_block (h.block g (World.block_lt_of_cell? w _ hc) hn)).trans hc
/-- No block of S holds the bytes. -/
def Off (S : Nat → Prop) (A : Option Addr) : Prop := ∀ p, A = some p → ¬ S p.block
theorem Off.none (S : Nat → Prop) : Off S none := fun p h => by cases h
theorem Bys.mod {S : Nat → Prop} {w w1 : World} {A : Option Addr} {l : Bs} (h : Bys w A l) (k : Mod S w w1) (hn : Off S A) : Bys w1 A l := fun hl => by
  obtain ⟨g, off, hA, hc⟩ := h hl
  exact ⟨g, off, hA, fun j hj => k.cell (hc j hj) (hn _ hA)⟩
def OffV (S : Nat → Prop) (v : Value) : Prop := ∀ k, v.ownBlock = some k → ¬ S k
theorem OwnB.mod {S : Nat → Prop} {w w1 : World} {base : Nat} {v : Value} {l : Bs} (h : OwnB w base v l) (k : Mod S w w1) (hn : OffV S v) : OwnB w1 base v l := by
  rcases h with h | ⟨g, cap, rfl, hb, hlt, hc, hm, hcs, hsp⟩
  · exact .inl h
  · have hblk : w1.heap[g]? = w.heap[g]? := k.block g hlt (hn g rfl)
    refine .inr ⟨g, cap, rfl, hb, Nat.lt_of_lt_of_le hlt k.size, hc, hm, fun j hj => ?_, fun j h1 h2 => ?_⟩
    · rw [World.cell?_of_block (a := ⟨g, j, none⟩) hblk]; exact hcs j hj
    · rw [World.cell?_of_block (a := ⟨g, j, none⟩) hblk, World.frozen?_of_block (a := ⟨g, j, none⟩) hblk]; exact hsp j h1 h2
/-- Blocks that are new. -/
def Fresh (B : Nat) : Nat → Prop := fun k => B ≤ k
theorem OwnB.offV {S : Nat → Prop} {w : World} {base : Nat} {v : Value} {l : Bs} (h : OwnB w base v l) (hs : ∀ k, S k → k < base) : OffV S v := fun k hk e => by
  have := (h.lt k hk).1
  have := hs k e
  omega
theorem own_mod {S : Nat → Prop} {w w1 : World} {base size n : Nat} {e : TypeId} {v : Value} {xs : List Value} (h : w.ownsRow base e size v n xs) (k : Mod S w w1) (hn : OffV S v) : w1.ownsRow base e size v n xs := by
  refine ⟨h.1, ?_⟩
  rcases h.2 with h | ⟨g, cap, cur, rfl, hb, hh, r⟩
  · exact .inl h
  · exact .inr ⟨g, cap, cur, rfl, hb, k.row hh (hn g rfl), r⟩
theorem own_offV {S : Nat → Prop} {w : World} {base size n : Nat} {e : TypeId} {v : Value} {xs : List Value} (h : w.ownsRow base e size v n xs) (hs : ∀ k, S k → k < base) : OffV S v := fun k hk e => by
  have := (h.lt k hk).1
  have := hs k e
  omega
theorem RowsO.mod {S : Nat → Prop} {w w1 : World} {base : Nat} {u : Option Nat} {xs : List Value} {M : List Bs} (h : RowsO w base u xs M) (k : Mod S w w1) (hs : ∀ i, S i → i < base) : RowsO w1 base u xs M :=
  ⟨h.1, fun j hj => by
    obtain ⟨v, h1, h2, h3⟩ := h.2 j hj
    exact ⟨v, h1, h2.mod k (h2.offV hs), h3⟩⟩
/-- A list of texts, all in memory from base on. -/
def Txts (w : World) (base : Nat) (v : Value) (L : List Bs) : Prop := ∃ xs, w.ownsRow base 29 1 v L.length xs ∧ RowsO w base v.ownBlock xs L
theorem Txts.mod {S : Nat → Prop} {w w1 : World} {base : Nat} {v : Value} {L : List Bs} (h : Txts w base v L) (k : Mod S w w1) (hs : ∀ i, S i → i < base) : Txts w1 base v L := by
  obtain ⟨xs, h1, h2⟩ := h
  exact ⟨xs, own_mod h1 k (own_offV h1 hs), h2.mod k hs⟩
theorem Txts.on {w w1 : World} {base : Nat} {v : Value} {L : List Bs} (h : Txts w base v L) (hB : Below w.heap.size w w1) : Txts w1 base v L := by
  obtain ⟨xs, h1, h2⟩ := h
  exact ⟨xs, ownsRow_below h1 hB (Nat.le_refl _), h2.below hB⟩
theorem Txts.byss {w : World} {base : Nat} {v : Value} {L : List Bs} (h : Txts w base v L) : ∃ A c, v = .slice A L.length c ∧ Byss w A L ∧ L.length ≤ c ∧ c ≤ 9223372036854775807 ∧ (A = none → c = 0) := by
  obtain ⟨xs, h1, h2⟩ := h
  exact (RowsO.byss h1 h2).2
theorem Txts.nil (w : World) (base : Nat) : Txts w base (.slice none 0 0) [] := ⟨[], World.ownsRow_nil _ _ _ _, RowsO.nil⟩
/-- A list of texts behind one that is one longer. -/
theorem Txts.snoc {w w1 : World} {base : Nat} {v v1 x : Value} {L : List Bs} {y : Bs} {xs : List Value} (h2 : RowsO w base v.ownBlock xs L) (hx : OwnB w base x y) (hn : x.ownBlock = none ∨ x.ownBlock ≠ v.ownBlock) (h1 : w1.ownsRow base 29 1 v1 (L.length + 1) (xs ++ [x])) (hg : w.grownBy w1 v.ownBlock) (hu : v1.ownBlock = v.ownBlock ∨ v1.ownBlock = some w.heap.size) : Txts w1 base v1 (L ++ [y]) :=
  ⟨xs ++ [x], by simpa using h1, (h2.snoc hx hn).step hg hu⟩
/-- Bytes somewhere in memory, perhaps a part of a row. -/
def SlV (w : World) (x : Value) (l : Bs) : Prop := (∃ A c, x = .slice A l.length c ∧ Sl w A c l) ∧ ∀ k, x.ownBlock = some k → k < w.heap.size
theorem SlV.mod {S : Nat → Prop} {w w1 : World} {x : Value} {l : Bs} (h : SlV w x l) (k : Mod S w w1) (hn : OffV S x) : SlV w1 x l := by
  obtain ⟨⟨A, c, rfl, hs⟩, hl⟩ := h
  exact ⟨⟨A, c, rfl, hs.bys.mod k (fun p hp => hn _ (by rw [hp]; rfl)), hs.le, hs.max, hs.nil⟩, fun i hi => Nat.lt_of_lt_of_le (hl i hi) k.size⟩
theorem OwnB.slV {w : World} {base : Nat} {v : Value} {l : Bs} (h : OwnB w base v l) : SlV w v l := ⟨h.bysN, fun k hk => (h.lt k hk).2⟩
/-- A list of texts, in memory that the call made, no block of it in S, none of the texts in the list's own block. -/
def TxS (w : World) (S : Nat → Prop) (v : Value) (L : List Bs) : Prop := ∃ xs, w.ownsRow 0 29 1 v L.length xs ∧ OffV S v ∧ xs.length = L.length ∧ ∀ j (h : j < L.length), ∃ x, xs[j]? = some x ∧ SlV w x L[j] ∧ OffV S x ∧ OffV (fun k => v.ownBlock = some k) x
theorem TxS.mod {S S' : Nat → Prop} {w w1 : World} {v : Value} {L : List Bs} (h : TxS w S v L) (k : Mod S' w w1) (hs : ∀ i, S' i → S i) : TxS w1 S v L := by
  obtain ⟨xs, h1, h2, h3, h4⟩ := h
  refine ⟨xs, own_mod h1 k (fun i hi e => h2 i hi (hs i e)), h2, h3, fun j hj => ?_⟩
  obtain ⟨x, e1, e2, e3, e4⟩ := h4 j hj
  exact ⟨x, e1, e2.mod k (fun i hi e => e3 i hi (hs i e)), e3, e4⟩
theorem TxS.on {S : Nat → Prop} {w w1 : World} {v : Value} {L : List Bs} (h : TxS w S v L) (k : Below w.heap.size w w1) : TxS w1 S v L := by
  obtain ⟨xs, h1, h2, h3, h4⟩ := h
  refine ⟨xs, own_mod (S := fun _ => False) h1 (Mod.below k) (fun i hi e => e), h2, h3, fun j hj => ?_⟩
  obtain ⟨x, e1, e2, e3, e4⟩ := h4 j hj
  exact ⟨x, e1, e2.mod (S := fun _ => False) (Mod.below k) (fun i hi e => e), e3, e4⟩
theorem TxS.wide {S S' : Nat → Prop} {w : World} {v : Value} {L : List Bs} (h : TxS w S v L) (hs : ∀ i, S' i → S i ∨ w.heap.size ≤ i) : TxS w S' v L := by
  obtain ⟨xs, h1, h2, h3, h4⟩ := h
  refine ⟨xs, h1, fun i hi e => ?_, h3, fun j hj => ?_⟩
  · rcases hs i e with e | e
    · exact h2 i hi e
    · have := (h1.lt i hi).2; omega
  · obtain ⟨x, e1, e2, e3, e4⟩ := h4 j hj
    refine ⟨x, e1, e2, fun i hi e => ?_, e4⟩
    rcases hs i e with e | e
    · exact e3 i hi e
    · have := e2.2 i hi; omega
theorem TxS.nil (w : World) (S : Nat → Prop) : TxS w S (.slice none 0 0) [] := ⟨[], World.ownsRow_nil _ _ _ _, fun k hk => by simp [Value.ownBlock] at hk, rfl, fun j h => absurd h (by simp)⟩
theorem TxS.byss {S : Nat → Prop} {w : World} {v : Value} {L : List Bs} (h : TxS w S v L) : ∃ A c, v = .slice A L.length c ∧ Byss w A L ∧ L.length ≤ c ∧ c ≤ 9223372036854775807 ∧ (A = none → c = 0) := by
  obtain ⟨xs, h1, _, h3, h4⟩ := h
  have hl : xs.length = L.length := h3
  rcases h1.2 with ⟨hv, h0⟩ | ⟨g, cap, cur, hv, hb, hh, hc, hm2, hsz, ht⟩
  · exact ⟨none, 0, by rw [hv, h0], fun hn => by omega, by omega, by omega, fun _ => rfl⟩
  · refine ⟨_, cap, hv, fun hn => ⟨g, 0, rfl, fun j hj => ?_⟩, by omega, by unfold maxLen at hm2; omega, fun h => by cases h⟩
    obtain ⟨x, e1, ⟨⟨a, c, rfl, e2⟩, -⟩, -⟩ := h4 j hj
    refine ⟨a, c, ?_, e2.bys, e2.le, e2.max, e2.nil⟩
    rw [cell_of_row _ g (0 + j) _ _ _ hh]
    rw [← ht, List.getElem?_take_of_lt (by omega)] at e1
    rw [Nat.zero_add]
    simpa using e1
theorem own_zero {w : World} {base size n : Nat} {e : TypeId} {v : Value} {xs : List Value} (h : w.ownsRow base e size v n xs) : w.ownsRow 0 e size v n xs := by
  rcases h with ⟨h1, h | ⟨g, cap, cur, hv, hb, r⟩⟩
  · exact ⟨h1, .inl h⟩
  · exact ⟨h1, .inr ⟨g, cap, cur, hv, Nat.zero_le _, r⟩⟩
theorem Txts.txS {w : World} {base : Nat} {v : Value} {L : List Bs} (h : Txts w base v L) : TxS w (fun k => k < base) v L := by
  obtain ⟨xs, h1, h2⟩ := h
  refine ⟨xs, own_zero h1, fun k hk e => by have := (h1.lt k hk).1; omega, h2.1, fun j hj => ?_⟩
  obtain ⟨x, e1, e2, e3⟩ := h2.2 j hj
  refine ⟨x, e1, e2.slV, fun k hk e => by have := (e2.lt k hk).1; omega, fun k hk e => ?_⟩
  rcases e3 with e3 | e3
  · rw [hk] at e3; cases e3
  · exact e3 (hk.trans e.symm)
/-- Rows of texts that lay there ahead. -/
def RowsA (w0 : World) (xs : List Value) (M : List Bs) : Prop := xs.length = M.length ∧ ∀ j (h : j < M.length), ∃ a c, xs[j]? = some (.slice a (M[j]).length c) ∧ Sl w0 a c M[j]
theorem RowsA.nil (w0 : World) : RowsA w0 [] [] := ⟨rfl, fun j h => absurd h (by simp)⟩
theorem RowsA.snoc {w0 : World} {xs : List Value} {M : List Bs} {y : Bs} {a : Option Addr} {c : Nat} (h : RowsA w0 xs M) (hs : Sl w0 a c y) : RowsA w0 (xs ++ [.slice a y.length c]) (M ++ [y]) := by
  refine ⟨by simp [h.1], fun j hj => ?_⟩
  by_cases hjl : j < M.length
  · obtain ⟨a', c', h1, h2⟩ := h.2 j hjl
    exact ⟨a', c', by rw [List.getElem?_append_left (by rw [h.1]; exact hjl), List.getElem_append_left hjl]; exact h1, by rw [List.getElem_append_left hjl]; exact h2⟩
  · have : j = M.length := by simp at hj; omega
    subst this
    refine ⟨a, c, ?_, by rw [List.getElem_append_right (Nat.le_refl _)]; simpa using hs⟩
    rw [List.getElem?_append_right (by rw [h.1]; exact Nat.le_refl _), h.1, List.getElem_append_right (Nat.le_refl _)]
    simp
theorem RowsA.byss {w0 w : World} {base n : Nat} {v : Value} {xs : List Value} {M : List Bs} (ho : w.ownsRow base 29 1 v n xs) (h : RowsA w0 xs M) (hB : Below w0.heap.size w0 w) : n = M.length ∧ ∃ A c, v = .slice A M.length c ∧ Byss w A M ∧ M.length ≤ c ∧ c ≤ 9223372036854775807 ∧ (A = none → c = 0) := by
  have hl : n = M.length := by have := ho.1; rw [h.1] at this; omega
  refine ⟨hl, ?_⟩
  rcases ho.2 with ⟨hv, h0⟩ | ⟨g, cap, cur, hv, hb, hh, hc, hm2, hsz, ht⟩
  · exact ⟨none, 0, by rw [hv, ← hl, h0], fun hn => by omega, by omega, by omega, fun _ => rfl⟩
  · refine ⟨_, cap, by rw [hv, hl], fun hn => ⟨g, 0, rfl, fun j hj => ?_⟩, by omega, by unfold maxLen at hm2; omega, fun h => by cases h⟩
    obtain ⟨a, c, h1, h2⟩ := h.2 j hj
    refine ⟨a, c, ?_, h2.bys.on hB, h2.le, h2.max, h2.nil⟩
    rw [cell_of_row _ g (0 + j) _ _ _ hh]
    rw [← ht, List.getElem?_take_of_lt (by omega)] at h1
    rw [Nat.zero_add]
    simpa using h1
end Go.Proofs.YtknpkifhkefikaaDoor
