/-
  The document's writer of messages in memory: its struct, its bytes, its list of places.
-/
import Derived.Test.YtknpkifhkefikaaDoorWrA
import Derived.Test.YtknpkifhkefikaaDoorEnN
import Derived.Test.YtknpkifhkefikaaDoorMo
import Derived.Maps.AppendAt
import Derived.Lib.AppendStr
namespace Go.Proofs.YtknpkifhkefikaaDoor
open Go.RowKit Go.Maps
set_option linter.unusedVariables false
set_option maxRecDepth 100000

abbrev Plc : Type := Bs × Nat
def lookP : List Plc → Bs → Option Nat
  | [], _ => none
  | q :: L, m => if m = q.1 then some q.2 else lookP L m
theorem lookP_snoc : ∀ {L : List Plc} {n : Bs} (a : Nat), lookP L n = none → lookP (L ++ [(n, a)]) = putP (lookP L) n a
  | [], n, a, _ => by
    funext m
    simp [lookP, putP]
  | q :: L, n, a, h => by
    funext m
    simp only [lookP] at h
    split at h
    · cases h
    rename_i hn
    have ih := lookP_snoc (L := L) a h
    simp only [List.cons_append, lookP, ih, putP]
    by_cases h1 : m = q.1
    · rw [if_pos h1, if_pos h1, if_neg (by rw [h1]; exact fun e => hn e.symm)]
    · rw [if_neg h1, if_neg h1]
theorem lookP_hit : ∀ {L : List Plc} {n : Bs} (j : Nat) (h : j < L.length), lookP (L.take j) n = none → L[j].1 = n → lookP L n = some L[j].2
  | q :: L, n, 0, _, _, he => by simp only [lookP, List.getElem_cons_zero] at he ⊢; rw [if_pos he.symm]
  | q :: L, n, j + 1, h, hn, he => by
    simp only [List.take_succ_cons, lookP] at hn ⊢
    split at hn
    · cases hn
    rename_i hq
    rw [if_neg hq]
    exact lookP_hit j (by simpa using h) hn (by simpa using he)
theorem lookP_next : ∀ {L : List Plc} {n : Bs} (j : Nat) (h : j < L.length), lookP (L.take j) n = none → L[j].1 ≠ n → lookP (L.take (j + 1)) n = none
  | q :: L, n, 0, _, _, he => by simp only [List.getElem_cons_zero, List.take_succ_cons, List.take_zero, lookP] at he ⊢; rw [if_neg (fun e => he e.symm)]
  | q :: L, n, j + 1, h, hn, he => by
    simp only [List.take_succ_cons, lookP] at hn ⊢
    split at hn
    · cases hn
    rename_i hq
    rw [if_neg hq]
    have := lookP_next (L := L) j (by simpa using h) hn (by simpa using he)
    simpa using this
def plL (q : Plc) : List Value := [.string (bs q.1), .int .i64 q.2]
def plRow (L : List Plc) : List Value := L.flatMap plL
theorem plRow_len (L : List Plc) : (plRow L).length = L.length * 2 := by
  induction L with
  | nil => rfl
  | cons q r ih => unfold plRow at *; rw [List.flatMap_cons, List.length_append, ih]; simp [plL]; omega
theorem plRow_get (L : List Plc) : ∀ (j : Nat) (h : j < L.length) (i : Nat), i < 2 → (plRow L)[j * 2 + i]? = (plL L[j])[i]? := by
  induction L with
  | nil => intro j h; simp at h
  | cons q r ih =>
    intro j h i hi
    unfold plRow
    rw [List.flatMap_cons]
    cases j with
    | zero => rw [List.getElem?_append_left (by simp [plL]; omega)]; simp
    | succ j =>
      rw [List.getElem?_append_right (by simp [plL]; omega)]
      have e : (j + 1) * 2 + i - (plL q).length = j * 2 + i := by simp [plL]; omega
      rw [e]
      simpa [plRow] using ih j (by simpa using h) i hi
theorem plRow_snoc (L : List Plc) (q : Plc) : plRow (L ++ [q]) = plRow L ++ plL q := by unfold plRow; simp
/-- The document's writer at block g. -/
structure DtM (g : Nat) (v vp : Value) (base : Nat) (X : Wt) (L : List Plc) (w : World) : Prop where
  head : w.heap[g]? = some (.cells #[v, vp] 77 (0, 0))
  row : OwnR w base v X.b
  nn : v ≠ .slice none 0 0
  pl : w.ownsRow base 141 2 vp L.length (plRow L)
  eq : X.P = lookP L
  len : L.length ≤ X.b.length
  sm : ∀ q ∈ L, q.1.length ≤ 255 ∧ q.2 < 16384
  bg : base ≤ g
def Foot4 (g : Nat) (v vp : Value) (k : Nat) : Prop := k = g ∨ v.ownBlock = some k ∨ vp.ownBlock = some k
section
variable {g base : Nat} {v vp : Value} {X : Wt} {L : List Plc} {w w' : World}
theorem DtM.form (h : DtM g v vp base X L w) : ∃ gv c, v = .slice (some ⟨gv, 0, none⟩) X.b.length c ∧ base ≤ gv ∧ gv < w.heap.size ∧ X.b.length ≤ c ∧ c ≤ maxLen ∧ ∃ cur, w.heap[gv]? = some (.cells cur 5 (0, 0)) := by
  rcases h.row.2 with ⟨e, _⟩ | ⟨gv, c, cur, e, hb, hh, hc, hm, _⟩
  · exact absurd e h.nn
  · exact ⟨gv, c, e, hb, (Array.getElem?_eq_some_iff.1 hh).1, hc, hm, cur, hh⟩
theorem DtM.formP (h : DtM g v vp base X L w) : ∃ a c, vp = .slice a L.length c := by
  rcases h.pl.2 with ⟨e, h0⟩ | ⟨gv, c, cur, e, _⟩
  · exact ⟨none, 0, by rw [e, h0]⟩
  · exact ⟨_, c, e⟩
theorem DtM.blkP (h : DtM g v vp base X L w) {k : Nat} (e : vp.ownBlock = some k) : base ≤ k ∧ k < w.heap.size ∧ ∃ cur, w.heap[k]? = some (.cells cur 141 (0, 0)) := by
  rcases h.pl.2 with ⟨e1, h0⟩ | ⟨gv, c, cur, e1, hb, hh, _⟩
  · rw [e1] at e; cases e
  · rw [e1] at e
    injection e with e
    subst e
    exact ⟨hb, (Array.getElem?_eq_some_iff.1 hh).1, cur, hh⟩
theorem DtM.blkV (h : DtM g v vp base X L w) {k : Nat} (e : v.ownBlock = some k) : base ≤ k ∧ k < w.heap.size ∧ ∃ cur, w.heap[k]? = some (.cells cur 5 (0, 0)) := by
  obtain ⟨gv, c, rfl, hb, hl, _, _, cur, hc⟩ := h.form
  injection e with e
  subst e
  exact ⟨hb, hl, cur, hc⟩
theorem DtM.lt (h : DtM g v vp base X L w) {k : Nat} (hk : Foot4 g v vp k) : k < w.heap.size := by
  rcases hk with rfl | e | e
  · exact (Array.getElem?_eq_some_iff.1 h.head).1
  · exact (h.blkV e).2.1
  · exact (h.blkP e).2.1
theorem DtM.base_le (h : DtM g v vp base X L w) {k : Nat} (hk : Foot4 g v vp k) : base ≤ k := by
  rcases hk with rfl | e | e
  · exact h.bg
  · exact (h.blkV e).1
  · exact (h.blkP e).1
theorem DtM.big (h : DtM g v vp base X L w) : base ≤ w.heap.size := Nat.le_of_lt (Nat.lt_of_le_of_lt h.bg (h.lt (.inl rfl)))
theorem DtM.gv (h : DtM g v vp base X L w) : v.ownBlock ≠ some g := fun e => by
  obtain ⟨_, _, cur, hc⟩ := h.blkV e
  have := h.head
  rw [hc] at this
  injection this with this
  injection this with _ this
  cases this
theorem DtM.gp (h : DtM g v vp base X L w) : vp.ownBlock ≠ some g := fun e => by
  obtain ⟨_, _, cur, hc⟩ := h.blkP e
  have := h.head
  rw [hc] at this
  injection this with this
  injection this with _ this
  cases this
theorem DtM.vv (h : DtM g v vp base X L w) {k : Nat} (e : v.ownBlock = some k) : vp.ownBlock ≠ some k := fun e2 => by
  obtain ⟨_, _, cur, hc⟩ := h.blkV e
  obtain ⟨_, _, cur2, hc2⟩ := h.blkP e2
  rw [hc] at hc2
  injection hc2 with this
  injection this with _ this
  cases this
theorem DtM.kept (h : DtM g v vp base X L w) (hk : ∀ k, Foot4 g v vp k → w'.heap[k]? = w.heap[k]?) : DtM g v vp base X L w' := by
  refine ⟨(hk g (.inl rfl)).trans h.head, ?_, h.nn, ?_, h.eq, h.len, h.sm, h.bg⟩
  · refine ⟨h.row.1, ?_⟩
    rcases h.row.2 with e | ⟨gv, c, cur, e, hb, hh, r⟩
    · exact .inl e
    · exact .inr ⟨gv, c, cur, e, hb, (hk gv (.inr (.inl (by rw [e]; rfl)))).trans hh, r⟩
  · refine ⟨h.pl.1, ?_⟩
    rcases h.pl.2 with e | ⟨gv, c, cur, e, hb, hh, r⟩
    · exact .inl e
    · exact .inr ⟨gv, c, cur, e, hb, (hk gv (.inr (.inr (by rw [e]; rfl)))).trans hh, r⟩
theorem DtM.below (h : DtM g v vp base X L w) (hB : Below w.heap.size w w') : DtM g v vp base X L w' := h.kept fun k hk => hB.block k (h.lt hk)
theorem DtM.alloc (h : DtM g v vp base X L w) (o : Obj) : DtM g v vp base X L (w.alloc o) := h.below (Below.alloc (Below.refl _ _) (Nat.le_refl _) _)
theorem DtM.drew (h : DtM g v vp base X L w) : DtM g v vp base X L w.drew := h.below (Below.drew (Below.refl _ _))
theorem DtM.mod {S : Nat → Prop} (h : DtM g v vp base X L w) (hM : Mod S w w') (hn : ∀ k, Foot4 g v vp k → ¬ S k) : DtM g v vp base X L w' := h.kept fun k hk => hM.block k (h.lt hk) (hn k hk)
theorem DtM.cells (h : DtM g v vp base X L w) : w.cell? ⟨g, 0, none⟩ = some v ∧ w.cell? ⟨g, 1, none⟩ = some vp ∧ w.frozen? ⟨g, 0, none⟩ = false ∧ w.frozen? ⟨g, 1, none⟩ = false := ⟨cell_of_row _ _ _ _ _ _ h.head, cell_of_row _ _ _ _ _ _ h.head, frozen_of_row _ _ _ _ _ h.head, frozen_of_row _ _ _ _ _ h.head⟩
theorem DtM.place (h : DtM g v vp base X L w) (j : Nat) (hj : j < L.length) : ∃ gp c, vp = .slice (some ⟨gp, 0, none⟩) L.length c ∧ w.cell? ⟨gp, j * 2, none⟩ = some (.string (bs L[j].1)) ∧ w.cell? ⟨gp, j * 2 + 1, none⟩ = some (.int .i64 L[j].2) := by
  rcases h.pl.2 with ⟨e1, h0⟩ | ⟨gp, c, cur, e1, hb, hh, hc, hm, hsz, ht⟩
  · omega
  have cell : ∀ i y, i < L.length * 2 → (plRow L)[i]? = some y → w.cell? ⟨gp, i, none⟩ = some y := fun i y hi hy => by
    rw [cell_of_row _ gp i _ _ _ hh]
    rw [← ht, List.getElem?_take_of_lt hi] at hy
    simpa using hy
  exact ⟨gp, c, e1, cell _ _ (by omega) (by have := plRow_get L j hj 0 (by omega); simpa [plL] using this), cell _ _ (by omega) (by have := plRow_get L j hj 1 (by omega); simpa [plL] using this)⟩
/-- The bytes are others now: those of a row that is stored over the old one. -/
theorem DtM.store {v' : Value} {b' : Bs} {w1 : World} (h : DtM g v vp base X L w) (hg : w.grownBy w1 v.ownBlock) (hr : OwnR w1 base v' b') (hf : v'.ownBlock = v.ownBlock ∨ v'.ownBlock = some w.heap.size) (hn : v' ≠ .slice none 0 0) (hl : L.length ≤ b'.length) :
    DtM g v' vp base ⟨b', X.P⟩ L (w1.setCell ⟨g, 0, none⟩ v') := by
  have e1 : w1.heap[g]? = w.heap[g]? := hg.block g (h.lt (.inl rfl)) (fun e => h.gv e.symm)
  have hvg : v'.ownBlock ≠ some g := by
    rcases hf with e | e
    · rw [e]; exact h.gv
    · rw [e]; intro e; injection e with e; have := h.lt (.inl rfl); omega
  refine ⟨row_set v' (e1.trans h.head), ?_, hn, ?_, h.eq, hl, h.sm, h.bg⟩
  · refine ⟨hr.1, ?_⟩
    rcases hr.2 with e | ⟨gv, c, cur, e, hb, hh, r⟩
    · exact .inl e
    · exact .inr ⟨gv, c, cur, e, hb, row_other v' hh (fun e3 => hvg (by rw [e, e3]; rfl)), r⟩
  · refine ⟨h.pl.1, ?_⟩
    rcases h.pl.2 with e | ⟨gp, c, cur, e, hb, hh, r⟩
    · exact .inl e
    · have ep : vp.ownBlock = some gp := by rw [e]; rfl
      exact .inr ⟨gp, c, cur, e, hb, row_other v' ((hg.block gp (h.lt (.inr (.inr ep))) (fun e3 => h.vv e3.symm ep)).trans hh) (fun e3 => h.gp (by rw [← e3]; exact ep)), r⟩
/-- One place more. -/
theorem DtM.put {vp' : Value} {n : Bs} {a : Nat} {w1 : World} (h : DtM g v vp base X L w) (hg : w.grownBy w1 vp.ownBlock) (hp : w1.ownsRow base 141 2 vp' (L.length + 1) (plRow L ++ [.string (bs n), .int .i64 a])) (hf : vp'.ownBlock = vp.ownBlock ∨ vp'.ownBlock = some w.heap.size) (hn : lookP L n = none) (hnl : n.length ≤ 255) (ha : a < 16384) (hl : L.length + 1 ≤ X.b.length) :
    DtM g v vp' base ⟨X.b, putP X.P n a⟩ (L ++ [(n, a)]) (w1.setCell ⟨g, 1, none⟩ vp') := by
  have e1 : w1.heap[g]? = w.heap[g]? := hg.block g (h.lt (.inl rfl)) (fun e => h.gp e.symm)
  have hpg : vp'.ownBlock ≠ some g := by
    rcases hf with e | e
    · rw [e]; exact h.gp
    · rw [e]; intro e; injection e with e; have := h.lt (.inl rfl); omega
  refine ⟨(row_set vp' (e1.trans h.head)).trans (by simp), ?_, h.nn, ?_, ?_, by simpa using hl, ?_, h.bg⟩
  · refine ⟨h.row.1, ?_⟩
    rcases h.row.2 with e | ⟨gv, c, cur, e, hb, hh, r⟩
    · exact .inl e
    · have ev : v.ownBlock = some gv := by rw [e]; rfl
      exact .inr ⟨gv, c, cur, e, hb, row_other vp' ((hg.block gv (h.lt (.inr (.inl ev))) (fun e3 => h.vv ev e3.symm)).trans hh) (fun e3 => h.gv (by rw [← e3]; exact ev)), r⟩
  · rw [List.length_append, plRow_snoc]
    refine ⟨hp.1, ?_⟩
    rcases hp.2 with e | ⟨gp, c, cur, e, hb, hh, r⟩
    · exact .inl e
    · exact .inr ⟨gp, c, cur, e, hb, row_other vp' hh (fun e3 => hpg (by rw [e, e3]; rfl)), r⟩
  · rw [lookP_snoc a hn, ← h.eq]
  · intro q hq
    rw [List.mem_append, List.mem_singleton] at hq
    rcases hq with hq | rfl
    · exact h.sm q hq
    · exact ⟨hnl, ha⟩
end
end Go.Proofs.YtknpkifhkefikaaDoor
