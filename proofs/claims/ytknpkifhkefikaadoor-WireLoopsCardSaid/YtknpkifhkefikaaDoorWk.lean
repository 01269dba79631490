/-
  The document's writer of messages in memory: its struct, its bytes, its list of places.
  The document's writer: a chain of appends onto its bytes; two and four bytes of a number.
-/
import Derived.Test.YtknpkifhkefikaaDoorWrA
import Derived.Test.YtknpkifhkefikaaDoorEnN
import Derived.Test.YtknpkifhkefikaaDoorGc
import Derived.Maps.AppendAt
import Derived.Lib.AppendStr
import Derived.Test.YtknpkifhkefikaaDoorWrC
import Derived.Test.YtknpkifhkefikaaDoorHdB
import Derived.Deep.RegionLaw
namespace Go.Proofs.YtknpkifhkefikaaDoor
open Go.RowKit Go.Maps
set_option linter.unusedVariables false
set_option maxRecDepth 100000

abbrev Plc : Type := Bs × Nat
def lookP : List Plc → Bs → Option Nat
  | [], _ => none
  | q :: L, m => if m = q.1 then some q.2 else lookP L m
theorem lookP_snoc : ∀ {L : List Plc} {n : Bs} (a : Nat), lookP L n = none → lookP (L ++ [(n, a)]) = putP (lookP L) n a
  | [], n, a, _ => by
    funext m
    simp [lookP, putP]
  | q :: L, n, a, h => by
    funext m
    simp only [lookP] at h
    split at h
    · cases h
    rename_i hn
    have ih := lookP_snoc (L := L) a h
    simp only [List.cons_append, lookP, ih, putP]
    by_cases h1 : m = q.1
    · rw [if_pos h1, if_pos h1, if_neg (by rw [h1]; exact fun e => hn e.symm)]
    · rw [if_neg h1, if_neg h1]
theorem lookP_hit : ∀ {L : List Plc} {n : Bs} (j : Nat) (h : j < L.length), lookP (L.take j) n = none → L[j].1 = n → lookP L n = some L[j].2
  | q :: L, n, 0, _, _, he => by simp only [lookP, List.getElem_cons_zero] at he ⊢; rw [if_pos he.symm]
  | q :: L, n, j + 1, h, hn, he => by
    simp only [List.take_succ_cons, lookP] at hn ⊢
    split at hn
    · cases hn
    rename_i hq
    rw [if_neg hq]
    exact lookP_hit j (by simpa using h) hn (by simpa using he)
theorem lookP_next : ∀ {L : List Plc} {n : Bs} (j : Nat) (h : j < L.length), lookP (L.take j) n = none → L[j].1 ≠ n → lookP (L.take (j + 1)) n = none
  | q :: L, n, 0, _, _, he => by simp only [List.getElem_cons_zero, List.take_succ_cons, List.take_zero, lookP] at he ⊢; rw [if_neg (fun e => he e.symm)]
  | q :: L, n, j + 1, h, hn, he => by
    simp only [List.take_succ_cons, lookP] at hn ⊢
    split at hn
    · cases hn
    rename_i hq
    rw [if_neg hq]
    have := lookP_next (L := L) j (by simpa using h) hn (by simpa using he)
    simpa using this
def plL (q : Plc) : List Value := [.string (bs q.1), .int .i64 q.2]
def plRow (L : List Plc) : List Value := L.flatMap plL
theorem plRow_len (L : List Plc) : (plRow L).length = L.length * 2 := by
  induction L with
  | nil => rfl
  | cons q r ih => unfold plRow at *; rw [List.flatMap_cons, List.length_append, ih]; simp [plL]; omega
theorem plRow_get (L : List Plc) : ∀ (j : Nat) (h : j < L.length) (i : Nat), i < 2 → (plRow L)[j * 2 + i]? = (plL L[j])[i]? := by
  induction L with
  | nil => intro j h; simp at h
  | cons q r ih =>
    intro j h i hi
    unfold plRow
    rw [List.flatMap_cons]
    cases j with
    | zero => rw [List.getElem?_append_left (by simp [plL]; omega)]; simp
    | succ j =>
      rw [List.getElem?_append_right (by simp [plL]; omega)]
      have e : (j + 1) * 2 + i - (plL q).length = j * 2 + i := by simp [plL]; omega
      rw [e]
      simpa [plRow] using ih j (by simpa using h) i hi
theorem plRow_snoc (L : List Plc) (q : Plc) : plRow (L ++ [q]) = plRow L ++ plL q := by unfold plRow; simp
/-- The document's writer at block g. -/
structure DtM (g : Nat) (v vp : Value) (base : Nat) (X : Wt) (L : List Plc) (w : World) : Prop where
  head : w.heap[g]? = some (.cells #[v, vp] 77 (0, 0))
  row : OwnR w base v X.b
  nn : v ≠ .slice none 0 0
  pl : w.ownsRow base 141 2 vp L.length (plRow L)
  eq : X.P = lookP L
  len : L.length ≤ X.b.length
  sm : ∀ q ∈ L, q.1.length ≤ 255 ∧ q.2 < 16384
  bg : base ≤ g
def Foot4 (g : Nat) (v vp : Value) (k : Nat) : Prop := k = g ∨ v.ownBlock = some k ∨ vp.ownBlock = some k
section
variable {g base : Nat} {v vp : Value} {X : Wt} {L : List Plc} {w w' : World}
theorem DtM.form (h : DtM g v vp base X L w) : ∃ gv c, v = .slice (some ⟨gv, 0, none⟩) X.b.length c ∧ base ≤ gv ∧ gv < w.heap.size ∧ X.b.length ≤ c ∧ c ≤ maxLen ∧ ∃ cur, w.heap[gv]? = some (.cells cur 5 (0, 0)) := by
  rcases h.row.2 with ⟨e, _⟩ | ⟨gv, c, cur, e, hb, hh, hc, hm, _⟩
  · exact absurd e h.nn
  · exact ⟨gv, c, e, hb, (Array.getElem?_eq_some_iff.1 hh).1, hc, hm, cur, hh⟩
theorem DtM.formP (h : DtM g v vp base X L w) : ∃ a c, vp = .slice a L.length c := by
  rcases h.pl.2 with ⟨e, h0⟩ | ⟨gv, c, cur, e, _⟩
  · exact ⟨none, 0, by rw [e, h0]⟩
  · exact ⟨_, c, e⟩
theorem DtM.blkP (h : DtM g v vp base X L w) {k : Nat} (e : vp.ownBlock = some k) : base ≤ k ∧ k < w.heap.size ∧ ∃ cur, w.heap[k]? = some (.cells cur 141 (0, 0)) := by
  rcases h.pl.2 with ⟨e1, h0⟩ | ⟨gv, c, cur, e1, hb, hh, _⟩
  · rw [e1] at e; cases e
  · rw [e1] at e
    injection e with e
    subst e
    exact ⟨hb, (Array.getElem?_eq_some_iff.1 hh).1, cur, hh⟩
theorem DtM.blkV (h : DtM g v vp base X L w) {k : Nat} (e : v.ownBlock = some k) : base ≤ k ∧ k < w.heap.size ∧ ∃ cur, w.heap[k]? = some (.cells cur 5 (0, 0)) := by
  obtain ⟨gv, c, rfl, hb, hl, _, _, cur, hc⟩ := h.form
  injection e with e
  subst e
  exact ⟨hb, hl, cur, hc⟩
theorem DtM.lt (h : DtM g v vp base X L w) {k : Nat} (hk : Foot4 g v vp k) : k < w.heap.size := by
  rcases hk with rfl | e | e
  · exact (Array.getElem?_eq_some_iff.1 h.head).1
  · exact (h.blkV e).2.1
  · exact (h.blkP e).2.1
theorem DtM.base_le (h : DtM g v vp base X L w) {k : Nat} (hk : Foot4 g v vp k) : base ≤ k := by
  rcases hk with rfl | e | e
  · exact h.bg
  · exact (h.blkV e).1
  · exact (h.blkP e).1
theorem DtM.big (h : DtM g v vp base X L w) : base ≤ w.heap.size := Nat.le_of_lt (Nat.lt_of_le_of_lt h.bg (h.lt (.inl rfl)))
theorem DtM.gv (h : DtM g v vp base X L w) : v.ownBlock ≠ some g := fun e => by
  obtain ⟨_, _, cur, hc⟩ := h.blkV e
  have := h.head
  rw [hc] at this
  injection this with this
  injection this with _ this
  cases this
theorem DtM.gp (h : DtM g v vp base X L w) : vp.ownBlock ≠ some g := fun e => by
  obtain ⟨_, _, cur, hc⟩ := h.blkP e
  have := h.head
  rw [hc] at this
  injection this with this
  injection this with _ this
  cases this
theorem DtM.vv (h : DtM g v vp base X L w) {k : Nat} (e : v.ownBlock = some k) : vp.ownBlock ≠ some k := fun e2 => by
  obtain ⟨_, _, cur, hc⟩ := h.blkV e
  obtain ⟨_, _, cur2, hc2⟩ := h.blkP e2
  rw [hc] at hc2
  injection hc2 with this
  injection this with _ this
  cases this
theorem DtM.kept (h : DtM g v vp base X L w) (hk : ∀ k, Foot4 g v vp k → w'.heap[k]? = w.heap[k]?) : DtM g v vp base X L w' := by
  refine ⟨(hk g (.inl rfl)).trans h.head, ?_, h.nn, ?_, h.eq, h.len, h.sm, h.bg⟩
  · refine ⟨h.row.1, ?_⟩
    rcases h.row.2 with e | ⟨gv, c, cur, e, hb, hh, r⟩
    · exact .inl e
    · exact .inr ⟨gv, c, cur, e, hb, (hk gv (.inr (.inl (by rw [e]; rfl)))).trans hh, r⟩
  · refine ⟨h.pl.1, ?_⟩
    rcases h.pl.2 with e | ⟨gv, c, cur, e, hb, hh, r⟩
    · exact .inl e
    · exact .inr ⟨gv, c, cur, e, hb, (hk gv (.inr (.inr (by rw [e]; rfl)))).trans hh, r⟩
theorem DtM.below (h : DtM g v vp base X L w) (hB : Below w.heap.size w w') : DtM g v vp base X L w' := h.kept fun k hk => hB.block k (h.lt hk)
theorem DtM.alloc (h : DtM g v vp base X L w) (o : Obj) : DtM g v vp base X L (w.alloc o) := h.below (Below.alloc (Below.refl _ _) (Nat.le_refl _) _)
theorem DtM.drew (h : DtM g v vp base X L w) : DtM g v vp base X L w.drew := h.below (Below.drew (Below.refl _ _))
theorem DtM.mod {S : Nat → Prop} (h : DtM g v vp base X L w) (hM : Mod S w w') (hn : ∀ k, Foot4 g v vp k → ¬ S k) : DtM g v vp base X L w' := h.kept fun k hk => hM.block k (h.lt hk) (hn k hk)
theorem DtM.cells (h : DtM g v vp base X L w) : w.cell? ⟨g, 0, none⟩ = some v ∧ w.cell? ⟨g, 1, none⟩ = some vp ∧ w.frozen? ⟨g, 0, none⟩ = false ∧ w.frozen? ⟨g, 1, none⟩ = false := ⟨cell_of_row _ _ _ _ _ _ h.head, cell_of_row _ _ _ _ _ _ h.head, frozen_of_row _ _ _ _ _ h.head, frozen_of_row _ _ _ _ _ h.head⟩
theorem DtM.place (h : DtM g v vp base X L w) (j : Nat) (hj : j < L.length) : ∃ gp c, vp = .slice (some ⟨gp, 0, none⟩) L.length c ∧ w.cell? ⟨gp, j * 2, none⟩ = some (.string (bs L[j].1)) ∧ w.cell? ⟨gp, j * 2 + 1, none⟩ = some (.int .i64 L[j].2) := by
  rcases h.pl.2 with ⟨e1, h0⟩ | ⟨gp, c, cur, e1, hb, hh, hc, hm, hsz, ht⟩
  · omega
  have cell : ∀ i y, i < L.length * 2 → (plRow L)[i]? = some y → w.cell? ⟨gp, i, none⟩ = some y := fun i y hi hy => by
    rw [cell_of_row _ gp i _ _ _ hh]
    rw [← ht, List.getElem?_take_of_lt hi] at hy
    simpa using hy
  exact ⟨gp, c, e1, cell _ _ (by omega) (by have := plRow_get L j hj 0 (by omega); simpa [plL] using this), cell _ _ (by omega) (by have := plRow_get L j hj 1 (by omega); simpa [plL] using this)⟩
/-- The bytes are others now: those of a row that is stored over the old one. -/
theorem DtM.store {v' : Value} {b' : Bs} {w1 : World} (h : DtM g v vp base X L w) (hg : w.grownBy w1 v.ownBlock) (hr : OwnR w1 base v' b') (hf : v'.ownBlock = v.ownBlock ∨ v'.ownBlock = some w.heap.size) (hn : v' ≠ .slice none 0 0) (hl : L.length ≤ b'.length) :
    DtM g v' vp base ⟨b', X.P⟩ L (w1.setCell ⟨g, 0, none⟩ v') := by
  have e1 : w1.heap[g]? = w.heap[g]? := hg.block g (h.lt (.inl rfl)) (fun e => h.gv e.symm)
  have hvg : v'.ownBlock ≠ some g := by
    rcases hf with e | e
    · rw [e]; exact h.gv
    · rw [e]; intro e; injection e with e; have := h.lt (.inl rfl); omega
  refine ⟨row_set v' (e1.trans h.head), ?_, hn, ?_, h.eq, hl, h.sm, h.bg⟩
  · refine ⟨hr.1, ?_⟩
    rcases hr.2 with e | ⟨gv, c, cur, e, hb, hh, r⟩
    · exact .inl e
    · exact .inr ⟨gv, c, cur, e, hb, row_other v' hh (fun e3 => hvg (by rw [e, e3]; rfl)), r⟩
  · refine ⟨h.pl.1, ?_⟩
    rcases h.pl.2 with e | ⟨gp, c, cur, e, hb, hh, r⟩
    · exact .inl e
    · have ep : vp.ownBlock = some gp := by rw [e]; rfl
      exact .inr ⟨gp, c, cur, e, hb, row_other v' ((hg.block gp (h.lt (.inr (.inr ep))) (fun e3 => h.vv e3.symm ep)).trans hh) (fun e3 => h.gp (by rw [← e3]; exact ep)), r⟩
/-- One place more. -/
theorem DtM.put {vp' : Value} {n : Bs} {a : Nat} {w1 : World} (h : DtM g v vp base X L w) (hg : w.grownBy w1 vp.ownBlock) (hp : w1.ownsRow base 141 2 vp' (L.length + 1) (plRow L ++ [.string (bs n), .int .i64 a])) (hf : vp'.ownBlock = vp.ownBlock ∨ vp'.ownBlock = some w.heap.size) (hn : lookP L n = none) (hnl : n.length ≤ 255) (ha : a < 16384) (hl : L.length + 1 ≤ X.b.length) :
    DtM g v vp' base ⟨X.b, putP X.P n a⟩ (L ++ [(n, a)]) (w1.setCell ⟨g, 1, none⟩ vp') := by
  have e1 : w1.heap[g]? = w.heap[g]? := hg.block g (h.lt (.inl rfl)) (fun e => h.gp e.symm)
  have hpg : vp'.ownBlock ≠ some g := by
    rcases hf with e | e
    · rw [e]; exact h.gp
    · rw [e]; intro e; injection e with e; have := h.lt (.inl rfl); omega
  refine ⟨(row_set vp' (e1.trans h.head)).trans (by simp), ?_, h.nn, ?_, ?_, by simpa using hl, ?_, h.bg⟩
  · refine ⟨h.row.1, ?_⟩
    rcases h.row.2 with e | ⟨gv, c, cur, e, hb, hh, r⟩
    · exact .inl e
    · have ev : v.ownBlock = some gv := by rw [e]; rfl
      exact .inr ⟨gv, c, cur, e, hb, row_other vp' ((hg.block gv (h.lt (.inr (.inl ev))) (fun e3 => h.vv ev e3.symm)).trans hh) (fun e3 => h.gv (by rw [← e3]; exact ev)), r⟩
  · rw [List.length_append, plRow_snoc]
    refine ⟨hp.1, ?_⟩
    rcases hp.2 with e | ⟨gp, c, cur, e, hb, hh, r⟩
    · exact .inl e
    · exact .inr ⟨gp, c, cur, e, hb, row_other vp' hh (fun e3 => hpg (by rw [e, e3]; rfl)), r⟩
  · rw [lookP_snoc a hn, ← h.eq]
  · intro q hq
    rw [List.mem_append, List.mem_singleton] at hq
    rcases hq with hq | rfl
    · exact h.sm q hq
    · exact ⟨hnl, ha⟩
end
end Go.Proofs.YtknpkifhkefikaaDoor
namespace Go.Proofs.YtknpkifhkefikaaDoor
open Go.RowKit Go.Maps
set_option linter.unusedVariables false
set_option maxRecDepth 100000

/-- A chain of appends that began with v0 at W0: now v, with the bytes l; ts are texts that the calls made. -/
structure CH (W0 : World) (base : Nat) (v0 v : Value) (l : Bs) (ts : List (Nat × Bs)) (W : World) : Prop where
  md : Mod (fun k => v0.ownBlock = some k) W0 W
  own : OwnR W base v l
  nn : v ≠ .slice none 0 0
  fr : v.ownBlock = v0.ownBlock ∨ ∀ k, v.ownBlock = some k → W0.heap.size ≤ k
  tm : ∀ q ∈ ts, W0.heap.size ≤ q.1 ∧ q.1 < W.heap.size ∧ Bys W (some ⟨q.1, 0, none⟩) q.2 ∧ v.ownBlock ≠ some q.1
  big : base ≤ W.heap.size
theorem CH.start {W0 : World} {base : Nat} {v0 : Value} {l : Bs} (h : OwnR W0 base v0 l) (hn : v0 ≠ .slice none 0 0) (hb : base ≤ W0.heap.size) : CH W0 base v0 v0 l [] W0 := ⟨Mod.refl _ _, h, hn, .inl rfl, fun q hq => (by cases hq), hb⟩
theorem CH.on {W0 W W' : World} {base : Nat} {v0 v : Value} {l : Bs} {ts : List (Nat × Bs)} (h : CH W0 base v0 v l ts W) (k : Below W.heap.size W W') : CH W0 base v0 v l ts W' :=
  ⟨h.md.then k, h.own.below k, h.nn, h.fr, fun q hq => by obtain ⟨a, b, c, d⟩ := h.tm q hq; exact ⟨a, Nat.lt_of_lt_of_le b k.size, c.on k, d⟩, Nat.le_trans h.big k.size⟩
theorem CH.drew {W0 W : World} {base : Nat} {v0 v : Value} {l : Bs} {ts : List (Nat × Bs)} (h : CH W0 base v0 v l ts W) : CH W0 base v0 v l ts W.drew := h.on (Below.drew (Below.refl _ _))
theorem CH.call {W0 W W' : World} {base k : Nat} {v0 v : Value} {l t : Bs} {ts : List (Nat × Bs)} (h : CH W0 base v0 v l ts W) (hB : Below W.heap.size W W') (hk : W.heap.size ≤ k) (hk2 : k < W'.heap.size) (hb : Bys W' (some ⟨k, 0, none⟩) t) : CH W0 base v0 v l ((k, t) :: ts) W' := by
  have h' := h.on hB
  refine ⟨h'.md, h'.own, h'.nn, h'.fr, fun q hq => ?_, h'.big⟩
  rcases List.mem_cons.1 hq with rfl | hq
  · exact ⟨Nat.le_trans h.md.size hk, hk2, hb, fun e => by have := (h.own.ownB.lt k e).2; omega⟩
  · exact h'.tm q hq
theorem CH.app {W0 W W' : World} {base k : Nat} {v0 v v' : Value} {l t : Bs} {ts : List (Nat × Bs)} (h : CH W0 base v0 v l ts W) (ho : OwnR W' base v' (l ++ t)) (hg : W.grownBy W' v.ownBlock) (hf : v'.ownBlock = v.ownBlock ∨ v'.ownBlock = some W.heap.size) (hn : v' ≠ .slice none 0 0) : CH W0 base v0 v' (l ++ t) ts W' := by
  refine ⟨h.md.trans (S' := fun k => v.ownBlock = some k) (Mod.grown hg (fun k e => e)) (fun i e => ?_), ho, hn, ?_, fun q hq => ?_, Nat.le_trans h.big hg.size⟩
  · rcases h.fr with f | f
    · exact .inl (by rw [← f]; exact e)
    · exact .inr (f i e)
  · rcases hf with e | e
    · rw [e]; exact h.fr
    · exact .inr fun k hk => by rw [e] at hk; injection hk with hk; have := h.md.size; omega
  · obtain ⟨a, b, c, d⟩ := h.tm q hq
    refine ⟨a, Nat.lt_of_lt_of_le b hg.size, c.mod (S := fun k => v.ownBlock = some k) (Mod.grown hg (fun k e => e)) (fun p hp e => ?_), fun e => ?_⟩
    · injection hp with hp
      subst hp
      exact d e
    · rcases hf with f | f
      · exact d (f.symm.trans e)
      · rw [f] at e; injection e with e; omega
section
variable {ops : Array Oper} {o : Oper} {a : Act} {w : World} {K : Act → World → Prop} {Q : Exit → Act → World → Prop} {E : Prop}
theorem step_ch (hgd : o.guard = none) (x y : Operand) (ho : o.op = .call { callee := .builtin .append, args := #[x, y], argTypes := #[29, 29] }) {W0 : World} {base : Nat} {v0 v : Value} {l : Bs} {ts : List (Nat × Bs)} (hs : a.eval x = v) (h : CH W0 base v0 v l ts w)
    (k m c : Nat) (hx : a.eval y = .slice (some ⟨k, 0, none⟩) m c) (t : Bs) (ht : (k, t) ∈ ts) (hm : m = t.length) (hlen : l.length + t.length ≤ 140737488355328)
    (hK : ∀ v' w', CH W0 base v0 v' (l ++ t) ts w' → K (a.put o.dst v') w') : if Region.wanted o (yielded ops a.tmps) = true then Oper.wp Tryd.prog o a w K Q else E := by
  obtain ⟨v', w', hr, h1, h2, h3, h4⟩ := run_appRF o.type h.own h.nn (some ⟨k, 0, none⟩) c m t hm (h.tm _ ht).2.2.1 (fun e => by cases e) hlen h.big
  exact step_run hgd x y _ ho _ _ hs hx hr (hK v' w' (h.app (k := k) h1 h2 h3 h4))
end
/-- The chain stored over the writer's bytes. -/
theorem DtM.storeC {g base : Nat} {v vp v' : Value} {X : Wt} {L : List Plc} {w W : World} {b' : Bs} {ts : List (Nat × Bs)} (h : DtM g v vp base X L w) (hc : CH w base v v' b' ts W) (hl : L.length ≤ b'.length) : DtM g v' vp base ⟨b', X.P⟩ L (W.setCell ⟨g, 0, none⟩ v') := by
  have e1 : W.heap[g]? = w.heap[g]? := hc.md.block g (h.lt (.inl rfl)) (fun e => h.gv e)
  have hvg : v'.ownBlock ≠ some g := by
    rcases hc.fr with e | e
    · rw [e]; exact h.gv
    · intro e2; have := e g e2; have := h.lt (.inl rfl); omega
  refine ⟨row_set v' (e1.trans h.head), ?_, hc.nn, ?_, h.eq, hl, h.sm, h.bg⟩
  · refine ⟨hc.own.1, ?_⟩
    rcases hc.own.2 with e | ⟨gv, c, cur, e, hb, hh, r⟩
    · exact .inl e
    · exact .inr ⟨gv, c, cur, e, hb, row_other v' hh (fun e3 => hvg (by rw [e, e3]; rfl)), r⟩
  · refine ⟨h.pl.1, ?_⟩
    rcases h.pl.2 with e | ⟨gp, c, cur, e, hb, hh, r⟩
    · exact .inl e
    · have ep : vp.ownBlock = some gp := by rw [e]; rfl
      exact .inr ⟨gp, c, cur, e, hb, row_other v' ((hc.md.block gp (h.lt (.inr (.inr ep))) (fun e3 => h.vv e3 ep)).trans hh) (fun e3 => h.gp (by rw [← e3]; exact ep)), r⟩
/-- What a call of the document's writer leaves. -/
def DrP (g : Nat) (v vp : Value) (base : Nat) (X' : Wt) (w w' : World) : Prop := ∃ v' vp' L', DtM g v' vp' base X' L' w' ∧ L'.length < X'.b.length ∧ Mod (Foot4 g v vp) w w' ∧ ∀ k, (v'.ownBlock = some k ∨ vp'.ownBlock = some k) → Foot4 g v vp k ∨ w.heap.size ≤ k
theorem DrP.trans {g base : Nat} {v vp v1 vp1 : Value} {X' : Wt} {w w1 w2 : World} (hM : Mod (Foot4 g v vp) w w1) (hf : ∀ k, (v1.ownBlock = some k ∨ vp1.ownBlock = some k) → Foot4 g v vp k ∨ w.heap.size ≤ k) (h : DrP g v1 vp1 base X' w1 w2) : DrP g v vp base X' w w2 := by
  obtain ⟨v', vp', L', h1, h2, h3, h4⟩ := h
  have hF : ∀ k, Foot4 g v1 vp1 k → Foot4 g v vp k ∨ w.heap.size ≤ k := fun k hk => by
    rcases hk with e | e | e
    · exact .inl (.inl e)
    · exact hf k (.inl e)
    · exact hf k (.inr e)
  refine ⟨v', vp', L', h1, h2, hM.trans h3 hF, fun k hk => ?_⟩
  rcases h4 k hk with e | e
  · exact hF k e
  · exact .inr (Nat.le_trans hM.size e)
/-- A chain stored: what it leaves. -/
theorem DrP.chain {g base : Nat} {v vp v' : Value} {X : Wt} {L : List Plc} {w W : World} {b' : Bs} {ts : List (Nat × Bs)} (h : DtM g v vp base X L w) (hc : CH w base v v' b' ts W) (hl : L.length < b'.length) : DrP g v vp base ⟨b', X.P⟩ w (W.setCell ⟨g, 0, none⟩ v') := by
  refine ⟨v', vp, L, h.storeC hc (Nat.le_of_lt hl), hl, Mod.store (hc.md.wide (fun i e => .inr (.inl e))) _ _ (.inl (.inl rfl)), fun k hk => ?_⟩
  rcases hk with e | e
  · rcases hc.fr with f | f
    · exact .inl (.inr (.inl (by rw [← f]; exact e)))
    · exact .inr (f k e)
  · exact .inl (.inr (.inr e))
theorem CH.cell {W0 W : World} {base : Nat} {v0 v : Value} {l : Bs} {ts : List (Nat × Bs)} (h : CH W0 base v0 v l ts W) {g : Nat} {cs : Array Value} {T : TypeId} (hr : W0.heap[g]? = some (.cells cs T (0, 0))) (hv : v0.ownBlock ≠ some g) : W.heap[g]? = some (.cells cs T (0, 0)) := (h.md.block g (Array.getElem?_eq_some_iff.1 hr).1 hv).trans hr
set_option maxHeartbeats 1000000 in
theorem dTwo_any (n : Nat) (z : Int) (hz : z = n) (w : World) : Calls Tryd.prog 37 #[.int .i64 z] w fun e w' => ∃ k, e = .returned (.slice (some ⟨k, 0, none⟩) 2 2) ∧ w.heap.size ≤ k ∧ k < w'.heap.size ∧ OwnR w' w.heap.size (.slice (some ⟨k, 0, none⟩) 2 2) (tw n) ∧ Below w.heap.size w w' := by
  subst hz
  obtain ⟨b0, hb0⟩ : ∃ b, b = UInt8.ofNat (n / 256) := ⟨_, rfl⟩
  obtain ⟨b1, hb1⟩ : ∃ b, b = UInt8.ofNat n := ⟨_, rfl⟩
  have f0 : IntKind.u8.wrap ((n : Int) / 256) = (b0.toNat : Int) := by rw [hb0]; exact u8_hi n
  have f1 : IntKind.u8.wrap (n : Int) = (b1.toNat : Int) := by rw [hb1]; exact u8_lo n
  have O : Hid (OwnR (w.alloc (.cells #[.int .u8 b0.toNat, .int .u8 b1.toNat] 5)) w.heap.size (.slice (some ⟨w.heap.size, 0, none⟩) 2 2) (tw n)) := Lib.hid (by rw [tw, ← hb0, ← hb1]; exact OwnR.made (l := [b0, b1]) (Nat.le_refl _) (by simp [byteV]) (by simp [maxLen]))
  clear hb0 hb1
  go_enter Tryd.func37, Tryd.ntmps37
  go_wp2_with fail
  go_ret
  exact ⟨_, rfl, Nat.le_refl _, by simp, O.out, Below.alloc (Below.refl _ _) (Nat.le_refl _) _⟩
theorem ownR_bys {w : World} {base k n c : Nat} {l : Bs} (h : OwnR w base (.slice (some ⟨k, 0, none⟩) n c) l) : Bys w (some ⟨k, 0, none⟩) l := by
  obtain ⟨A', c', e, hb, -⟩ := h.ownB.bysN
  injection e with e _ _
  rw [e]
  exact hb
theorem four_eq (n : Nat) (h : n < 4294967296) : tw (n / 65536) ++ tw (n % 65536) = tw (n / 65536) ++ tw n := by
  unfold tw
  have h1 : UInt8.ofNat (n % 65536 / 256) = UInt8.ofNat (n / 256) := by
    apply UInt8.toNat_inj.1
    simp
    omega
  have h2 : UInt8.ofNat (n % 65536) = UInt8.ofNat n := by
    apply UInt8.toNat_inj.1
    simp
  rw [h1, h2]
set_option maxHeartbeats 1000000 in
theorem dFour_any (n : Nat) (z : Int) (hz : z = n) (hn : n < 4294967296) (w : World) : Calls Tryd.prog 76 #[.int .i64 z] w fun e w' => ∃ k c, e = .returned (.slice (some ⟨k, 0, none⟩) 4 c) ∧ w.heap.size ≤ k ∧ k < w'.heap.size ∧ OwnR w' w.heap.size (.slice (some ⟨k, 0, none⟩) 4 c) (tw (n / 65536) ++ tw n) ∧ Below w.heap.size w w' := by
  subst hz
  have hd : (n : Int) / 65536 = ((n / 65536 : Nat) : Int) := (Int.natCast_ediv n 65536).symm
  have ha : (n : Int) % 65536 = ((n % 65536 : Nat) : Int) := by omega
  have hA : bits .and .i64 (n : Int) 65535 = (n : Int) % 65536 := by
    have h1 := and_nat n 65535 (by omega) (by omega)
    have h2 : n &&& 65535 = n % 65536 := Nat.and_two_pow_sub_one_eq_mod n 16
    rw [h2, ← ha] at h1
    exact h1
  have T1 := Lib.hid (fun W => dTwo_any (n / 65536) ((n : Int) / 65536) hd W)
  have T2 := Lib.hid (fun W => dTwo_any (n % 65536) _ ha W)
  have FE := Lib.hid (four_eq n hn)
  clear hd ha hn
  go_enter Tryd.func76, Tryd.ntmps76
  go_wp2_with fail
  refine (T1.out _).mono ?_
  rintro e w1 ⟨k1, rfl, h1, h2, o1, b1⟩
  have O1 := Lib.hid o1
  have B1 := Lib.hid b1
  clear o1 b1
  go_wp2_with fail
  refine (T2.out _).mono ?_
  rintro e w2 ⟨k2, rfl, h3, h4, o2, b2⟩
  have O12 := Lib.hid (O1.out.below b2)
  have B2 := Lib.hid (B1.out.trans (b2.mono B1.out.size))
  have HB : Hid (Bys w2 (some ⟨k2, 0, none⟩) (tw (n % 65536))) := Lib.hid (by obtain ⟨A', c', e, hb, -⟩ := o2.ownB.bysN; injection e with e _ _; rw [e]; exact hb)
  have HZ := Lib.hid B2.out.size
  clear o2 b2 T1 T2 O1
  go_wp2_with (first
    | (at_builtin; refine wpList_appRF rfl (.tmp 5) (.tmp 8) rfl w.heap.size _ (tw (n / 65536)) rfl O12.out (by intro h; cases h) _ 2 2 rfl (tw (n % 65536)) rfl HB.out (fun h => by cases h) (by simp [tw]) HZ.out ?_)
    | fail)
  intro v3 w3 o3 g3 f3 n3
  rw [FE.out] at o3
  obtain ⟨gv, c, hv, hb, hl, -⟩ := OwnR.slice_form o3 n3
  have hlen : (tw (n / 65536) ++ tw n).length = 4 := rfl
  rw [hlen] at hv
  subst hv
  have O3 := Lib.hid o3
  have B3 := Lib.hid (B2.out.grown g3 HZ.out (fun k hk => by injection hk with hk; subst hk; exact h1))
  clear o3 g3 f3 n3 hlen
  go_wp2_with fail
  go_ret
  exact ⟨_, _, rfl, hb, hl, O3.out, B3.out⟩
end Go.Proofs.YtknpkifhkefikaaDoor
