/-
  Both nets side by side: what a call on one leaves of the other.
-/
import Derived.Test.YtabclpffjpcejaaNvE
import Derived.Test.YtabclpffjpcejaaNwG
namespace Go.Proofs.Ytabclpffjpcejaa
open Go.RowKit Go.Maps
set_option linter.unusedVariables false
set_option maxRecDepth 100000

/-- The landed net holds A1, the document's A2; l1, l2: their last numbers. -/
def NH (w : World) (k l1 l2 : Nat) (A1 A2 : List An) (wr : World) : Prop :=
  ∃ (N : Nat) (L : List Cn) (v : Value) (R : List Cr), N ≤ k ∧ l1 ≤ k ∧ l2 ≤ k ∧ L.length ≤ k ∧ R.length ≤ k ∧ NetS (w.heap.size + 1) w.heap.size N l1 L wr ∧ RiseN L ∧ aN L = A1 ∧ RefS w.heap.size (w.heap.size + 2) l2 v R wr ∧ aR R = A2 ∧
    (∀ c ∈ R, OffV (FootN (w.heap.size + 1) w.heap.size L) c.v) ∧ (∀ i, FootN (w.heap.size + 1) w.heap.size L i → w.heap.size ≤ i) ∧ Below w.heap.size w wr
def DnRow (b : Nat) (op n : Int) (a : Option Addr) (m c : Nat) (W : World) : Prop := W.heap[b]? = some (.cells #[.int .i64 op, .int .i64 n, .slice a m c] 31 (0, 0))
theorem DnRow.cells {b : Nat} {op n : Int} {a : Option Addr} {m c : Nat} {W : World} (h : DnRow b op n a m c W) : W.cell? ⟨b, 0, none⟩ = some (.int .i64 op) ∧ W.cell? ⟨b, 1, none⟩ = some (.int .i64 n) ∧ W.cell? ⟨b, 2, none⟩ = some (.slice a m c) := ⟨(cell_of_row _ _ 0 _ _ _ h).trans rfl, (cell_of_row _ _ 1 _ _ _ h).trans rfl, (cell_of_row _ _ 2 _ _ _ h).trans rfl⟩
theorem DnRow.below {b : Nat} {op n : Int} {a : Option Addr} {m c : Nat} {W W' : World} (h : DnRow b op n a m c W) (hB : Below W.heap.size W W') : DnRow b op n a m c W' := (hB.block _ (Array.getElem?_eq_some_iff.1 h).1).trans h
/-- What lies in blocks of one type is no block of another. -/
theorem rows_ne {w : World} {j : Nat} {cs cs' : Array Value} {t t' : TypeId} (h : w.heap[j]? = some (.cells cs t (0, 0))) (h' : w.heap[j]? = some (.cells cs' t' (0, 0))) (hn : t ≠ t') : False := by
  rw [h] at h'
  injection h' with h'
  injection h' with h1 h2
  exact hn h2
section
variable {w wr : World} {k l1 l2 : Nat} {A1 A2 : List An}
theorem NetS.kind {p m N last : Nat} {L : List Cn} (h : NetS p m N last L wr) {j : Nat} (hj : FootN p m L j) {cs : Array Value} {t : TypeId} (hc : wr.heap[j]? = some (.cells cs t (0, 0))) : t = 51 ∨ t = 84 ∨ t = 5 := by
  rcases hj with e | e | ⟨c, hcL, e | e⟩
  · subst e
    have h2 := h.head
    rw [hc] at h2
    injection h2 with h2
    injection h2 with h1 h3
    exact .inl h3
  · subst e
    obtain ⟨M, ⟨es, clock, hb, _⟩, _⟩ := h.map
    rw [hb] at hc
    cases hc
  · subst e
    have h2 := (h.conn c hcL).1
    rw [hc] at h2
    injection h2 with h2
    injection h2 with h1 h3
    exact .inr (.inl h3)
  · obtain ⟨cur, h2⟩ := nrow_lt (h.conn c hcL).2 e
    rw [hc] at h2
    injection h2 with h2
    injection h2 with h1 h3
    exact .inr (.inr h3)
theorem RefS.kind {B x last : Nat} {v : Value} {R : List Cr} (h : RefS B x last v R wr) {j : Nat} (hj : FootV x v j) : ∃ cs, wr.heap[j]? = some (.cells cs 28 (0, 0)) ∨ wr.heap[j]? = some (.cells cs 86 (0, 0)) := by
  rcases hj with e | e
  · subst e; exact ⟨_, .inl h.head⟩
  · obtain ⟨_, cur, h2⟩ := vrow_lt h.row e
    exact ⟨cur, .inr h2⟩
theorem apartN {p m N last x l2 B : Nat} {v : Value} {L : List Cn} {R : List Cr} (h : NetS p m N last L wr) (hR : RefS B x l2 v R wr) {j : Nat} (hj : FootN p m L j) (hv : FootV x v j) : False := by
  obtain ⟨cs, h1 | h1⟩ := hR.kind hv
  · rcases h.kind hj h1 with e | e | e <;> cases e
  · rcases h.kind hj h1 with e | e | e <;> cases e
theorem dnN {p m N last b : Nat} {op n : Int} {a : Option Addr} {mm c : Nat} {L : List Cn} (h : NetS p m N last L wr) (hd : DnRow b op n a mm c wr) : ¬ FootN p m L b := fun hj => by
  rcases h.kind hj hd with e | e | e <;> cases e
theorem dnR {B x last b : Nat} {op n : Int} {a : Option Addr} {mm c : Nat} {v : Value} {R : List Cr} (h : RefS B x last v R wr) (hd : DnRow b op n a mm c wr) : ¬ FootV x v b := fun hj => by
  obtain ⟨cs, h1 | h1⟩ := h.kind hj
  · exact rows_ne hd h1 (by intro e; cases e)
  · exact rows_ne hd h1 (by intro e; cases e)
theorem NH.mono (h : NH w k l1 l2 A1 A2 wr) {k' : Nat} (hk : k ≤ k') : NH w k' l1 l2 A1 A2 wr := by
  obtain ⟨N, L, v, R, h1, h2, h3, h4, h5, r⟩ := h
  exact ⟨N, L, v, R, by omega, by omega, by omega, by omega, by omega, r⟩
theorem NH.under (h : NH w k l1 l2 A1 A2 wr) : Below w.heap.size w wr := by obtain ⟨N, L, v, R, h1, h2, h3, h4, h5, hS, hr, ha, hR, hb, ho, hF, hW⟩ := h; exact hW
theorem NH.below {w' : World} (h : NH w k l1 l2 A1 A2 wr) (hB : Below wr.heap.size wr w') : NH w k l1 l2 A1 A2 w' := by
  obtain ⟨N, L, v, R, h1, h2, h3, h4, h5, hS, hr, ha, hR, hb, ho, hF, hW⟩ := h
  exact ⟨N, L, v, R, h1, h2, h3, h4, h5, hS.below hB, hr, ha, hR.below hB, hb, ho, hF, Below.trans hW (hB.mono hW.size)⟩
/-- A call on the landed net. -/
theorem NH.landed {w' : World} {N l1' k' : Nat} {L L' : List Cn} {v : Value} {R : List Cr} (hS : NetS (w.heap.size + 1) w.heap.size N l1 L wr) (hR : RefS w.heap.size (w.heap.size + 2) l2 v R wr) (ho : ∀ c ∈ R, OffV (FootN (w.heap.size + 1) w.heap.size L) c.v) (hF : ∀ i, FootN (w.heap.size + 1) w.heap.size L i → w.heap.size ≤ i) (hW : Below w.heap.size w wr)
    {N' : Nat} (hS' : NetS (w.heap.size + 1) w.heap.size N' l1' L' w') (hM : Mod (FootN (w.heap.size + 1) w.heap.size L) wr w') (hF' : ∀ i, FootN (w.heap.size + 1) w.heap.size L' i → FootN (w.heap.size + 1) w.heap.size L i ∨ wr.heap.size ≤ i)
    (h1 : N' ≤ k') (h2 : l1' ≤ k') (h3 : l2 ≤ k') (h4 : L'.length ≤ k') (h5 : R.length ≤ k') (hr : RiseN L') : NH w k' l1' l2 (aN L') (aR R) w' := by
  refine ⟨N', L', v, R, h1, h2, h3, h4, h5, hS', hr, rfl, hR.mod hM (fun i hi hf => apartN hS hR hf hi) ho, rfl, fun c hc i hi hf => ?_, fun i hi => ?_, Mod.out hW hM hW.size hF⟩
  · rcases hF' i hf with h | h
    · exact ho c hc i hi h
    · obtain ⟨_, cur, h6⟩ := vrow_lt (hR.bv c hc) hi
      have := (Array.getElem?_eq_some_iff.1 h6).1
      omega
  · rcases hF' i hi with h | h
    · exact hF i h
    · have := hW.size; omega
/-- A call on the document's. -/
theorem NH.doc {w' : World} {N l2' k' : Nat} {L : List Cn} {v v' : Value} {R R' : List Cr} (hS : NetS (w.heap.size + 1) w.heap.size N l1 L wr) (hrise : RiseN L) (hR : RefS w.heap.size (w.heap.size + 2) l2 v R wr) (ho : ∀ c ∈ R, OffV (FootN (w.heap.size + 1) w.heap.size L) c.v) (hF : ∀ i, FootN (w.heap.size + 1) w.heap.size L i → w.heap.size ≤ i) (hW : Below w.heap.size w wr)
    (hR' : RefS w.heap.size (w.heap.size + 2) l2' v' R' w') (hM : Mod (FootV (w.heap.size + 2) v) wr w') (hv : ∀ c ∈ R', c ∈ R ∨ ∀ i, c.v.ownBlock = some i → wr.heap.size ≤ i)
    (h1 : N ≤ k') (h2 : l1 ≤ k') (h3 : l2' ≤ k') (h4 : L.length ≤ k') (h5 : R'.length ≤ k') : NH w k' l1 l2' (aN L) (aR R') w' := by
  refine ⟨N, L, v', R', h1, h2, h3, h4, h5, hS.mod hM (fun i hi hf => apartN hS hR hi hf), hrise, rfl, hR', rfl, fun c hc i hi hf => ?_, hF, Mod.out hW hM hW.size (fun i hi => ?_)⟩
  · rcases hv c hc with h | h
    · exact ho c h i hi hf
    · have := h i hi; have := hS.lt hf; omega
  · rcases hi with e | e
    · omega
    · exact (vrow_lt hR.row e).1
end
end Go.Proofs.Ytabclpffjpcejaa
