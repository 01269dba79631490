/-
  What both Negatives share: what they answer, as plain data; the set in memory.
  What is said of the operations that build a set that says that there is nothing.
-/
import Derived.Test.YtbeggckkgaoacaaGrF
import Derived.Test.YtbeggckkgaoacaaRrA
import Derived.Test.YtbeggckkgaoacaaGrG
import Derived.Test.YtbeggckkgaoacaaRcE
import Derived.Test.YtbeggckkgaoacaaRf
import Derived.Deep.RegionHeld3
import Derived.Test.YtbeggckkgaoacaaGe
namespace Go.Proofs.Ytbeggckkgaoacaa
open Go.RowKit
set_option linter.unusedVariables false
set_option maxRecDepth 100000

def minN (r : Rr) : Int := match soa r.d with | none => 0 | some x => x.e
def negS (qn : Bs) (qt qc kind : Int) (r : Rr) (now : Int) : St := ⟨qn, if kind = 2 then 0 else qt, qc, 3, kind, clockN now + min (lastN r.ttl) (lastN (minN r)), r.n, [r.d]⟩
def negOk (qt kind : Int) (r : Rr) : Bool := (soa r.d).isSome && (decide (r.t = 6) && (rangeN 1 qt && (decide (kind = 1) || decide (kind = 2))))
def negB (qn : Bs) (qt qc kind : Int) (r : Rr) (now : Int) : Bool := negOk qt kind r && canS (negS qn qt qc kind r now)
/-- The set and no error, or the error and nothing. -/
def NegPost (w : World) (qn : Bs) (qt qc kind : Int) (r : Rr) (now : Int) (e : Ending) (w' : World) : Prop :=
  Below w.heap.size w w' ∧ ((negB qn qt qc kind r now = false ∧ e = .returned (.tuple #[.agg stZ, .int .i64 1])) ∨ (negB qn qt qc kind r now = true ∧ ∃ A c, e = .returned (.tuple #[.agg (stC (negS qn qt qc kind r now) A c), .int .i64 0]) ∧ Byss w' A [r.d]))
theorem soaC_min (r : Rr) : (soaC (soa r.d))[6]? = some (.int .i64 (minN r)) := by unfold minN; cases soa r.d <;> rfl


theorem negB_all {qn : Bs} {qt qc kind : Int} {r : Rr} {now : Int} (h : negB qn qt qc kind r now = true) : (kind = 1 ∨ kind = 2) ∧ can qn = true ∧ can r.n = true ∧ 1 ≤ qt ∧ qt ≤ 65535 ∧ 0 ≤ qc ∧ qc ≤ 65535 ∧ r.t = 6 ∧ (soa r.d).isSome = true := by
  unfold negB negOk rangeN at h
  simp only [Bool.and_eq_true, Bool.or_eq_true, decide_eq_true_eq] at h
  obtain ⟨⟨h1, h2, h3, h4⟩, h5⟩ := h
  unfold canS canKeyS shortN at h5
  simp only [Bool.and_eq_true, decide_eq_true_eq] at h5
  obtain ⟨⟨k1, k2, k3⟩, k4, k5, k6⟩ := h5
  have k7 : soaS (negS qn qt qc kind r now) = true := by
    have hkd : (negS qn qt qc kind r now).kd = kind := rfl
    rcases h4 with h4 | h4
    · rw [kindS_1 (by rw [hkd]; exact h4)] at k6
      simp only [Bool.and_eq_true] at k6
      exact k6.2
    · rw [kindS_2 (by rw [hkd]; exact h4)] at k6
      simp only [Bool.and_eq_true] at k6
      exact k6.2
  unfold soaS at k7
  simp only [Bool.and_eq_true] at k7
  exact ⟨h4, k1, k7.1, h3.1, h3.2, k3.1, k3.2, h2, h1⟩
theorem negB_live {qn : Bs} {qt qc kind : Int} {r : Rr} {now : Int} (h : (kind = 1 ∨ kind = 2) ∧ 1 ≤ qt ∧ qt ≤ 65535 ∧ r.t = 6 ∧ (soa r.d).isSome = true) : negB qn qt qc kind r now = canS (negS qn qt qc kind r now) := by
  obtain ⟨h1, h2, h3, h4, h5⟩ := h
  have : negOk qt kind r = true := by
    unfold negOk rangeN
    simp [h1, h2, h3, h4, h5]
  unfold negB
  rw [this]
  rfl
theorem stT_setRow {w : World} {A : Option Addr} {L : List Bs} {p : Nat} {C C' : Array Value} (h : ByssT w A L) (hp : w.heap[p]? = some (.cells C 29 (0, 0))) : ByssT (w.setRow p C') A L := h.kept (fun g cs t ht hh => setRow_other w p g C' (fun e => by
  subst e
  rw [hh] at hp
  injection hp with hp
  injection hp with _ hp _
  rcases ht with rfl | rfl <;> exact absurd hp (by decide)))
/-- The set that is made lies in memory of the call's own. -/
structure NZ (w W : World) (gb gs : Nat) (D : Array Value) (d : Bs) : Prop where
  bel : Below w.heap.size w W
  r8 : W.heap[w.heap.size + 2]? = some (.cells #[.string ⟨#[]⟩, .int .i64 0, .int .i64 0, .int .i64 0, .int .i64 0, .int .i64 0, .string ⟨#[]⟩, .slice none 0 0] 29 (0, 0))
  rb : W.heap[gb]? = some (.cells D 29 (0, 0))
  own : ByssT W (some ⟨gs, 0, none⟩) [d]
  le : w.heap.size + 3 ≤ gb
theorem nz_of {w W2 w5 X : World} {gb gs n : Nat} {d : Bs} {a : Option Addr} {c : Nat} (hn : n = d.length) (b2 : Below w.heap.size w W2) (hz : w.heap.size + 3 ≤ W2.heap.size) (r8 : W2.heap[w.heap.size + 2]? = some (.cells #[.string ⟨#[]⟩, .int .i64 0, .int .i64 0, .int .i64 0, .int .i64 0, .int .i64 0, .string ⟨#[]⟩, .slice none 0 0] 29 (0, 0))) (b5 : Below W2.heap.size W2 w5) (bX : Below w5.heap.size w5 X)
    (hb : X.heap[gb]? = some (.cells #[.string ⟨#[]⟩, .int .i64 0, .int .i64 0, .int .i64 0, .int .i64 0, .int .i64 0, .string ⟨#[]⟩, .slice none 0 0] 29 (0, 0))) (hgb : W2.heap.size ≤ gb) (hs : X.heap[gs]? = some (.cells #[.slice a n c] 37 (0, 0))) (hd : BysT w5 a d) (h1 : d.length ≤ c) (h2 : c ≤ 9223372036854775807) (h3 : a = none → c = 0) (D : Array Value) : NZ w (X.setRow gb D) gb gs D d := by
  subst hn
  have b5X : Below W2.heap.size W2 X := Below.trans b5 (bX.mono b5.size)
  have hT : ByssT X (some ⟨gs, 0, none⟩) [d] := fun _ => ⟨gs, 0, _, rfl, hs, fun j hj => by
    obtain rfl : j = 0 := by simp at hj; omega
    exact ⟨a, c, (cell_of_row _ _ _ _ _ _ hs).trans rfl, hd.kept (fun g cs hh => bX.block _ (Array.getElem?_eq_some_iff.1 hh).1), h1, h2, h3⟩⟩
  refine ⟨Below.setRow (Below.trans b2 (b5X.mono b2.size)) (by have := b2.size; omega) _, ?_, setRow_heap _ _ _ D _ _ hb, stT_setRow hT hb, by omega⟩
  rw [setRow_other X gb _ D (by omega)]
  exact (b5X.block _ (Array.getElem?_eq_some_iff.1 r8).1).trans r8
theorem NZ.on {w W W' : World} {gb gs : Nat} {D : Array Value} {d : Bs} (h : NZ w W gb gs D d) (hB : Below W.heap.size W W') : NZ w W' gb gs D d :=
  ⟨Below.trans h.bel (hB.mono h.bel.size), (hB.block _ (Array.getElem?_eq_some_iff.1 h.r8).1).trans h.r8, (hB.block _ (Array.getElem?_eq_some_iff.1 h.rb).1).trans h.rb, h.own.on hB, h.le⟩
/-- One number of it is another one. -/
theorem NZ.set {w W : World} {gb gs : Nat} {D : Array Value} {d : Bs} (h : NZ w W gb gs D d) (i : Nat) (v : Value) : NZ w (W.setCell ⟨gb, i, none⟩ v) gb gs (D.setIfInBounds i v) d := by
  have ho : ∀ k, k ≠ gb → (W.setCell ⟨gb, i, none⟩ v).heap[k]? = W.heap[k]? := fun k hk => Below.heap_setCell _ _ _ _ hk
  refine ⟨Below.setCell h.bel (by have := h.le; show w.heap.size ≤ gb; omega) _, ?_, row_set _ h.rb, h.own.kept (fun g cs t ht hh => ho g (fun e => ?_)), h.le⟩
  · rw [ho _ (by have := h.le; omega)]; exact h.r8
  · subst e
    have hp := h.rb
    rw [hh] at hp
    injection hp with hp
    injection hp with _ hp _
    rcases ht with rfl | rfl <;> exact absurd hp (by decide)
theorem NZ.cell {w W : World} {gb gs : Nat} {D : Array Value} {d : Bs} (h : NZ w W gb gs D d) {i : Nat} {v : Value} (hv : D[i]? = some v) : W.cell? ⟨gb, i, none⟩ = some v ∧ W.frozen? ⟨gb, i, none⟩ = false :=
  ⟨(cell_of_row _ _ _ _ _ _ h.rb).trans (by simpa using hv), frozen_of_row _ _ _ _ _ h.rb⟩
theorem negS_sized {qn : Bs} {qt qc kind : Int} {r : Rr} {now : Int} (hdl : r.d.length ≤ 140737488351232) (hnl : r.n.length ≤ 140737488351232) (hql : qn.length ≤ 140737488351232) : Sized (negS qn qt qc kind r now) :=
  ⟨by show qn.length ≤ _; omega, by show r.n.length ≤ _; omega, fun x hx => by
    obtain rfl : x = r.d := by simpa [negS] using hx
    omega, by show 1 ≤ _; omega⟩
end Go.Proofs.Ytbeggckkgaoacaa
namespace Go.Proofs.Ytbeggckkgaoacaa
open Go.RowKit
set_option linter.unusedVariables false
set_option maxRecDepth 100000

theorem slot_inj {k a c : Nat} (h : a < c) {n i j : Nat} (hi : i < n) (hj : j < n) (e : (fun i => if i = k then a else c + i) i = (fun i => if i = k then a else c + i) j) : i = j := by
  have e : (if i = k then a else c + i) = (if j = k then a else c + j) := e
  split at e <;> split at e <;> omega
theorem BysT.on {w w' : World} {A : Option Addr} {l : Bs} (h : BysT w A l) (hB : Below w.heap.size w w') : BysT w' A l := h.kept (fun g cs hh => hB.block _ (Array.getElem?_eq_some_iff.1 hh).1)
theorem list_one {w : World} {gs : Nat} {a : Option Addr} {c : Nat} {d : Bs} (hs : w.heap[gs]? = some (.cells #[.slice a d.length c] 37 (0, 0))) (hT : BysT w a d) (m1 : d.length ≤ c) (m2 : c ≤ 9223372036854775807) (m3 : a = none → c = 0) : ByssT w (some ⟨gs, 0, none⟩) [d] := fun _ => ⟨gs, 0, _, rfl, hs, fun j hj => by
  obtain rfl : j = 0 := by simp at hj; omega
  exact ⟨a, c, (cell_of_row _ _ _ _ _ _ hs).trans rfl, hT, m1, m2, m3⟩⟩
theorem nz_made {w W2 X : World} {gb gs : Nat} {d : Bs} (b2 : Below w.heap.size w W2) (hz : w.heap.size + 3 ≤ W2.heap.size) (r8 : W2.heap[w.heap.size + 2]? = some (.cells #[.string ⟨#[]⟩, .int .i64 0, .int .i64 0, .int .i64 0, .int .i64 0, .int .i64 0, .string ⟨#[]⟩, .slice none 0 0] 29 (0, 0))) (bX : Below W2.heap.size W2 X) (hgb : W2.heap.size ≤ gb)
    (hb : X.heap[gb]? = some (.cells #[.string ⟨#[]⟩, .int .i64 0, .int .i64 0, .int .i64 0, .int .i64 0, .int .i64 0, .string ⟨#[]⟩, .slice none 0 0] 29 (0, 0))) (hL : ByssT X (some ⟨gs, 0, none⟩) [d]) (D : Array Value) : NZ w (X.setRow gb D) gb gs D d := by
  refine ⟨Below.setRow (Below.trans b2 (bX.mono b2.size)) (by have := b2.size; omega) _, ?_, setRow_heap _ _ _ D _ _ hb, stT_setRow hL hb, by omega⟩
  rw [setRow_other X gb _ D (by omega)]
  exact (bX.block _ (Array.getElem?_eq_some_iff.1 r8).1).trans r8
def NRK (q rq go B0 dn dc : Nat) (qn rn d : Bs) (qt qc kd now ck tt l1 mn l2 ex : Int) (A : Option Addr) : Nat → Value → World → Prop
  | 0, v, _ => v = .pointer (some ⟨q, 0, none⟩)
  | 1, v, _ => v = .string (bs qn)
  | 2, v, _ => v = .pointer (some ⟨q, 1, none⟩)
  | 3, v, _ => v = .int .i64 qt
  | 4, v, _ => v = .pointer (some ⟨q, 2, none⟩)
  | 5, v, _ => v = .int .i64 qc
  | 6, v, _ => v = .int .i64 kd
  | 7, v, _ => v = .int .i64 now
  | 8, v, _ => v = .int .i64 ck
  | 9, v, _ => v = .pointer (some ⟨rq, 3, none⟩)
  | 10, v, _ => v = .int .i64 tt
  | 11, v, _ => v = .int .i64 l1
  | 12, v, _ => v = .pointer (some ⟨go, 6, none⟩)
  | 13, v, _ => v = .int .i64 mn
  | 14, v, _ => v = .int .i64 l2
  | 15, v, _ => v = .int .i64 (min l1 l2)
  | 16, v, _ => v = .int .i64 ex
  | 17, v, _ => v = .pointer (some ⟨rq, 0, none⟩)
  | 18, v, _ => v = .string (bs rn)
  | 19, v, _ => v = .pointer (some ⟨rq, 4, none⟩)
  | 20, v, _ => v = .slice A dn dc
  | 21, v, w => ∃ (a : Option Addr) (c0 : Nat), v = .slice a d.length c0 ∧ BysT w a d ∧ d.length ≤ c0 ∧ c0 ≤ 9223372036854775807 ∧ (a = none → c0 = 0)
  | 22, v, w => ∃ gs : Nat, v = .slice (some ⟨gs, 0, none⟩) 1 1 ∧ ByssT w (some ⟨gs, 0, none⟩) [d]
  | 23, v, w => ∃ gs : Nat, v = .agg #[.string (bs qn), .int .i64 qt, .int .i64 qc, .int .i64 3, .int .i64 kd, .int .i64 ex, .string (bs rn), .slice (some ⟨gs, 0, none⟩) 1 1] ∧ ByssT w (some ⟨gs, 0, none⟩) [d]
  | 24, v, w => ∃ gb : Nat, v = .pointer (some ⟨gb, 0, none⟩) ∧ B0 ≤ gb ∧ w.heap[gb]? = some (.cells #[.string ⟨#[]⟩, .int .i64 0, .int .i64 0, .int .i64 0, .int .i64 0, .int .i64 0, .string ⟨#[]⟩, .slice none 0 0] 29 (0, 0))
  | _, _, _ => True
theorem NRK_on {q rq go B0 dn dc : Nat} {qn rn d : Bs} {qt qc kd now ck tt l1 mn l2 ex : Int} {A : Option Addr} (i : Nat) (v : Value) (w w' : World) (h : NRK q rq go B0 dn dc qn rn d qt qc kd now ck tt l1 mn l2 ex A i v w) (hB : Below w.heap.size w w') : NRK q rq go B0 dn dc qn rn d qt qc kd now ck tt l1 mn l2 ex A i v w' := by
  match i, h with
  | 0, h => exact h
  | 1, h => exact h
  | 2, h => exact h
  | 3, h => exact h
  | 4, h => exact h
  | 5, h => exact h
  | 6, h => exact h
  | 7, h => exact h
  | 8, h => exact h
  | 9, h => exact h
  | 10, h => exact h
  | 11, h => exact h
  | 12, h => exact h
  | 13, h => exact h
  | 14, h => exact h
  | 15, h => exact h
  | 16, h => exact h
  | 17, h => exact h
  | 18, h => exact h
  | 19, h => exact h
  | 20, h => exact h
  | 21, h => obtain ⟨a, c0, e, h1, h2⟩ := h; exact ⟨a, c0, e, h1.on hB, h2⟩
  | 22, h => obtain ⟨gs, e, h1⟩ := h; exact ⟨gs, e, h1.on hB⟩
  | 23, h => obtain ⟨gs, e, h1⟩ := h; exact ⟨gs, e, h1.on hB⟩
  | 24, h => obtain ⟨gb, e, h1, h2⟩ := h; exact ⟨gb, e, h1, (hB.block _ (Array.getElem?_eq_some_iff.1 h2).1).trans h2⟩
  | _ + 25, _ => trivial
end Go.Proofs.Ytbeggckkgaoacaa
