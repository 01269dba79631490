/-
  Both tables side by side: what a call on one leaves of the other.
-/
import Derived.Test.YtabclpffjpcejaaRtO
import Derived.Test.YtabclpffjpcejaaRtK
namespace Go.Proofs.Ytabclpffjpcejaa
open Go.RowKit Go.Maps
set_option linter.unusedVariables false
set_option maxRecDepth 100000

theorem BestR_no {x : Nat} (w : World) (A : Option Addr) (c : Nat) (d : Int) :
    Calls Try.prog 35 #[.pointer (some ⟨x, 0, none⟩), .slice A 0 c, .int .i64 d] w fun e w' => e = .returned (.tuple #[.int .i64 0, .bool false]) ∧ w' = w := by
  go_enter Try.func35, Try.ntmps35
  go_wp2_with fail
  go_ret2
  exact ⟨rfl, rfl⟩
/-- The landed table says T1, the document's T2. -/
def Bh (w : World) (k : Nat) (T1 T2 : Int → Nat × Nat) (wr : World) : Prop := ∃ (N : Nat) (v : Value) (K : List Kn), N ≤ k ∧ K.length ≤ k ∧ Tab (w.heap.size + 1) w.heap.size N T1 wr ∧ TabR w.heap.size (w.heap.size + 2) v K wr ∧ lookK K = T2 ∧ Below w.heap.size w wr
def DoRow (b : Nat) (a t : Int) (W : World) : Prop := W.heap[b]? = some (.cells #[.int .i64 a, .int .i64 t] 63 (0, 0))
theorem DoRow.cells {b : Nat} {a t : Int} {W : World} (h : DoRow b a t W) : W.cell? ⟨b, 0, none⟩ = some (.int .i64 a) ∧ W.cell? ⟨b, 1, none⟩ = some (.int .i64 t) := ⟨(cell_of_row _ _ 0 _ _ _ h).trans rfl, (cell_of_row _ _ 1 _ _ _ h).trans rfl⟩
theorem DoRow.below {b : Nat} {a t : Int} {W W' : World} (h : DoRow b a t W) (hB : Below W.heap.size W W') : DoRow b a t W' := (hB.block _ (Array.getElem?_eq_some_iff.1 h).1).trans h
section
variable {w wr : World} {k : Nat} {T1 T2 : Int → Nat × Nat}
theorem Bh.mono (h : Bh w k T1 T2 wr) {k' : Nat} (hk : k ≤ k') : Bh w k' T1 T2 wr := by
  obtain ⟨N, v, K, h1, h2, r⟩ := h
  exact ⟨N, v, K, by omega, by omega, r⟩
theorem Bh.below {w' : World} (h : Bh w k T1 T2 wr) (hB : Below wr.heap.size wr w') : Bh w k T1 T2 w' := by
  obtain ⟨N, v, K, h1, h2, hT, hR, hl, hW⟩ := h
  exact ⟨N, v, K, h1, h2, hT.below hB, hR.below hB, hl, Below.trans hW (hB.mono hW.size)⟩
theorem Bh.tab (h : Bh w k T1 T2 wr) : ∃ N, N ≤ k ∧ Tab (w.heap.size + 1) w.heap.size N T1 wr := by obtain ⟨N, v, K, h1, h2, hT, r⟩ := h; exact ⟨N, h1, hT⟩
theorem Bh.under (h : Bh w k T1 T2 wr) : Below w.heap.size w wr := by obtain ⟨N, v, K, h1, h2, hT, hR, hl, hW⟩ := h; exact hW
/-- The landed table's own blocks are none of the document's. -/
theorem apartR {N : Nat} {v : Value} {K : List Kn} (hT : Tab (w.heap.size + 1) w.heap.size N T1 wr) (hR : TabR w.heap.size (w.heap.size + 2) v K wr) : ¬ FootR (w.heap.size + 2) v (w.heap.size + 1) ∧ ¬ FootR (w.heap.size + 2) v w.heap.size := by
  constructor
  · rintro (e | e)
    · omega
    · obtain ⟨_, cur, hc⟩ := rrow_lt hR.row e
      have h1 := hT.head
      rw [hc] at h1
      injection h1 with h1
      injection h1 with h1 h3
      cases h3
  · rintro (e | e)
    · omega
    · obtain ⟨_, cur, hc⟩ := rrow_lt hR.row e
      obtain ⟨M, ⟨es, clock, hb, _⟩, _⟩ := hT.map
      rw [hc] at hb
      cases hb
theorem doR {N b : Nat} {a t : Int} {v : Value} {K : List Kn} (hT : Tab (w.heap.size + 1) w.heap.size N T1 wr) (hR : TabR w.heap.size (w.heap.size + 2) v K wr) (hd : DoRow b a t wr) : b ≠ w.heap.size ∧ ¬ FootR (w.heap.size + 2) v b := by
  constructor
  · intro e
    obtain ⟨M, ⟨es, clock, hb, _⟩, _⟩ := hT.map
    unfold DoRow at hd
    rw [e, hb] at hd
    cases hd
  · rintro (e | e)
    · have h1 := hR.head
      unfold DoRow at hd
      rw [← e, hd] at h1
      injection h1 with h1
      injection h1 with h1 h3
      cases h3
    · obtain ⟨_, cur, hc⟩ := rrow_lt hR.row e
      unfold DoRow at hd
      rw [hc] at hd
      injection hd with h1
      injection h1 with h1 h3
      cases h3
theorem FailedB {b : Nat} {t : Int} (a : Int) (h : Bh w k T1 T2 wr) (hd : DoRow b a t wr) (hk : k ≤ 1000) (ha : I64 a) :
    Calls Try.prog 28 #[.pointer (some ⟨w.heap.size + 1, 0, none⟩), .int .i64 a] wr fun e w' => e = .returned (.int .i64 0) ∧ Bh w (k + 1) (put1 T1 a (failT (T1 a))) T2 w' ∧ DoRow b a t w' := by
  obtain ⟨N, v, K, h1, h2, hT, hR, hl, hW⟩ := h
  refine (Failed_any wr hT (by omega) a ha).mono ?_
  rintro e w' ⟨rfl, hT', hM⟩
  obtain ⟨d1, d2⟩ := doR hT hR hd
  have ha2 := apartR hT hR
  exact ⟨rfl, ⟨N + 1, v, K, by omega, by omega, hT', hR.mod hM (fun i hi e => ha2.2 (e ▸ hi)), hl, Mod.out hW hM hW.size (fun i e => by omega)⟩, (hM.block _ (Array.getElem?_eq_some_iff.1 hd).1 d1).trans hd⟩
theorem AnsweredB {b : Nat} {t : Int} (a : Int) (j : Nat) (hj : j ≤ 1000) (h : Bh w k T1 T2 wr) (hd : DoRow b a t wr) (hk : k ≤ 1000) (ha : I64 a) :
    Calls Try.prog 30 #[.pointer (some ⟨w.heap.size + 1, 0, none⟩), .int .i64 a, .int .i64 j] wr fun e w' => e = .returned (.int .i64 0) ∧ Bh w (k + 1) (put1 T1 a (ansT (T1 a) j)) T2 w' ∧ DoRow b a t w' := by
  obtain ⟨N, v, K, h1, h2, hT, hR, hl, hW⟩ := h
  refine (Answered_yes wr hT (by omega) a ha j hj).mono ?_
  rintro e w' ⟨rfl, hT', hM⟩
  obtain ⟨d1, d2⟩ := doR hT hR hd
  have ha2 := apartR hT hR
  exact ⟨rfl, ⟨N + 1, v, K, by omega, by omega, hT', hR.mod hM (fun i hi e => ha2.2 (e ▸ hi)), hl, Mod.out hW hM hW.size (fun i e => by omega)⟩, (hM.block _ (Array.getElem?_eq_some_iff.1 hd).1 d1).trans hd⟩
theorem AnsweredB_no {b : Nat} {t : Int} (a j : Int) (hj : j < 0 ∨ 1000 < j) (h : Bh w k T1 T2 wr) (hd : DoRow b a t wr) :
    Calls Try.prog 30 #[.pointer (some ⟨w.heap.size + 1, 0, none⟩), .int .i64 a, .int .i64 j] wr fun e w' => e = .returned (.int .i64 1) ∧ Bh w k T1 T2 w' ∧ DoRow b a t w' := by
  obtain ⟨N, hN, hT⟩ := h.tab
  refine (Answered_no wr hT a j hj).mono ?_
  rintro e w' ⟨rfl, rfl⟩
  exact ⟨rfl, h, hd⟩
theorem FailedRB {b : Nat} {t : Int} (a : Int) (h : Bh w k T1 T2 wr) (hd : DoRow b a t wr) (hk : k ≤ 1000) :
    Calls Try.prog 29 #[.pointer (some ⟨w.heap.size + 2, 0, none⟩), .int .i64 a] wr fun e w' => (∃ r, e = .returned r) ∧ Bh w (k + 1) T1 (put1 T2 a (failT (T2 a))) w' ∧ DoRow b a t w' := by
  obtain ⟨N, v, K, h1, h2, hT, hR, hl, hW⟩ := h
  subst hl
  refine (FailedR_any wr hR hW.size (by omega) a).mono ?_
  rintro e w' ⟨hr, v', K', ⟨hlk, hle⟩, hR', hM, hF⟩
  obtain ⟨d1, d2⟩ := doR hT hR hd
  have ha2 := apartR hT hR
  refine ⟨hr, ⟨N, v', K', by omega, by omega, hT.mod hM ha2.1 ha2.2, hR', funext hlk, Mod.out hW hM hW.size (fun i e => ?_)⟩, (hM.block _ (Array.getElem?_eq_some_iff.1 hd).1 d2).trans hd⟩
  rcases e with e | e
  · omega
  · exact (rrow_lt hR.row e).1
theorem AnsweredRB {b : Nat} {t : Int} (a : Int) (j : Nat) (hj : j ≤ 1000) (h : Bh w k T1 T2 wr) (hd : DoRow b a t wr) (hk : k ≤ 1000) :
    Calls Try.prog 31 #[.pointer (some ⟨w.heap.size + 2, 0, none⟩), .int .i64 a, .int .i64 j] wr fun e w' => e = .returned (.int .i64 0) ∧ Bh w (k + 1) T1 (put1 T2 a (ansT (T2 a) j)) w' ∧ DoRow b a t w' := by
  obtain ⟨N, v, K, h1, h2, hT, hR, hl, hW⟩ := h
  subst hl
  refine (AnsweredR_yes wr hR hW.size (by omega) a j hj).mono ?_
  rintro e w' ⟨rfl, v', K', ⟨hlk, hle⟩, hR', hM, hF⟩
  obtain ⟨d1, d2⟩ := doR hT hR hd
  have ha2 := apartR hT hR
  refine ⟨rfl, ⟨N, v', K', by omega, by omega, hT.mod hM ha2.1 ha2.2, hR', funext hlk, Mod.out hW hM hW.size (fun i e => ?_)⟩, (hM.block _ (Array.getElem?_eq_some_iff.1 hd).1 d2).trans hd⟩
  rcases e with e | e
  · omega
  · exact (rrow_lt hR.row e).1
theorem OfB (a : Int) (h : Bh w k T1 T2 wr) (ha : I64 a) :
    Calls Try.prog 32 #[.pointer (some ⟨w.heap.size + 1, 0, none⟩), .int .i64 a] wr fun e w' => e = .returned (cV (T1 a)) ∧ w' = wr := by
  obtain ⟨N, hN, hT⟩ := h.tab
  refine (Of_any wr hT a ha).mono ?_
  rintro e w' ⟨rfl, rfl⟩
  exact ⟨rfl, rfl⟩
theorem OfRB (a : Int) (h : Bh w k T1 T2 wr) (hk : k ≤ 1000) :
    Calls Try.prog 33 #[.pointer (some ⟨w.heap.size + 2, 0, none⟩), .int .i64 a] wr fun e w' => e = .returned (.tuple #[.int .i64 (T2 a).1, .int .i64 (T2 a).2]) ∧ Below wr.heap.size wr w' := by
  obtain ⟨N, v, K, h1, h2, hT, hR, hl, hW⟩ := h
  subst hl
  exact OfR_any wr hR (by omega) a
theorem BestRB (h : Bh w k T1 T2 wr) (hk : k ≤ 1000) (A : Option Addr) (xs : List Int) (n c : Nat) (d : Int) (hn : n = xs.length) (hx : Nts wr A xs) (h0 : 0 < n) (hm : n ≤ 17592186044000) :
    Calls Try.prog 35 #[.pointer (some ⟨w.heap.size + 2, 0, none⟩), .slice A n c, .int .i64 d] wr fun e w' => e = .returned (.tuple #[.int .i64 (pickT T2 xs d), .bool true]) ∧ Below wr.heap.size wr w' := by
  obtain ⟨N, v, K, h1, h2, hT, hR, hl, hW⟩ := h
  subst hl
  exact BestR_any wr hR (by omega) A xs n c d hn hx h0 hm
end
end Go.Proofs.Ytabclpffjpcejaa
