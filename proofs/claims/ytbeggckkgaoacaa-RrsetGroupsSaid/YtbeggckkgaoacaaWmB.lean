/-
  Two records the same: wire.sameRecord, and the statements' own.
-/
import Derived.Test.YtbeggckkgaoacaaWmA
namespace Go.Proofs.Ytbeggckkgaoacaa
open Go.RowKit
set_option linter.unusedVariables false
set_option maxRecDepth 100000

theorem sameR_1 {a b : Rr} (h : a.n ≠ b.n) : sameR a b = false := by simp [sameR, h]
theorem sameR_2 {a b : Rr} (h : a.t ≠ b.t) : sameR a b = false := by simp [sameR, h]
theorem sameR_3 {a b : Rr} (h : a.c ≠ b.c) : sameR a b = false := by simp [sameR, h]
theorem sameR_4 {a b : Rr} (h : a.ttl ≠ b.ttl) : sameR a b = false := by simp [sameR, h]
theorem sameR_5 {a b : Rr} (h1 : a.n = b.n) (h2 : a.t = b.t) (h3 : a.c = b.c) (h4 : a.ttl = b.ttl) : sameR a b = (a.d == b.d) := by simp [sameR, h1, h2, h3, h4]


set_option maxHeartbeats 2000000 in
set_option maxRecDepth 100000 in
theorem sameRR_any (a b : Rr) (A B : Option Addr) (c d : Nat) (w : World) (hA : Bys w A a.d) (hB : Bys w B b.d) :
    Calls Try.prog 43 #[.agg (rrC a A c), .agg (rrC b B d)] w fun e w' => e = .returned (.bool (sameR a b)) ∧ Below w.heap.size w w' := by
  have E := Lib.hid (fun W (h1 : Bys W A a.d) (h2 : Bys W B b.d) => EqualB_any A B a.d b.d a.d.length b.d.length c d W h1 h2 rfl rfl)
  have H1 := Lib.hid (@sameR_1 a b)
  have H2 := Lib.hid (@sameR_2 a b)
  have H3 := Lib.hid (@sameR_3 a b)
  have H4 := Lib.hid (@sameR_4 a b)
  have H5 := Lib.hid (@sameR_5 a b)
  have e0 := Lib.hid (bs_beq a.n b.n)
  generalize sameR a b = R at *
  obtain ⟨an, at', ac, attl, ad⟩ := a
  obtain ⟨bn, bt, bc, bttl, bd⟩ := b
  simp only [rrC, rrL] at *
  have ra := row_old (.cells #[.string (bs bn), .int .i64 bt, .int .i64 bc, .int .i64 bttl, .slice B bd.length d] 39 (0, 0)) (row_new (w := w) (k := w.heap.size) (.cells #[.string (bs an), .int .i64 at', .int .i64 ac, .int .i64 attl, .slice A ad.length c] 39 (0, 0)) rfl)
  have rb := row_new (w := w.alloc (.cells #[.string (bs an), .int .i64 at', .int .i64 ac, .int .i64 attl, .slice A ad.length c] 39 (0, 0))) (k := w.heap.size + 1) (.cells #[.string (bs bn), .int .i64 bt, .int .i64 bc, .int .i64 bttl, .slice B bd.length d] 39 (0, 0)) (by simp)
  have bw : Below w.heap.size w ((w.alloc (.cells #[.string (bs an), .int .i64 at', .int .i64 ac, .int .i64 attl, .slice A ad.length c] 39 (0, 0))).alloc (.cells #[.string (bs bn), .int .i64 bt, .int .i64 bc, .int .i64 bttl, .slice B bd.length d] 39 (0, 0))) := Below.alloc (Below.alloc (Below.refl _ _) (Nat.le_refl _) _) (by simp) _
  have a0 := (cell_of_row _ _ 0 _ _ _ ra).trans (show _ = some (.string (bs an)) from rfl)
  have a1 := (cell_of_row _ _ 1 _ _ _ ra).trans (show _ = some (.int .i64 at') from rfl)
  have a2 := (cell_of_row _ _ 2 _ _ _ ra).trans (show _ = some (.int .i64 ac) from rfl)
  have a3 := (cell_of_row _ _ 3 _ _ _ ra).trans (show _ = some (.int .i64 attl) from rfl)
  have a4 := (cell_of_row _ _ 4 _ _ _ ra).trans (show _ = some (.slice A ad.length c) from rfl)
  have b0 := (cell_of_row _ _ 0 _ _ _ rb).trans (show _ = some (.string (bs bn)) from rfl)
  have b1 := (cell_of_row _ _ 1 _ _ _ rb).trans (show _ = some (.int .i64 bt) from rfl)
  have b2 := (cell_of_row _ _ 2 _ _ _ rb).trans (show _ = some (.int .i64 bc) from rfl)
  have b3 := (cell_of_row _ _ 3 _ _ _ rb).trans (show _ = some (.int .i64 bttl) from rfl)
  have b4 := (cell_of_row _ _ 4 _ _ _ rb).trans (show _ = some (.slice B bd.length d) from rfl)
  clear ra rb
  have x1 := bs_toList an
  have x2 := bs_toList bn
  by_cases h1 : an = bn
  case neg =>
    have HF := H1.out h1
    have t1 : (an == bn) = false := by simp [h1]
    clear H1 H2 H3 H4 H5 E h1 e0 hA hB
    have HFH := Lib.hid HF
    clear HF
    go_enter Try.func43, Try.ntmps43
    go_wp2_with fail
    go_ret
    exact ⟨by rw [HFH.out]; rfl, bw⟩
  have t1 : (an == bn) = true := by simp [h1]
  have G1 := Lib.hid h1
  clear h1
  by_cases h2 : at' = bt
  case neg =>
    have HFH := Lib.hid (H2.out h2)
    have t2 : (at' == bt) = false := by simp [h2]
    clear H1 H2 H3 H4 H5 E h2 e0 hA hB G1
    go_enter Try.func43, Try.ntmps43
    go_wp2_with fail
    go_ret
    exact ⟨by rw [HFH.out]; rfl, bw⟩
  have t2 : (at' == bt) = true := by simp [h2]
  have G2 := Lib.hid h2
  clear h2
  by_cases h3 : ac = bc
  case neg =>
    have HFH := Lib.hid (H3.out h3)
    have t3 : (ac == bc) = false := by simp [h3]
    clear H1 H2 H3 H4 H5 E h3 e0 hA hB G1 G2
    go_enter Try.func43, Try.ntmps43
    go_wp2_with fail
    go_ret
    exact ⟨by rw [HFH.out]; rfl, bw⟩
  have t3 : (ac == bc) = true := by simp [h3]
  have G3 := Lib.hid h3
  clear h3
  by_cases h4 : attl = bttl
  case neg =>
    have HFH := Lib.hid (H4.out h4)
    have t4 : (attl == bttl) = false := by simp [h4]
    clear H1 H2 H3 H4 H5 E h4 e0 hA hB G1 G2 G3
    go_enter Try.func43, Try.ntmps43
    go_wp2_with fail
    go_ret
    exact ⟨by rw [HFH.out]; rfl, bw⟩
  have t4 : (attl == bttl) = true := by simp [h4]
  have G4 := Lib.hid h4
  clear h4
  have HFH := Lib.hid (H5.out G1.out G2.out G3.out G4.out)
  have hA' := hA.on bw
  have hB' := hB.on bw
  clear H1 H2 H3 H4 H5 G1 G2 G3 G4 e0 hA hB
  go_enter Try.func43, Try.ntmps43
  go_wp2_with fail
  refine (E.out _ hA' hB').mono ?_
  rintro e w1 ⟨rfl, rfl⟩
  rw [← HFH.out]
  go_wp2_with fail
  go_ret
  exact ⟨rfl, bw⟩
end Go.Proofs.Ytbeggckkgaoacaa
