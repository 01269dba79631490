/-
  The landed reader of frames: made, missing, add, takeAll, New, Left, Encode.
-/
import Derived.Test.YtdifemaidngnjaaPfF
import Derived.Test.YtdifemaidngnjaaPfD
import Derived.Test.YtdifemaidngnjaaHdB
import Derived.Deep.QuietTactic
import Derived.BigQuiet
namespace Go.Proofs.Ytdifemaidngnjaa
open Go.RowKit
set_option linter.unusedVariables false
set_option maxRecDepth 100000

/-- The reader at block g. -/
def PL (w : World) (g : Nat) (v : Value) (x : Bs) : Prop := w.heap[g]? = some (.cells #[v, .bool true] 46 (0, 0)) ∧ OwnB w 0 v x ∧ v.ownBlock ≠ some g
def FL (g : Nat) (v : Value) : Nat → Prop := fun k => k = g ∨ v.ownBlock = some k
theorem PL.below {w w1 : World} {g : Nat} {v : Value} {x : Bs} (h : PL w g v x) (k : Below w.heap.size w w1) : PL w1 g v x := ⟨(k.block g (Array.getElem?_eq_some_iff.1 h.1).1).trans h.1, h.2.1.below k (Nat.le_refl _), h.2.2⟩
/-- How many bytes the frame that waits lacks. -/
def missP (x : Bs) : Nat := match x with
  | h :: l :: t => 2 + (h.toNat * 256 + l.toNat) - x.length
  | _ => 2 - x.length

set_option maxHeartbeats 400000 in
theorem made_any (g : Nat) (v : Value) (x : Bs) (w : World) (h : PL w g v x) : Calls Try.prog 26 #[.pointer (some ⟨g, 0, none⟩)] w fun e w' => e = .returned (.bool true) ∧ Below w.heap.size w w' := by
  have c1 := (cell_of_row _ g 1 _ _ _ h.1).trans rfl
  clear h
  go_enter Try.func26, Try.ntmps26
  go_wp2_with fail
  go_ret
  exact ⟨rfl, Below.refl _ _⟩
set_option maxHeartbeats 400000 in
theorem new_any (w : World) : Calls Try.prog 9 #[] w fun e w' => ∃ g, e = .returned (.pointer (some ⟨g, 0, none⟩)) ∧ PL w' g (.slice none 0 0) [] ∧ Below w.heap.size w w' ∧ w.heap.size ≤ g := by
  have b : Below w.heap.size w (w.alloc (.cells #[.slice none 0 0, .bool true] 46)) := Below.alloc (Below.refl _ _) (Nat.le_refl _) _
  have r : (w.alloc (.cells #[.slice none 0 0, .bool true] 46)).heap[w.heap.size]? = some (.cells #[.slice none 0 0, .bool true] 46 (0, 0)) := row_new _ rfl
  go_enter Try.func9, Try.ntmps9
  go_wp2_with fail
  go_ret
  exact ⟨_, rfl, ⟨r, .inl ⟨rfl, rfl⟩, by simp [Value.ownBlock]⟩, b, Nat.le_refl _⟩
set_option maxHeartbeats 400000 in
theorem left_any (g : Nat) (v : Value) (x : Bs) (w : World) (h : PL w g v x) : Calls Try.prog 14 #[.pointer (some ⟨g, 0, none⟩)] w fun e w' => e = .returned (.int .i64 x.length) ∧ Below w.heap.size w w' := by
  have M := Lib.hid (made_any g v x w h)
  have H := Lib.hid h
  obtain ⟨A, c, rfl, -⟩ := h.2.1.bysN
  clear h
  go_enter Try.func14, Try.ntmps14
  go_wp2_with fail
  refine M.out.mono ?_
  rintro e w1 ⟨rfl, k1⟩
  have c0 := (cell_of_row _ g 0 _ _ _ (H.out.below k1).1).trans rfl
  have K1 := Lib.hid k1
  clear k1 M
  go_wp2_with fail
  go_ret
  exact ⟨rfl, K1.out⟩
set_option maxHeartbeats 1000000 in
theorem missing_any (g : Nat) (v : Value) (x : Bs) (w : World) (h : PL w g v x) (hx : x.length ≤ 65537) (hm : 2 ≤ x.length → x.length ≤ 2 + ((x.getD 0 0).toNat * 256 + (x.getD 1 0).toNat)) : Calls Try.prog 27 #[.pointer (some ⟨g, 0, none⟩)] w fun e w' => e = .returned (.int .i64 (missP x)) ∧ Below w.heap.size w w' := by
  have c0' := (cell_of_row _ g 0 _ _ _ h.1).trans rfl
  obtain ⟨A, c, rfl, s⟩ := h.2.1.bysN
  obtain ⟨n, hn⟩ : ∃ n, n = x.length := ⟨_, rfl⟩
  have c0 : w.cell? ⟨g, 0, none⟩ = some (.slice A n c) := by rw [hn]; exact c0'
  by_cases h2 : n < 2
  · have h2' : (n : Int) < 2 := by omega
    have hp : (missP x : Int) = 2 - (n : Int) := by
      match x, hn with
      | [], hn => simp [missP]; simp at hn; omega
      | [_], hn => simp [missP]; simp at hn; omega
      | _ :: _ :: _, hn => simp at hn; omega
    have w1 : IntKind.i64.wrap (2 - (n : Int)) = 2 - (n : Int) := IntWalk.i64_in _ (by omega)
    rw [hp]
    clear hp h2 hn h s c0' hm hx
    go_enter Try.func27, Try.ntmps27
    go_wp2_with fail
    go_ret
    exact ⟨rfl, Below.refl _ _⟩
  · have h2' : ¬ (n : Int) < 2 := by omega
    obtain ⟨a, l, t, rfl⟩ := fr_none_iff (x := x) (by omega)
    have hm2 := hm (by omega)
    simp only [List.getD_cons_zero, List.getD_cons_succ] at hm2
    obtain ⟨gb, rfl, y0, y1⟩ : ∃ gb, A = some ⟨gb, 0, none⟩ ∧ w.cell? ⟨gb, 0, none⟩ = some (.int .u8 a.toNat) ∧ w.cell? ⟨gb, 1, none⟩ = some (.int .u8 l.toNat) := by
      rcases h.2.1 with ⟨_, hn⟩ | ⟨bk, cap, hv, hbk, hblt, hcap, hcm, hcs, hsp⟩
      · cases hn
      injection hv with e1 e2 e3
      exact ⟨bk, e1, hcs 0 (by simp), hcs 1 (by simp)⟩
    have ha := a.toNat_lt
    have hl := l.toNat_lt
    have hp : (missP (a :: l :: t) : Int) = 2 + ((a.toNat : Int) * 256 + l.toNat) - n := by simp only [missP]; omega
    rw [hp]
    generalize a.toNat = an at *
    generalize l.toNat = ln at *
    have wrA : IntKind.i64.wrap (an : Int) = an := IntWalk.i64_in _ (by omega)
    have wrB : IntKind.i64.wrap (ln : Int) = ln := IntWalk.i64_in _ (by omega)
    have wrC : IntKind.i64.wrap ((an : Int) * 256) = (an : Int) * 256 := IntWalk.i64_in _ (by omega)
    obtain ⟨N, hN⟩ : ∃ N, N = an * 256 + ln := ⟨_, rfl⟩
    have or1 : bits .or .i64 ((an : Int) * 256) (ln : Int) = (N : Int) := by rw [or256 _ _ (by omega) (by omega)]; omega
    have hN2 : (2 : Int) + ((an : Int) * 256 + (ln : Int)) - (n : Int) = 2 + (N : Int) - n := by omega
    have hN3 : N < 65536 := by omega
    have wrD : IntKind.i64.wrap (2 + (N : Int)) = 2 + (N : Int) := IntWalk.i64_in _ (by omega)
    have wrE : IntKind.i64.wrap (2 + (N : Int) - (n : Int)) = 2 + (N : Int) - (n : Int) := IntWalk.i64_in _ (by omega)
    have j0 : (0 : Int) < (n : Int) := by omega
    have j1 : (1 : Int) < (n : Int) := by omega
    rw [hN2]
    have cq : ∀ q, (w.drewN q).cell? ⟨g, 0, none⟩ = some (.slice (some ⟨gb, 0, none⟩) n c) := fun q => c0
    clear hp h2 hn h s c0' hm hx hN2 hN hm2 ha hl
    go_enter Try.func27, Try.ntmps27
    go_wp2_with fail
    go_quiet (fail)
    have k := below_drewN (Below.refl w.heap.size w) nq
    have c0q := cq nq
    clear cq c0
    go_wp2_with fail
    go_ret
    exact ⟨rfl, k⟩
end Go.Proofs.Ytdifemaidngnjaa
