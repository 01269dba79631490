/-
  name.Lower and name.Same.
-/
import Derived.Test.YtkihlcecjcjmlaaNmC
import Derived.Test.YtkihlcecjcjmlaaNmK
import Derived.Laws.IdiomStrings
import Derived.LoopTactic
namespace Go.Proofs.Ytkihlcecjcjmlaa
open Go.RowKit
set_option linter.unusedVariables false
set_option maxRecDepth 100000

/-- Bytes in a row of the call's own. -/
structure Byt (w : World) (g : Nat) (l : Bs) : Prop where
  cell : ∀ j (h : j < l.length), w.cell? ⟨g, j, none⟩ = some (.int .u8 (l[j]).toNat)
  free : ∀ j, j < l.length → w.frozen? ⟨g, j, none⟩ = false
  lt : g < w.heap.size

theorem Byt.set {w : World} {g : Nat} {l : Bs} (h : Byt w g l) {k : Nat} (v : UInt8) {n : Int} (hn : n = v.toNat) : Byt (w.setCell ⟨g, k, none⟩ (.int .u8 n)) g (l.set k v) := by
  subst hn
  refine ⟨fun j hj => ?_, fun j hj => ?_, by simpa using h.lt⟩
  · have hj' : j < l.length := by simpa using hj
    by_cases e : k = j
    · subst e
      have hc := h.cell k hj'
      rw [World.cell?_setCell_same _ _ _ hc]
      simp
    · rw [World.cell?_setCell_other _ _ _ _ (fun h => e (by injection h)), h.cell j hj']
      simp [e]
  · have hj' : j < l.length := by simpa using hj
    rw [World.frozen?_setCell]; exact h.free j hj'

theorem conv_bytes (l : Bs) (w : World) : ∃ cap w1, (convert 9 47 (.string (bs l))).run Try.prog w = .ok (.slice (some ⟨w.heap.size, 0, none⟩) l.length cap) w1 ∧ Byt w1 w.heap.size l ∧ Below w.heap.size w w1 := by
  have hr := run_bytes_of_string (P := Try.prog) w 9 47 5 (bs l) Try.underlying9 Try.underlying47 Try.underlying5
  rw [bs_size] at hr
  have hrow := row_new (w := w.drew) (k := w.heap.size) (.cells (bytesRow (bs l) (grownCap w l.length 0 5)) 5 ((bytesRow (bs l) (grownCap w l.length 0 5)).size, (bytesRow (bs l) (grownCap w l.length 0 5)).size + 1)) rfl
  refine ⟨_, _, hr, ⟨fun j hj => ?_, fun j hj => ?_, by simp⟩, ?_⟩
  · refine (cell_of_row _ _ _ _ _ _ hrow).trans ?_
    simp [bytesRow, Array.getElem?_append, hj]
  · unfold World.frozen?
    rw [hrow]
    simp [bytesRow]
    intros; omega
  · exact Below.alloc (Below.drew (Below.refl _ _)) (Nat.le_refl _) _

def mix (l : Bs) (k : Nat) : Bs := low (l.take k) ++ l.drop k
theorem mix_len (l : Bs) (k : Nat) : (mix l k).length = l.length := by
  unfold mix; rw [List.length_append, low_len, List.length_take, List.length_drop]; omega
theorem mix_zero (l : Bs) : mix l 0 = l := rfl
theorem mix_all (l : Bs) : mix l l.length = low l := by simp [mix]
theorem mix_at (l : Bs) (k : Nat) (h : k < l.length) : (mix l k)[k]'(by rw [mix_len]; exact h) = l[k] := by
  unfold mix
  rw [List.getElem_append_right (by rw [low_len, List.length_take]; omega)]
  simp [low_len, Nat.min_eq_left (Nat.le_of_lt h)]
theorem mix_set (l : Bs) (k : Nat) (h : k < l.length) : (mix l k).set k (small l[k]) = mix l (k + 1) := by
  unfold mix
  rw [List.set_append_right _ _ (by rw [low_len, List.length_take]; omega), low_len, List.length_take, Nat.min_eq_left (Nat.le_of_lt h), Nat.sub_self]
  rw [List.drop_eq_getElem_cons h, List.set_cons_zero, List.take_succ_eq_append_getElem h, low_append, List.append_assoc]
  rfl
theorem mix_same (l : Bs) (k : Nat) (h : k < l.length) (hs : small l[k] = l[k]) : mix l k = mix l (k + 1) := by
  have e := mix_set l k h
  rw [hs, ← mix_at l k h, List.set_getElem_self] at e
  exact e

set_option maxHeartbeats 1000000 in
theorem Lower_yes (l : Bs) (w : World) (h : can l = true) : Calls Try.prog 18 #[.string (bs l)] w fun e w' => e = .returned (.string (bs (low l))) ∧ Below w.heap.size w w' := by
  have hl := (can_out h).1
  go_enter Try.func18, Try.ntmps18
  go_wp2_with fail
  refine (Can_any l w).mono ?_
  rintro e w1 ⟨rfl, hB⟩
  rw [h]
  obtain ⟨cap, w2, hcv, hY, hB2⟩ := conv_bytes l w1
  have hs := hB.size
  have hB3 : Below w.heap.size w w2 := Below.trans hB (hB2.mono hs)
  have hlo : w.heap.size ≤ w1.heap.size := hs
  generalize hg : w1.heap.size = g at hcv hY hlo
  clear hB hB2 hs hg
  go_wp2_with fail
  clear hcv
  rw [← mix_zero l] at hY
  go_loopw [13] (fun v wr => ∃ k : Nat, v = .int .i64 k ∧ k ≤ l.length ∧ Byt wr g (mix l k) ∧ Below w.heap.size w wr) (fun v _ => l.length - (intOf v).toNat)
  case atStart => exact ⟨0, rfl, by omega, hY, hB3⟩
  case round =>
    clear hY hB3
    obtain ⟨k, rfl, hk, hY, hB⟩ := hrel
    by_cases hlt : k < l.length
    · have hc := hY.cell k (by rw [mix_len]; exact hlt)
      rw [mix_at l k hlt] at hc
      have hf := hY.free k (by rw [mix_len]; exact hlt)
      have hsame := mix_same l k hlt
      have hst := mix_set l k hlt
      have hn := small_nat l[k]
      have hb := (l[k]).toNat_lt
      have hset : ∀ n : Int, n = ((small l[k]).toNat : Int) → Byt (wr.setCell ⟨g, k, none⟩ (.int .u8 n)) g ((mix l k).set k (small l[k])) := fun n hn => hY.set (k := k) (small l[k]) (n := n) hn
      rw [hst] at hset
      have hlt' : (k : Int) < (l.length : Int) := by omega
      have H1 := Lib.hid hset
      have H2 := Lib.hid hn
      have H3 := Lib.hid (fun h => UInt8.toNat_inj.1 h : (small l[k]).toNat = (l[k]).toNat → small l[k] = l[k])
      have H4 := Lib.hid hsame
      clear hset hn hsame hst
      generalize (l[k]).toNat = b at *
      by_cases h1 : (b : Int) < 65
      · have h1' : ¬ (65 : Int) ≤ (b : Int) := by omega
        have e := H2.out
        rw [if_neg (by omega)] at e
        rw [H4.out (H3.out e)] at hY
        clear e H1 H2 H3 H4
        go_wp2_with fail
        go_roundw
        case rel => exact ⟨k + 1, by go_num, by omega, hY, hB⟩
        case measure => simp [intOf]; omega
      · by_cases h2 : (b : Int) ≤ 90
        · have e := H2.out
          rw [if_pos (by omega)] at e
          have hY2 := H1.out ((b : Int) - 65 + 97) (by omega)
          clear e H1 H2 H3 H4 hY
          go_wp2_with fail
          go_roundw
          case rel => exact ⟨k + 1, by go_num, by omega, hY2, Below.setCell hB hlo _⟩
          case measure => simp [intOf]; omega
        · have e := H2.out
          rw [if_neg (by omega)] at e
          rw [H4.out (H3.out e)] at hY
          clear e H1 H2 H3 H4
          go_wp2_with fail
          go_roundw
          case rel => exact ⟨k + 1, by go_num, by omega, hY, hB⟩
          case measure => simp [intOf]; omega
    · obtain rfl : k = l.length := by omega
      rw [mix_all] at hY
      have hback := run_convert_bytes_back (P := Try.prog) wr 47 9 5 ⟨g, 0, none⟩ cap (low l) Try.underlying47 Try.underlying5 Try.underlying9 (fun j hj => by
        rw [show (⟨g, 0, none⟩ : Addr).add j = ⟨g, j, none⟩ by unfold Addr.add; split <;> simp_all]
        exact hY.cell j hj)
      rw [low_len] at hback
      go_wp2_with fail
      go_ret
      exact ⟨rfl, hB⟩

theorem Lower_any (l : Bs) (w : World) : Calls Try.prog 18 #[.string (bs l)] w fun e w' => e = .returned (.string (bs (lower l))) ∧ Below w.heap.size w w' := by
  cases h : can l
  · rw [lower_no h]
    go_enter Try.func18, Try.ntmps18
    go_wp2_with fail
    refine (Can_any l w).mono ?_
    rintro e w1 ⟨rfl, hB⟩
    go_wp2_with fail
    go_ret
    exact ⟨rfl, hB⟩
  · rw [lower_yes h]
    exact Lower_yes l w h

theorem Same_xy (a b x y : Bs) (w : World) (hx : Hid (lower a = x)) (hy : Hid (lower b = y)) : Calls Try.prog 23 #[.string (bs a), .string (bs b)] w fun e w' => e = .returned (.bool (!(x == []) && x == y)) ∧ Below w.heap.size w w' := by
  have ex := bs_toList x
  have ey := bs_toList y
  cases x with
  | nil =>
    go_enter Try.func23, Try.ntmps23
    go_wp2_with fail
    refine (Lower_any a w).mono ?_
    rintro e w1 ⟨rfl, hB⟩
    rw [hx.out]
    go_wp2_with fail
    go_ret
    exact ⟨rfl, hB⟩
  | cons c x =>
    have k1 : ((bs (c :: x)).toList == []) = false := by rw [ex]; rfl
    go_enter Try.func23, Try.ntmps23
    go_wp2_with fail
    refine (Lower_any a w).mono ?_
    rintro e w1 ⟨rfl, hB⟩
    rw [hx.out]
    go_wp2_with fail
    refine (Lower_any b w1).mono ?_
    rintro e w2 ⟨rfl, hB2⟩
    rw [hy.out]
    go_wp2_with fail
    go_ret
    exact ⟨rfl, Below.trans hB (hB2.mono hB.size)⟩

theorem Same_any (a b : Bs) (w : World) : Calls Try.prog 23 #[.string (bs a), .string (bs b)] w fun e w' => e = .returned (.bool (same a b)) ∧ Below w.heap.size w w' := by
  rw [← same_code]
  exact Same_xy a b _ _ w (Lib.hid rfl) (Lib.hid rfl)

end Go.Proofs.Ytkihlcecjcjmlaa
