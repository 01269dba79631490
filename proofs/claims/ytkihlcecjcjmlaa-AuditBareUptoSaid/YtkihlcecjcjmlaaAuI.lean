/-
  The walk of AuditPairs.
-/
import Derived.Test.YtkihlcecjcjmlaaAuD
import Derived.Test.YtkihlcecjcjmlaaAuH
namespace Go.Proofs.Ytkihlcecjcjmlaa
open Go.RowKit
set_option linter.unusedVariables false
set_option maxRecDepth 100000

theorem size_ev (w : World) : (sizeOf 31).run Try.prog w = .ok 15 w := by
  obtain ⟨i, hi, h1⟩ : ∃ i, Try.prog.info? 31 = some i ∧ i.size = 15 := by
    have := info_ev
    cases h : Try.prog.info? 31 with
    | none => rw [h] at this; cases this
    | some i => rw [h] at this; exact ⟨i, rfl, by simpa using this⟩
  simp [sizeOf, typeInfo, hi, h1]
theorem elem_evs : Try.prog.elem 22 = 31 := by kernel_rfl
theorem slice_ev (A : Option Addr) (n c k : Nat) (hk : k ≤ n) (hc : n ≤ c) : ∀ w : World, (Instr.slice 22 (.slice A n c) none (some (.int .i64 (k : Int))) none).run Try.prog w = .ok (.slice A k c) w := by
  intro w
  rw [run_slice_h w 22 A n c (by rw [elem_evs]; exact Try.underlying22) _ _ (by omega) (by omega), elem_evs, size_ev]
  simp only [Result.andThen_ok, sliced]
  by_cases h : c = 0
  · subst h; simp
  · simp only [Nat.sub_zero, if_neg h, Int.toNat_natCast]
    cases A with
    | none => simp
    | some a => simp [Addr.add]
theorem Evs.pre {w : World} {A : Option Addr} {l : List Ev} (h : Evs w A l) (k : Nat) : Evs w A (l.take k) := fun hn => by
  rw [List.length_take] at hn
  obtain ⟨g', o', e, hc⟩ := h (by omega)
  refine ⟨g', o', e, fun j hj => ?_⟩
  rw [List.length_take] at hj
  rw [List.getElem_take]
  exact hc j (by omega)
theorem Evs.none (w : World) (A : Option Addr) : Evs w A [] := fun h => absurd h (by simp)
def loneE : Ev := ⟨true, 0, 0, ⟨0, false, 0, false, false, false, false, 0⟩, []⟩
theorem lone_false : pairedP [loneE] = false := by decide +kernel
theorem lone_evs {w : World} {g : Nat} (h : w.heap[g]? = some (.cells #[.bool true, .int .i64 0, .int .i64 0, .int .i64 0, .bool false, .int .i64 0, .bool false, .bool false, .bool false, .bool false, .int .i64 0, .slice none 0 0, .slice none 0 0, .slice none 0 0, .slice none 0 0] 31 (0, 0))) : Evs w (some ⟨g, 0, none⟩) [loneE] := fun _ => by
  refine ⟨g, 0, rfl, fun j hj => ⟨⟨none, 0, none, 0, 0, none, 0, 0, none, 0, 0⟩, ?_, fun i u hi => ?_⟩⟩
  · obtain rfl : j = 0 := by simp at hj; omega
    exact ⟨fun h => absurd h (by simp [loneE]), by simp [loneE], by simp, by show -9223372036854775808 ≤ (0 : Int) ∧ (0 : Int) ≤ 9223372036854775807; omega, by show -9223372036854775808 ≤ (0 : Int) ∧ (0 : Int) ≤ 9223372036854775807; omega, by show -9223372036854775808 ≤ (0 : Int) ∧ (0 : Int) ≤ 9223372036854775807; omega, fun x hx => by simp [loneE] at hx⟩
  · obtain rfl : j = 0 := by simp at hj; omega
    refine (cell_of_row _ _ _ _ _ _ h).trans ?_
    rw [show 0 + 0 * 15 + i = i by omega, List.getElem?_toArray]
    exact hi
theorem paired_w (A : Option Addr) (l : List Ev) (n c : Nat) (W : World) (b : Bool) (hn : n = l.length) (hS : Evs W A l) (hl : l.length ≤ 1000000) (hb : pairedP l = b) : Calls Try.prog 6 #[.slice A n c] W fun e w' => e = .returned (.bool b) ∧ Below W.heap.size W w' := by
  subst hn hb
  exact paired_any _ l c W hS hl
theorem pairedR_w (A : Option Addr) (l : List Ev) (n c : Nat) (W : World) (b : Bool) (hn : n = l.length) (hS : Evs W A l) (hl : l.length ≤ 1000000) (hb : pairedP l = b) : Calls Try.prog 7 #[.slice A n c] W fun e w' => e = .returned (.bool b) ∧ Below W.heap.size W w' := by
  subst hn hb
  exact pairedR_any _ l c W hS hl

set_option maxHeartbeats 4000000 in
set_option maxRecDepth 100000 in
theorem AuditPairs_any (A : Option Addr) (L : List Ev) (c : Nat) (w : World) (hS : Evs w A L) (hc : L.length ≤ c) (hm : L.length ≤ 9223372036854775807) : Calls Try.prog 3 #[.slice A L.length c] w fun x w' => x = .returned (.bool true) ∧ Below w.heap.size w w' := by
  obtain ⟨n, hn⟩ : ∃ n, n = L.length := ⟨_, rfl⟩
  rw [← hn]
  rw [← hn] at hc hm
  have hp : (L.take (min n 60)).length = min n 60 := by rw [List.length_take]; omega
  have sl := slice_ev A n c (min n 60) (by omega) hc
  have hmin : min (n : Int) 60 = ((min n 60 : Nat) : Int) := by omega
  have S1 := Lib.hid (hS.pre (min n 60))
  obtain ⟨l, hl⟩ : ∃ l, l = L.take (min n 60) := ⟨_, rfl⟩
  obtain ⟨k, hk⟩ : ∃ k, k = min n 60 := ⟨_, rfl⟩
  have hk60 : k ≤ 60 := by omega
  rw [← hl] at hp S1
  rw [← hk] at hp sl hmin
  have HP := Lib.hid hp.symm
  have K60 := Lib.hid hk60
  obtain ⟨b, hb⟩ : ∃ b, b = pairedP l := ⟨_, rfl⟩
  have HBB := Lib.hid hb.symm
  clear hS hl hk hn hp hb hk60
  go_enter Try.func3, Try.ntmps3
  go_wp2_with fail
  refine (paired_w _ l _ _ _ b HP.out S1.out (by have := HP.out; have := K60.out; omega) HBB.out).mono ?_
  rintro x w1 ⟨rfl, b1⟩
  have B1 := Lib.hid b1
  have S2 := Lib.hid (S1.out.on b1)
  clear b1
  go_wp2_with fail
  refine (pairedR_w _ l _ _ _ b HP.out S2.out (by have := HP.out; have := K60.out; omega) HBB.out).mono ?_
  rintro x w2 ⟨rfl, b2⟩
  have B2 := Lib.hid (Below.trans B1.out (b2.mono B1.out.size))
  clear b2
  have hbb : (b == b) = true := by simp
  go_wp2_with fail
  refine (paired_w none [] 0 0 _ true rfl (Evs.none _ _) (by simp) rfl).mono ?_
  rintro x w3 ⟨rfl, b3⟩
  have B3 := Lib.hid (Below.trans B2.out (b3.mono B2.out.size))
  clear b3
  go_wp2_with fail
  have r4 := row_new (w := w3) (.cells #[.bool true, .int .i64 0, .int .i64 0, .int .i64 0, .bool false, .int .i64 0, .bool false, .bool false, .bool false, .bool false, .int .i64 0, .slice none 0 0, .slice none 0 0, .slice none 0 0, .slice none 0 0] 31 (0, 0)) rfl
  refine (paired_w (some ⟨w3.heap.size, 0, none⟩) [loneE] 1 1 _ false rfl (lone_evs r4) (by simp) lone_false).mono ?_
  rintro x w4 ⟨rfl, b4⟩
  have B4 := Lib.hid (Below.trans (Below.alloc B3.out B3.out.size _) (b4.mono (by simp; have := B3.out.size; omega)))
  clear b4 r4
  go_wp2_with fail
  go_ret
  exact ⟨rfl, B4.out⟩
end Go.Proofs.Ytkihlcecjcjmlaa
