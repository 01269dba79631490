/-
  header.can by a contract; words on headers and the table of masks.
-/
import Derived.Test.YtgfahkgnblkhaaaGreatDoorRows
import Derived.Test.YtgfahkgnblkhaaaGreatDoorHdB
import Derived.Handy
import Derived.WalkSpells
import Derived.WalkLawsBesides
import Derived.Deep.QuietTactic
import Derived.BigQuiet
import Derived.Lib.Hide
namespace Go.Proofs.YtgfahkgnblkhaaaGreatDoor
open Go.RowKit

theorem ret_int {k : IntKind} {a b : Int} (h : a = b) : Ending.returned (.int k a) = .returned (.int k b) := by rw [h]
theorem ret_bool {a b : Bool} (h : a = b) : Ending.returned (.bool a) = .returned (.bool b) := by rw [h]

/-- All seven numbers of a header fit. -/
def canH (i o c n0 n1 n2 n3 : Int) : Bool := decide ((0 ≤ n0 ∧ n0 ≤ 65535) ∧ (0 ≤ n1 ∧ n1 ≤ 65535) ∧ (0 ≤ n2 ∧ n2 ≤ 65535) ∧ (0 ≤ n3 ∧ n3 ≤ 65535) ∧ (0 ≤ i ∧ i ≤ 65535) ∧ (0 ≤ o ∧ o ≤ 15) ∧ (0 ≤ c ∧ c ≤ 15))
theorem canH_true {i o c n0 n1 n2 n3 : Int} (h : (0 ≤ n0 ∧ n0 ≤ 65535) ∧ (0 ≤ n1 ∧ n1 ≤ 65535) ∧ (0 ≤ n2 ∧ n2 ≤ 65535) ∧ (0 ≤ n3 ∧ n3 ≤ 65535) ∧ (0 ≤ i ∧ i ≤ 65535) ∧ (0 ≤ o ∧ o ≤ 15) ∧ (0 ≤ c ∧ c ≤ 15)) : canH i o c n0 n1 n2 n3 = true := decide_eq_true h
theorem canH_false {i o c n0 n1 n2 n3 : Int} (h : ¬ ((0 ≤ n0 ∧ n0 ≤ 65535) ∧ (0 ≤ n1 ∧ n1 ≤ 65535) ∧ (0 ≤ n2 ∧ n2 ≤ 65535) ∧ (0 ≤ n3 ∧ n3 ≤ 65535) ∧ (0 ≤ i ∧ i ≤ 65535) ∧ (0 ≤ o ∧ o ≤ 15) ∧ (0 ≤ c ∧ c ≤ 15))) : canH i o c n0 n1 n2 n3 = false := decide_eq_false h
theorem canH_iff {i o c n0 n1 n2 n3 : Int} {p : Prop} [Decidable p] (h : p ↔ ((0 ≤ n0 ∧ n0 ≤ 65535) ∧ (0 ≤ n1 ∧ n1 ≤ 65535) ∧ (0 ≤ n2 ∧ n2 ≤ 65535) ∧ (0 ≤ n3 ∧ n3 ≤ 65535) ∧ (0 ≤ i ∧ i ≤ 65535) ∧ (0 ≤ o ∧ o ≤ 15) ∧ (0 ≤ c ∧ c ≤ 15))) : decide p = canH i o c n0 n1 n2 n3 := decide_eq_decide.2 h
theorem canH_out {i o c n0 n1 n2 n3 : Int} (h : canH i o c n0 n1 n2 n3 = true) : (0 ≤ n0 ∧ n0 ≤ 65535) ∧ (0 ≤ n1 ∧ n1 ≤ 65535) ∧ (0 ≤ n2 ∧ n2 ≤ 65535) ∧ (0 ≤ n3 ∧ n3 ≤ 65535) ∧ (0 ≤ i ∧ i ≤ 65535) ∧ (0 ≤ o ∧ o ≤ 15) ∧ (0 ≤ c ∧ c ≤ 15) := of_decide_eq_true h

abbrev hdV (i : Int) (r : Bool) (o : Int) (aa tc rd ra : Bool) (c : Int) : Value := .agg #[.int .i64 i, .bool r, .int .i64 o, .bool aa, .bool tc, .bool rd, .bool ra, .int .i64 c]
abbrev ctV (n0 n1 n2 n3 : Int) : Value := .agg #[.int .i64 n0, .int .i64 n1, .int .i64 n2, .int .i64 n3]

set_option maxHeartbeats 800000 in
theorem can_any (i o c n0 n1 n2 n3 : Int) (r aa tc rd ra : Bool) (w : World) :
    Calls Tryz.prog 69 #[hdV i r o aa tc rd ra c, ctV n0 n1 n2 n3] w fun e w' => e = .returned (.bool (canH i o c n0 n1 n2 n3)) ∧ Below w.heap.size w w' := by
  have i0 : ∀ w : World, (Instr.index 101 (ctV n0 n1 n2 n3) (.int .i64 0)).run Tryz.prog w = .ok (.int .i64 n0) w := fun _ => by kernel_rfl
  have i1 : ∀ w : World, (Instr.index 101 (ctV n0 n1 n2 n3) (.int .i64 1)).run Tryz.prog w = .ok (.int .i64 n1) w := fun _ => by kernel_rfl
  have i2 : ∀ w : World, (Instr.index 101 (ctV n0 n1 n2 n3) (.int .i64 2)).run Tryz.prog w = .ok (.int .i64 n2) w := fun _ => by kernel_rfl
  have i3 : ∀ w : World, (Instr.index 101 (ctV n0 n1 n2 n3) (.int .i64 3)).run Tryz.prog w = .ok (.int .i64 n3) w := fun _ => by kernel_rfl
  go_enter Tryz.func69, Tryz.ntmps69
  go_wp2
  go_loop [8] (fun v => ∃ k : Nat, k ≤ 4 ∧ v = .int .i64 k ∧ (0 < k → 0 ≤ n0 ∧ n0 ≤ 65535) ∧ (1 < k → 0 ≤ n1 ∧ n1 ≤ 65535) ∧ (2 < k → 0 ≤ n2 ∧ n2 ≤ 65535) ∧ (3 < k → 0 ≤ n3 ∧ n3 ≤ 65535)) (fun v => 4 - (intOf v).toNat)
  case atStart => exact ⟨0, by omega, rfl, by omega, by omega, by omega, by omega⟩
  case round =>
    obtain ⟨k, hk, rfl, a0, a1, a2, a3⟩ := hrel
    have hk5 : k = 0 ∨ k = 1 ∨ k = 2 ∨ k = 3 ∨ k = 4 := by omega
    rcases hk5 with rfl | rfl | rfl | rfl | rfl
    all_goals
      go_wp2
      all_goals first
        | (go_ret; exact ⟨ret_bool (canH_false (by omega)).symm, by go_grown⟩)
        | (refine ⟨?_, by simp [intOf]⟩; first | exact ⟨1, by omega, rfl, by omega, by omega, by omega, by omega⟩ | exact ⟨2, by omega, rfl, by omega, by omega, by omega, by omega⟩ | exact ⟨3, by omega, rfl, by omega, by omega, by omega, by omega⟩ | exact ⟨4, by omega, rfl, by omega, by omega, by omega, by omega⟩)
        | (go_ret; exact ⟨ret_bool (canH_iff (by omega)), by go_grown⟩)

/-- The five masks stand in the table. -/
structure Masks (w : World) : Prop where
  m0 : w.cell? ⟨0, 0, none⟩ = some (.int .i64 32768)
  m1 : w.cell? ⟨0, 1, none⟩ = some (.int .i64 1024)
  m2 : w.cell? ⟨0, 2, none⟩ = some (.int .i64 512)
  m3 : w.cell? ⟨0, 3, none⟩ = some (.int .i64 256)
  m4 : w.cell? ⟨0, 4, none⟩ = some (.int .i64 128)
  lt : 0 < w.heap.size

theorem cellB {w W : World} {bk o : Nat} {v : Value} (hb : bk < w.heap.size) (h : w.cell? ⟨bk, o, none⟩ = some v) (hB : Below w.heap.size w W) : W.cell? ⟨bk, o, none⟩ = some v := (hB.cell (p := ⟨bk, o, none⟩) hb).trans h

end Go.Proofs.YtgfahkgnblkhaaaGreatDoor
