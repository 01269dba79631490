/-
  A slice of bytes that reads as a list: cut, made a string, indexed.
-/
import Derived.Test.YtjhameebehkdjaaGreatNmJ
import Derived.Test.YtjhameebehkdjaaGreatNmD
namespace Go.Proofs.YtjhameebehkdjaaGreat
open Go.RowKit
set_option linter.unusedVariables false
set_option maxRecDepth 100000

theorem Bys.cut {w : World} {A : Option Addr} {l : Bs} (h : Bys w A l) {k c : Nat} (hc : l.length ≤ c) : Bys w (if c = k then A else A.map (·.add k)) (l.drop k) := fun hn => by
  rw [List.length_drop] at hn
  obtain ⟨g, off, rfl, hcs⟩ := h (by omega)
  rw [if_neg (by omega)]
  refine ⟨g, off + k, ?_, fun j hj => ?_⟩
  · simp only [Option.map_some]
    unfold Addr.add
    split <;> simp_all
  · rw [List.length_drop] at hj
    have := hcs (k + j) (by omega)
    rw [← Nat.add_assoc] at this
    rw [this, List.getElem_drop]
theorem Bys.pre {w : World} {A : Option Addr} {l : Bs} (h : Bys w A l) (k : Nat) : Bys w A (l.take k) := fun hn => by
  rw [List.length_take] at hn
  obtain ⟨g, off, rfl, hcs⟩ := h (by omega)
  refine ⟨g, off, rfl, fun j hj => ?_⟩
  rw [List.length_take] at hj
  rw [hcs j (by omega), List.getElem_take]
theorem Bys.nil (w : World) (A : Option Addr) : Bys w A [] := fun h => absurd h (by simp)

theorem size_u8 (w : World) : (sizeOf 5).run Tryz.prog w = .ok 1 w := by
  obtain ⟨i0, hi, hz0, hz1, hz2⟩ := info_parts info_u8
  simp [sizeOf, typeInfo, hi, hz1]
theorem elem_bytes : Tryz.prog.elem 29 = 5 := by kernel_rfl

/-- 'b[k:]'. -/
theorem slice_bys (A : Option Addr) (l : Bs) (c k : Nat) (i : Int) (w : World) (hS : Bys w A l) (hk : k ≤ l.length) (hc : l.length ≤ c) (hi : i = k) : ∃ A', (∀ w : World, (Instr.slice 29 (.slice A l.length c) (some (.int .i64 i)) none none).run Tryz.prog w = .ok (.slice A' (l.drop k).length (c - k)) w) ∧ Bys w A' (l.drop k) ∧ (l.drop k).length ≤ c - k := by
  subst hi
  refine ⟨_, fun w => ?_, hS.cut (k := k) hc, by rw [List.length_drop]; omega⟩
  rw [run_slice_l w 29 A l.length c (by rw [elem_bytes]; exact Tryz.underlying29) _ _ (by omega) (by omega), elem_bytes, size_u8]
  simp [sliced]
/-- 'b[:k]'. -/
theorem slice_pre (A : Option Addr) (l : Bs) (c k : Nat) (i : Int) (hk : k ≤ l.length) (hc : l.length ≤ c) (hi : i = k) : ∀ w : World, (Instr.slice 29 (.slice A l.length c) none (some (.int .i64 i)) none).run Tryz.prog w = .ok (.slice A (l.take k).length c) w := by
  intro w
  subst hi
  rw [run_slice_h w 29 A l.length c (by rw [elem_bytes]; exact Tryz.underlying29) _ _ (by omega) (by omega), elem_bytes, size_u8]
  simp only [Result.andThen_ok, sliced, List.length_take, Nat.min_eq_left hk]
  by_cases h : c = 0
  · subst h; simp
  · simp only [Nat.sub_zero, if_neg h, Int.toNat_natCast]
    cases A with
    | none => simp
    | some a => simp [Addr.add]

/-- 'string(b)'. -/
theorem string_bys (A : Option Addr) (l : Bs) (c : Nat) (w : World) (hS : Bys w A l) : (convert 29 9 (.slice A l.length c)).run Tryz.prog w = .ok (.string (bs l)) w := by
  cases l with
  | nil =>
    cases A with
    | none =>
      rw [List.length_nil, run_convert_bytes_nil (P := Tryz.prog) w 29 5 Tryz.underlying29 Tryz.underlying5]
      all_goals first | exact Tryz.underlying9 | rfl
    | some a => exact run_convert_bytes_back (P := Tryz.prog) w 29 9 5 a c [] Tryz.underlying29 Tryz.underlying5 Tryz.underlying9 (fun j hj => absurd hj (by simp))
  | cons b l =>
    obtain ⟨g, off, rfl, hcs⟩ := hS (by simp)
    refine run_convert_bytes_back (P := Tryz.prog) w 29 9 5 ⟨g, off, none⟩ c (b :: l) Tryz.underlying29 Tryz.underlying5 Tryz.underlying9 (fun j hj => ?_)
    rw [show (⟨g, off, none⟩ : Addr).add j = ⟨g, off + j, none⟩ by unfold Addr.add; split <;> simp_all]
    exact hcs j hj
end Go.Proofs.YtjhameebehkdjaaGreat
