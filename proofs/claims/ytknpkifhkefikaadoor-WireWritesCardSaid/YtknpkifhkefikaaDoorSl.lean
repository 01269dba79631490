/-
  A slice of bytes, with its room.
-/
import Derived.Test.YtknpkifhkefikaaDoorGb
namespace Go.Proofs.YtknpkifhkefikaaDoor
open Go.RowKit
set_option linter.unusedVariables false
set_option maxRecDepth 100000

theorem slice_bysN (A : Option Addr) (l : Bs) (c k : Nat) (i : Int) (w : World) (hS : Bys w A l) (hk : k ≤ l.length) (hc : l.length ≤ c) (hi : i = k) (hn : A = none → c = 0) : ∃ A', (∀ w : World, (Instr.slice 29 (.slice A l.length c) (some (.int .i64 i)) none none).run Tryd.prog w = .ok (.slice A' (l.drop k).length (c - k)) w) ∧ Bys w A' (l.drop k) ∧ (l.drop k).length ≤ c - k ∧ (A' = none → c - k = 0) := by
  subst hi
  refine ⟨_, fun w => ?_, hS.cut (k := k) hc, by rw [List.length_drop]; omega, fun h => ?_⟩
  · rw [run_slice_l w 29 A l.length c (by rw [elem_bytes]; exact Tryd.underlying29) _ _ (by omega) (by omega), elem_bytes, size_u8]
    simp [sliced]
  · split at h
    · omega
    · cases A with
      | none => have := hn rfl; omega
      | some a => cases h
/-- Bytes of the argument, a slice of them. -/
structure Sl (W0 : World) (A : Option Addr) (c : Nat) (l : Bs) : Prop where
  bys : Bys W0 A l
  le : l.length ≤ c
  max : c ≤ 9223372036854775807
  nil : A = none → c = 0
theorem Sl.none (W0 : World) : Sl W0 none 0 [] := ⟨fun h => absurd h (by simp), Nat.le_refl _, by omega, fun _ => rfl⟩
theorem Sl.on {W0 W1 : World} {A : Option Addr} {c : Nat} {l : Bs} (h : Sl W0 A c l) (hB : Below W0.heap.size W0 W1) : Sl W1 A c l := ⟨h.bys.on hB, h.le, h.max, h.nil⟩
theorem OwnB.bysN {w : World} {base : Nat} {v : Value} {l : Bs} (h : OwnB w base v l) : ∃ A c, v = .slice A l.length c ∧ Sl w A c l := by
  rcases h with ⟨rfl, rfl⟩ | ⟨g, cap, rfl, hb, hlt, hc, hm, hcs, hsp⟩
  · exact ⟨none, 0, rfl, Sl.none w⟩
  · exact ⟨_, cap, rfl, fun _ => ⟨g, 0, rfl, fun j hj => by rw [Nat.zero_add]; exact hcs j hj⟩, hc, by unfold maxLen at hm; omega, fun h => by cases h⟩
theorem Sl.made {w : World} {cs : Array Value} {t : TypeId} {l : Bs} (h : cs = (l.map byteV).toArray) (hl : l.length ≤ 9223372036854775807) : Sl (w.alloc (.cells cs t)) (some ⟨w.heap.size, 0, Option.none⟩) l.length l := by
  subst h
  exact ⟨fun _ => ⟨w.heap.size, 0, rfl, fun j hj => by rw [cell_of_row _ _ (0 + j) _ _ _ (row_new _ rfl)]; simp [byteV, hj]⟩, Nat.le_refl _, hl, fun h => by cases h⟩
theorem Sl.inside {w : World} {A : Option Addr} {c : Nat} {l : Bs} (h : Sl w A c l) : ∀ p, A = some p → 0 < l.length → p.block < w.heap.size := h.bys.inside
/-- 'b[k:k+m]', 'b[k:]'. -/
theorem Sl.mid {W0 : World} {A : Option Addr} {c : Nat} {l : Bs} (h : Sl W0 A c l) (k m : Nat) (i j : Int) (hk : k + m ≤ l.length) (hi : i = k) (hj : j = (k + m : Nat)) : ∃ A', (∀ w : World, (Instr.slice 29 (.slice A l.length c) (some (.int .i64 i)) (some (.int .i64 j)) Option.none).run Tryd.prog w = .ok (.slice A' ((l.drop k).take m).length (c - k)) w) ∧ Sl W0 A' (c - k) ((l.drop k).take m) := by
  subst hi
  subst hj
  have hle := h.le
  have hlm : ((l.drop k).take m).length = m := by rw [List.length_take, List.length_drop]; omega
  refine ⟨if c = k then A else A.map (·.add k), fun w => ?_, (h.bys.cut (k := k) hle).pre m, by rw [hlm]; omega, by have := h.max; omega, fun hn => ?_⟩
  · rw [run_slice_lh w 29 A l.length c (by rw [elem_bytes]; exact Tryd.underlying29) _ _ _ _ (by omega) (by omega) (by omega), elem_bytes, size_u8, hlm]
    simp [sliced]
    omega
  · split at hn
    · omega
    · cases A with
      | none => have := h.nil rfl; omega
      | some a => cases hn
theorem Sl.rest {W0 : World} {A : Option Addr} {c : Nat} {l : Bs} (h : Sl W0 A c l) (k : Nat) (i : Int) (hk : k ≤ l.length) (hi : i = k) : ∃ A', (∀ w : World, (Instr.slice 29 (.slice A l.length c) (some (.int .i64 i)) Option.none Option.none).run Tryd.prog w = .ok (.slice A' (l.drop k).length (c - k)) w) ∧ Sl W0 A' (c - k) (l.drop k) ∧ ∀ p, A' = some p → ∃ a, A = some a ∧ p.block = a.block := by
  subst hi
  have hle := h.le
  refine ⟨_, fun w => ?_, ⟨h.bys.cut (k := k) hle, by rw [List.length_drop]; omega, by have := h.max; omega, fun hn => ?_⟩, fun p hp => ?_⟩
  · rw [run_slice_l w 29 A l.length c (by rw [elem_bytes]; exact Tryd.underlying29) _ _ (by omega) (by omega), elem_bytes, size_u8]
    simp [sliced]
  · split at hn
    · omega
    · cases A with
      | none => have := h.nil rfl; omega
      | some a => cases hn
  · split at hp
    · exact ⟨p, hp, rfl⟩
    · cases A with
      | none => cases hp
      | some a =>
        injection hp with hp
        subst hp
        exact ⟨a, rfl, by unfold Addr.add; split <;> rfl⟩
theorem Sl.madeF {w : World} {cs : Array Value} {t : TypeId} {l : Bs} (fr : Nat × Nat) (h : cs = (l.map byteV).toArray) (hl : l.length ≤ 9223372036854775807) : Sl (w.alloc (.cells cs t fr)) (some ⟨w.heap.size, 0, Option.none⟩) l.length l := by
  subst h
  refine ⟨fun _ => ⟨_, 0, rfl, fun j hj => ?_⟩, Nat.le_refl _, hl, fun h => by cases h⟩
  have e : (w.alloc (.cells (l.map byteV).toArray t fr)).heap[w.heap.size]? = some (.cells (l.map byteV).toArray t fr) := by
    show (w.heap.push _)[w.heap.size]? = _
    simp
  rw [Nat.zero_add]
  unfold World.cell?
  rw [e]
  simp [byteV, hj]
theorem u64_modS (n : Int) : IntKind.u64.wrap n = n % 18446744073709551616 := by simp [IntKind.wrap, IntKind.bits, IntKind.signed]
/-- 'int(uint(n) % uint(m))'. -/
theorem rem_u64 (n : Int) (m : Nat) (h0 : 0 < m) (h1 : m ≤ 4611686018427387904) : ∃ q : Nat, Int.tmod (IntKind.u64.wrap n) (m : Int) = q ∧ q < m ∧ IntKind.u64.wrap (m : Int) = m ∧ IntKind.i64.wrap (q : Int) = q ∧ IntKind.u64.wrap (q : Int) = q := by
  have e0 : 0 ≤ IntKind.u64.wrap n := by rw [u64_modS]; omega
  have e2 := Int.tmod_lt_of_pos (IntKind.u64.wrap n) (show (0 : Int) < (m : Int) by omega)
  have e1 : 0 ≤ Int.tmod (IntKind.u64.wrap n) (m : Int) := Int.tmod_nonneg _ e0
  refine ⟨(Int.tmod (IntKind.u64.wrap n) (m : Int)).toNat, by omega, by omega, by rw [u64_modS]; omega, IntWalk.i64_in _ (by omega), by rw [u64_modS]; omega⟩
end Go.Proofs.YtknpkifhkefikaaDoor
