/-
  The walk of FilesNobody.
-/
import Derived.Test.YtcnnifogppabdaaFlY
namespace Go.Proofs.Ytcnnifogppabdaa
open Go.RowKit Go.Maps
set_option linter.unusedVariables false
set_option maxRecDepth 100000

def NB (W : World) (v : Value) (w' : World) : Prop := Nob w' v ∧ Below W.heap.size W w'
theorem Nob.below {w w' : World} {v : Value} (h : Nob w v) (hB : Below w.heap.size w w') : Nob w' v := by
  rcases h with h | ⟨a, h, c⟩
  · exact .inl h
  · exact .inr ⟨a, h, (World.cell?_of_block (hB.block _ (World.block_lt_of_cell? w _ c))).trans c⟩
theorem NB.nob {W w' : World} {v : Value} (h : NB W v w') : Nob w' v := h.1
theorem NB.drew {W w' : World} {v : Value} (h : NB W v w') : NB W v w'.drew := ⟨h.1.below (Below.drew (Below.refl _ _)), Below.drew h.2⟩
theorem NB.alloc {W w' : World} {v : Value} (h : NB W v w') (o : Obj) : NB W v (w'.alloc o) := ⟨h.1.below (Below.alloc (Below.refl _ _) (Nat.le_refl _) _), Below.alloc h.2 h.2.size _⟩
theorem tens (w : World) (z : Nat) (h : z < 10) : (w.alloc (Obj.cells #[.int .i64 2, .int .i64 2, .int .i64 2, .int .i64 2, .int .i64 2, .int .i64 2, .int .i64 2, .int .i64 2, .int .i64 2, .int .i64 2] 24)).cell? ⟨w.heap.size, z, none⟩ = some (.int .i64 2) := by
  refine (cell_of_row _ _ _ _ _ _ (row_new _ rfl)).trans ?_
  match z, h with
  | 0, _ => rfl
  | 1, _ => rfl
  | 2, _ => rfl
  | 3, _ => rfl
  | 4, _ => rfl
  | 5, _ => rfl
  | 6, _ => rfl
  | 7, _ => rfl
  | 8, _ => rfl
  | 9, _ => rfl
theorem turned {f : FuncId} {args : Array Value} {w : World} {v : Value} (h : Calls Try.prog f args w fun e w' => e = .returned v ∧ w = w') : Calls Try.prog f args w fun e w' => e = .returned v ∧ w' = w := h.mono fun _ _ ⟨a, b⟩ => ⟨a, b.symm⟩
set_option maxHeartbeats 4000000 in
theorem Nobody_walk (x : St) (w : World) :
    Calls Try.prog 9 #[.agg #[.int .i64 x.op, .int .i64 x.k, .string x.nm, .string x.to, .slice x.ba x.bn x.bc, .slice x.ta x.tn x.tc]] w fun e w' => e = .returned (.bool true) ∧ Below w.heap.size w w' := by
  obtain ⟨op, k, nm, to, ba, bn, bc, ta, tn, tc⟩ := x
  dsimp only
  go_enter Try.func9, Try.ntmps9
  go_wp2_with fail
  obtain ⟨W0, hW0⟩ : ∃ W0, W0 = ((w.alloc (.cells #[.int .i64 op, .int .i64 k, .string nm, .string to, .slice ba bn bc, .slice ta tn tc] 33)).alloc (.cells #[.map none, .int .i64 0, .int .i64 0, .int .i64 0, .int .i64 0] 65)).alloc (.cells #[.pointer none, .pointer (some ⟨w.heap.size + 1, 0, none⟩)] 23) := ⟨_, rfl⟩
  have r0 : W0.heap[w.heap.size]? = some (.cells #[.int .i64 op, .int .i64 k, .string nm, .string to, .slice ba bn bc, .slice ta tn tc] 33 (0, 0)) := by
    rw [hW0, Below.heap_alloc _ _ _ (by simp; omega), Below.heap_alloc _ _ _ (by simp)]
    exact row_new _ rfl
  have r1 : W0.heap[w.heap.size + 1]? = some (.cells #[.map none, .int .i64 0, .int .i64 0, .int .i64 0, .int .i64 0] 65 (0, 0)) := by
    rw [hW0, Below.heap_alloc _ _ _ (by simp)]
    exact row_new _ (by simp)
  have r2 : W0.heap[w.heap.size + 1 + 1]? = some (.cells #[.pointer none, .pointer (some ⟨w.heap.size + 1, 0, none⟩)] 23 (0, 0)) := by
    rw [hW0]
    exact row_new _ (by simp)
  have b0 : Below w.heap.size w W0 := by
    rw [hW0]
    exact Below.alloc (Below.alloc (Below.alloc (Below.refl _ _) (Nat.le_refl _) _) (by simp) _) (by simp; omega) _
  have n1 : Nob W0 (.pointer (some ⟨w.heap.size + 1, 0, none⟩)) := .inr ⟨_, rfl, (cell_of_row _ _ _ _ _ _ r1).trans rfl⟩
  have n0 : Nob W0 (.pointer none) := .inl rfl
  rw [← hW0]
  clear hW0
  go_loopw [15] (fun v wr => ∃ j : Nat, v = .int .i64 j ∧ j ≤ 2 ∧ Below W0.heap.size W0 wr) (fun v _ => 2 - (intOf v).toNat)
  case atStart => exact ⟨0, rfl, by omega, Below.refl _ _⟩
  case round =>
    obtain ⟨j, rfl, hj, hB⟩ := hrel
    by_cases hlt : j < 2
    · have g1 : (j : Int) < 2 := by omega
      have k0 : wr.heap[w.heap.size]? = _ := (hB.block _ (some_lt r0)).trans r0
      have k2 : wr.heap[w.heap.size + 1 + 1]? = _ := (hB.block _ (some_lt r2)).trans r2
      have hv : ∃ v, wr.cell? ⟨w.heap.size + 1 + 1, j, none⟩ = some v ∧ Nob W0 v := by
        match j, hlt with
        | 0, _ => exact ⟨_, (cell_of_row _ _ _ _ _ _ k2).trans rfl, n0⟩
        | 1, _ => exact ⟨_, (cell_of_row _ _ _ _ _ _ k2).trans rfl, n1⟩
      obtain ⟨v, hv, hn⟩ := hv
      have c1 : wr.cell? ⟨w.heap.size, 1, none⟩ = some (.int .i64 k) := (cell_of_row _ _ _ _ _ _ k0).trans rfl
      have c2 : wr.cell? ⟨w.heap.size, 2, none⟩ = some (.string nm) := (cell_of_row _ _ _ _ _ _ k0).trans rfl
      have c3 : wr.cell? ⟨w.heap.size, 3, none⟩ = some (.string to) := (cell_of_row _ _ _ _ _ _ k0).trans rfl
      have c4 : wr.cell? ⟨w.heap.size, 4, none⟩ = some (.slice ba bn bc) := (cell_of_row _ _ _ _ _ _ k0).trans rfl
      have c5 : wr.cell? ⟨w.heap.size, 5, none⟩ = some (.slice ta tn tc) := (cell_of_row _ _ _ _ _ _ k0).trans rfl
      have HN := Lib.hid (fun W (h : Below W0.heap.size W0 W) => hn.below h)
      have HB := Lib.hid hB
      have HR := Lib.hid r0
      clear hn n0 n1 r0 r1 r2 k0 k2 hB
      go_wp2_with fail
      with_reducible refine Calls.mono (Append_nob (HN.out _ HB.out) _ _) ?_
      rintro e w4 ⟨rfl, rfl⟩
      go_wp2_with fail
      with_reducible refine Calls.mono (Read_nob (HN.out _ HB.out) _) ?_
      rintro e w4 ⟨rfl, rfl⟩
      go_wp2_with fail
      have hb1 : Below W0.heap.size W0 wr.drew := Below.drew HB.out
      have hn1 : Nob wr.drew v := HN.out _ hb1
      have hb2 : Below W0.heap.size W0 (wr.alloc (.cells #[.int .i64 2, .int .i64 2, .int .i64 2, .int .i64 2, .int .i64 2, .int .i64 2, .int .i64 2, .int .i64 2, .int .i64 2, .int .i64 2] 24)).drew := Below.drew (Below.alloc HB.out HB.out.size _)
      have hn2 : Nob (wr.alloc (.cells #[.int .i64 2, .int .i64 2, .int .i64 2, .int .i64 2, .int .i64 2, .int .i64 2, .int .i64 2, .int .i64 2, .int .i64 2, .int .i64 2] 24)).drew v := HN.out _ hb2
      go_region_held3 (fun w' => w'.cell? ⟨w.heap.size, 1, none⟩ = some (.int .i64 k) ∧ w'.cell? ⟨w.heap.size, 2, none⟩ = some (.string nm) ∧ w'.cell? ⟨w.heap.size, 3, none⟩ = some (.string to) ∧ w'.cell? ⟨w.heap.size, 5, none⟩ = some (.slice ta tn tc) ∧ Nob w' v ∧ Below W0.heap.size W0 w')
        (refine ⟨?_, ?_, ?_, ?_, ?_, ?_⟩ <;> first | assumption | go_keep)
        (first
        | (go_at_call 17; (with_reducible refine (Sync_nob (by assumption) _).mono ?_); rintro e w' ⟨rfl, rfl⟩)
        | (go_at_call 27; (with_reducible refine (Cut_nob (by assumption) _ _).mono ?_); rintro e w' ⟨rfl, rfl⟩)
        | (go_at_call 26; (with_reducible refine (Rename_nob (by assumption) _ _).mono ?_); rintro e w' ⟨rfl, rfl⟩)
        | (go_at_call 25; (with_reducible refine (Remove_nob (by assumption) _).mono ?_); rintro e w' ⟨rfl, rfl⟩)
        | (go_at_call 29; (with_reducible refine (Short_nob (by assumption) _).mono ?_); rintro e w' ⟨rfl, rfl⟩)
        | (go_at_call 28; (with_reducible refine (Room_nob (by assumption) _).mono ?_); rintro e w' ⟨rfl, rfl⟩)
        | (go_at_call 24; (with_reducible refine (Fuse_nob (by assumption) _).mono ?_); rintro e w' ⟨rfl, rfl⟩)
        | (go_at_call 18; (with_reducible refine (Crash_nob (by assumption) _).mono ?_); rintro e w' ⟨rfl, rfl⟩))
      have ht : ∀ z, z < 10 → ((wr.alloc (.cells #[.int .i64 2, .int .i64 2, .int .i64 2, .int .i64 2, .int .i64 2, .int .i64 2, .int .i64 2, .int .i64 2, .int .i64 2, .int .i64 2] 24)).drew).cell? ⟨wr.heap.size, z, none⟩ = some (.int .i64 2) := fun z hz => tens wr z hz
      clear hb1 hn1 c1 c2 c3 c4 c5 hv HB
      generalize (wr.alloc (.cells #[.int .i64 2, .int .i64 2, .int .i64 2, .int .i64 2, .int .i64 2, .int .i64 2, .int .i64 2, .int .i64 2, .int .i64 2, .int .i64 2] 24)).drew = W3 at *
      go_wp2_with fail
      go_loopw [75] (fun v wq => ∃ i : Nat, v = .int .i64 i ∧ i ≤ 10 ∧ Below W3.heap.size W3 wq) (fun v _ => 10 - (intOf v).toNat)
      case atStart => exact ⟨0, rfl, by omega, Below.refl _ _⟩
      case round =>
        obtain ⟨i, rfl, hi, hbq⟩ := hrel
        rename_i wq _
        have hb3 := Below.trans hb2 (hbq.mono hb2.size)
        have hn3 : Nob _ v := hn2.below hbq
        by_cases hil : i < 10
        · have g2 : (i : Int) < 10 := by omega
          have d1 := (World.cell?_of_block (hbq.block _ (World.block_lt_of_cell? W3 _ (ht i hil)))).trans (ht i hil)
          go_wp2_with fail
          go_roundw
          case rel => exact ⟨i + 1, by go_num, by omega, hbq⟩
          case measure => simp [intOf]; omega
        · obtain rfl : i = 10 := by omega
          have c2 := cell_of_row _ _ 2 _ _ _ ((hb3.block _ (some_lt HR.out)).trans HR.out)
          rw [show (#[Value.int .i64 op, .int .i64 k, .string nm, .string to, .slice ba bn bc, .slice ta tn tc])[2]? = some (.string nm) from rfl] at c2
          clear ht
          go_wp2_with fail
          go_quiet ((first | (go_at_call 31; exact Calls.quiet_of_same (turned (List_nob (by first | assumption | exact HN.out _ (below_drewN hb3 _))))) | (go_at_call 22; exact Calls.quiet_of_same (turned (Synced_nob (by first | assumption | exact HN.out _ (below_drewN hb3 _)) _))) | (go_at_call 23; exact Calls.quiet_of_same (turned (Used_nob (by first | assumption | exact HN.out _ (below_drewN hb3 _))))) | (go_at_call 12; exact Calls.quiet_of_same (turned (Copy_nob (by first | assumption | exact HN.out _ (below_drewN hb3 _)))))))
          go_wp2_with fail
          go_roundw
          case rel => exact ⟨j + 1, by go_num, by omega, below_drewN hb3 _⟩
          case measure => simp [intOf]; omega
    · obtain rfl : j = 2 := by omega
      have FW := Lib.hid (Fuse_walk 1 none 0 0 wr (fun h => absurd h (by simp)) (by omega) (by omega))
      have HB : Hid (Below w.heap.size w wr) := Lib.hid (Below.trans b0 (hB.mono b0.size))
      clear hB n0 n1 r0 r1 r2 b0
      go_wp2_with fail
      with_reducible refine Calls.mono FW.out ?_
      rintro e w4 ⟨rfl, b4⟩
      have HB4 := Lib.hid (Below.trans HB.out (b4.mono HB.out.size))
      clear b4
      go_wp2_with fail
      go_ret
      exact ⟨rfl, HB4.out⟩
end Go.Proofs.Ytcnnifogppabdaa
