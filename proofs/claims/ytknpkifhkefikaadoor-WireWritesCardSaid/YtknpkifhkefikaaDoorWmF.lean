/-
  Questions copied (slices.Clone); rows of structs laid end to end.
-/
import Derived.Test.YtknpkifhkefikaaDoorWh
import Derived.Test.YtknpkifhkefikaaDoorGb
namespace Go.Proofs.YtknpkifhkefikaaDoor
open Go.RowKit
set_option linter.unusedVariables false
set_option maxRecDepth 100000

theorem flat_len {α β : Type} {f : α → List β} {s : Nat} (hs : ∀ x, (f x).length = s) : ∀ L : List α, (L.flatMap f).length = L.length * s
  | [] => by simp
  | a :: L => by rw [List.flatMap_cons, List.length_append, hs, flat_len hs L, List.length_cons, Nat.add_mul]; omega
theorem flat_at {α β : Type} {f : α → List β} {s : Nat} (hs : ∀ x, (f x).length = s) : ∀ (L : List α) (i k : Nat) (hk : k < s) (hi : i < L.length), (L.flatMap f)[i * s + k]? = (f L[i])[k]?
  | a :: L, 0, k, hk, _ => by
    rw [List.flatMap_cons, Nat.zero_mul, Nat.zero_add, List.getElem?_append_left (by rw [hs]; exact hk)]
    rfl
  | a :: L, i + 1, k, hk, hi => by
    rw [List.flatMap_cons, List.getElem?_append_right (by rw [hs, Nat.add_mul]; omega), hs, show (i + 1) * s + k - s = i * s + k by rw [Nat.add_mul]; omega, flat_at hs L i k hk (by simpa using hi)]
    rfl
theorem quL_len (q : Qu) : (quL q).length = 3 := rfl
theorem flat_range {α : Type} {f : α → List Value} {s : Nat} (hs : ∀ x, (f x).length = s) {L : List α} {w : World} {g : Nat} {cur : Array Value} {t : TypeId} (hh : w.heap[g]? = some (.cells cur t (0, 0))) (ht : cur.toList.take (L.length * s) = L.flatMap f) (j : Nat) (hj : j < L.length) : w.rangeAt g (j * s) (f L[j]) := by
  intro k v hk
  obtain ⟨hkl, _⟩ := List.getElem?_eq_some_iff.1 hk
  rw [hs] at hkl
  have h1 := flat_at hs L j k hkl hj
  have hlt : j * s + k < L.length * s := by
    have := Nat.mul_le_mul_right s (show j + 1 ≤ L.length by omega)
    rw [Nat.add_mul] at this; omega
  rw [cell_of_row _ g (j * s + k) _ _ _ hh]
  rw [hk, ← ht, List.getElem?_take_of_lt hlt] at h1
  simpa using h1

/-- A slice of questions in a block of its own. -/
def QsT (w : World) (A : Option Addr) (L : List Qu) : Prop := 0 < L.length → ∃ g off cs, A = some ⟨g, off, none⟩ ∧ w.heap[g]? = some (.cells cs 44 (0, 0)) ∧ ∀ j (h : j < L.length), w.rangeAt g (off + j * 3) (quL L[j])
theorem info_q3 : (Tryd.prog.info? 44).map (fun i => (i.zero, i.size, i.bytes)) = some (some (.agg #[.string ⟨#[]⟩, .int .i64 0, .int .i64 0]), 3, 32) := by kernel_rfl

set_option maxHeartbeats 1000000 in
theorem CloneQ_any (A : Option Addr) (L : List Qu) (c : Nat) (w : World) (hS : Qs w A L) (hl : L.length * 32 ≤ 140737488351232) :
    Calls Tryd.prog 26 #[.slice A L.length c] w fun e w' => ∃ A' c', e = .returned (.slice A' L.length c') ∧ QsT w' A' L ∧ L.length ≤ c' ∧ c' ≤ 9223372036854775807 ∧ Below w.heap.size w w' := by
  have q : ∀ (w : World) (a : Option Addr) (n c n' c' : Nat), (binOp .eql 24 (.slice a n c) (.slice none n' c')).run Tryd.prog w = .ok (.bool a.isNone) w := fun w a n c n' c' => Lib.run_eql_slice_nil w _ _ a n c n' c' Tryd.underlying24
  cases A with
  | none =>
    have hl0 : L = [] := by
      rcases L with _ | ⟨b, l⟩
      · rfl
      · obtain ⟨g, off, h, _⟩ := hS (by simp)
        cases h
    subst hl0
    clear hS
    go_enter Tryd.func26, Tryd.ntmps26
    go_wp2_with fail
    go_ret
    exact ⟨none, 0, rfl, fun h => absurd h (by simp), by simp, by omega, Below.refl _ _⟩
  | some p =>
    have hcells : ∀ (o : Obj) j u, (L.flatMap quL)[j]? = some u → (w.alloc o).cell? (p.add j) = some u := by
      intro o j u hj
      obtain ⟨hjl, _⟩ := List.getElem?_eq_some_iff.1 hj
      rw [flat_len quL_len] at hjl
      have hn : 0 < L.length := by omega
      obtain ⟨g, off, hp, hcs⟩ := hS hn
      injection hp with hp
      subst hp
      have hi : j / 3 < L.length := by omega
      have h1 := flat_at quL_len L (j / 3) (j % 3) (by omega) hi
      rw [show j / 3 * 3 + j % 3 = j by omega, hj] at h1
      have h2 := hcs (j / 3) hi (j % 3) u h1.symm
      have h3 : (w.alloc o).cell? ⟨g, off + j / 3 * 3 + j % 3, none⟩ = some u := cell_on h2 (Below.alloc (Below.refl _ _) (Nat.le_refl _) _)
      rw [Addr.add_lit]
      rw [show off + j / 3 * 3 + j % 3 = off + j by omega] at h3
      exact h3
    have HC := Lib.hid hcells
    obtain ⟨xs, hxs⟩ : ∃ xs, L.flatMap quL = xs := ⟨_, rfl⟩
    rw [hxs] at HC
    have HX := Lib.hid hxs
    clear hxs hcells hS
    obtain ⟨n, hn⟩ : ∃ n, n = L.length := ⟨_, rfl⟩
    rw [← hn]
    rw [← hn] at hl
    have HN := Lib.hid hn
    have hxl : xs.length = n * 3 := by rw [← HX.out, flat_len quL_len, hn]
    have h1c : ∀ u ∈ xs, u.oneCell' = true := fun u hu => by
      rw [← HX.out] at hu
      obtain ⟨q, _, hq⟩ := List.mem_flatMap.1 hu
      simp [quL] at hq
      rcases hq with rfl | rfl | rfl <;> rfl
    have H1 := Lib.hid h1c
    have HXL := Lib.hid hxl
    obtain ⟨i0, hi, hz0, hz1, hz2⟩ := info_parts info_q3
    clear hxl h1c hn
    go_enter Tryd.func26, Tryd.ntmps26
    go_wp2_with (at_builtin; refine wpList_append_own _ rfl _ _ 24 rfl w.heap.size 44 i0 (.agg #[.string ⟨#[]⟩, .int .i64 0, .int .i64 0]) 3 32 Tryd.underlying24 hi hz0 hz1 hz2 rfl (by decide) _ _ _ rfl (World.ownsRow_made w #[] 0 (Nat.le_refl _) (Nat.zero_le _) rfl) p n c xs rfl HXL.out (HC.out _) H1.out (by unfold maxLen; omega) (by omega) (by simp) ?_)
    intro v' w1 hown hgrow _
    have hb : Below w.heap.size w w1 := ((Below.refl _ w).alloc (Nat.le_refl _) _).grown hgrow (by simp) (by intro k hk; simp [Value.ownBlock] at hk; omega)
    have hres : ∃ A' c', v' = .slice A' n c' ∧ QsT w1 A' L ∧ n ≤ c' ∧ c' ≤ 9223372036854775807 := by
      rcases hown.2 with ⟨hv, h0⟩ | ⟨g, cap, cur, hv, _, hh, hnc, hcm, hsz, ht⟩
      · have hn0 : n = 0 := by simpa using h0
        exact ⟨none, 0, by rw [hv, hn0], fun h => by rw [← HN.out, hn0] at h; omega, by omega, by omega⟩
      · refine ⟨_, cap, by rw [hv], fun _ => ⟨g, 0, cur, rfl, hh, fun j hj => ?_⟩, by omega, by unfold maxLen at hcm; omega⟩
        have ht' : cur.toList.take (L.length * 3) = L.flatMap quL := by
          rw [HX.out, ← HN.out]
          simpa using ht
        rw [Nat.zero_add]
        exact flat_range quL_len hh ht' j hj
    obtain ⟨A', c', rfl, r1, r2, r3⟩ := hres
    clear hown hgrow
    go_wp2_with fail
    go_ret
    exact ⟨A', c', rfl, r1, r2, r3, hb⟩
end Go.Proofs.YtknpkifhkefikaaDoor
