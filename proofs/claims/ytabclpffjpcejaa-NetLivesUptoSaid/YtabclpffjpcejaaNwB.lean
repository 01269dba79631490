/-
  The landed net's calls, over what it holds.
-/
import Derived.Test.YtabclpffjpcejaaNwA
import Derived.Test.YtabclpffjpcejaaQw
import Derived.WalkLawsBesides
import Derived.BigQuiet
import Derived.LoopN
namespace Go.Proofs.Ytabclpffjpcejaa
open Go.RowKit Go.Maps
set_option linter.unusedVariables false
set_option maxRecDepth 100000

/-- What a net holds: numbers, addresses, bytes. -/
def absN (L : List Cn) : List (Nat × Int × Bs) := L.map fun c => (c.id, c.addr, c.b)
/-- Behind a call: what the net holds now; what it has written. -/
def AftN (p m N last : Nat) (L : List Cn) (X : List Cn → Prop) (w w' : World) : Prop :=
  ∃ L', X L' ∧ NetS p m N last L' w' ∧ Mod (FootN p m L) w w' ∧ ∀ k, FootN p m L' k → FootN p m L k ∨ w.heap.size ≤ k
theorem foot_sub {p m : Nat} {L L' : List Cn} (h : ∀ c ∈ L', c ∈ L) {k : Nat} (hk : FootN p m L' k) : FootN p m L k := by
  rcases hk with e | e | ⟨c, hc, e⟩
  · exact .inl e
  · exact .inr (.inl e)
  · exact .inr (.inr ⟨c, h c hc, e⟩)
section
variable {p m N last : Nat} {L : List Cn}
theorem NewN_any (w : World) : Calls Try.prog 12 #[] w fun e w' => e = .returned (.pointer (some ⟨w.heap.size + 1, 0, none⟩)) ∧ NetS (w.heap.size + 1) w.heap.size 0 0 [] w' ∧ Below w.heap.size w w' ∧ w'.heap.size = w.heap.size + 2 := by
  obtain ⟨W, hW⟩ : ∃ W, W = (w.alloc (.map #[] 0)).alloc (.cells #[.map (some w.heap.size), .int .i64 0] 51) := ⟨_, rfl⟩
  have hm := World.ownsMap_made w Try.prog 3 ptrN
  have t : NetS (w.heap.size + 1) w.heap.size 0 0 [] W := by
    rw [hW]
    refine ⟨(fun c hc => by cases hc), (fun c hc => by cases hc), row_new _ (by simp), ⟨_, hm.alloc _, fun a => ?_, fun a => ?_⟩, (fun c hc => by cases hc), (fun c hc => by cases hc), (fun c hc => by cases hc)⟩
    · simp [DataW.atKey, keyDN, fnd]
    · simp [Maps.has, fnd]
  have b : Below w.heap.size w W := by rw [hW]; exact Below.alloc (Below.alloc (Below.refl _ _) (Nat.le_refl _) _) (by simp) _
  have z : W.heap.size = w.heap.size + 2 := by rw [hW]; simp
  have HW := Lib.hid hW
  have HZ := Lib.hid z
  have hmm := @run_makeMap Try.prog
  clear hm hW z
  go_enter Try.func12, Try.ntmps12
  go_wp2_with fail
  rw [← HW.out]
  go_ret
  exact ⟨rfl, t, b, HZ.out⟩
theorem made_n (w : World) (h : NetS p m N last L w) : Calls Try.prog 37 #[.pointer (some ⟨p, 0, none⟩)] w fun e w' => e = .returned (.bool true) ∧ w' = w := by
  have c0 := h.cells.1
  have hm := run_neq_map_nil (P := Try.prog) w 49 3 82 (some m) Try.underlying49
  clear h
  go_enter Try.func37, Try.ntmps37
  go_wp2_with fail
  go_ret
  exact ⟨rfl, rfl⟩
theorem find_yes (w : World) (h : NetS p m N last L w) (a : Int) (ha : I64n a) {c : Cn} (hf : fnd L a = some c) : Calls Try.prog 38 #[.pointer (some ⟨p, 0, none⟩), .int .i64 a] w fun e w' => e = .returned (.tuple #[.pointer (some ⟨c.g, 0, none⟩), .int .i64 0]) ∧ w' = w := by
  have c0 := h.cells.1
  have l1 := h.look a ha
  have C := Lib.hid (made_n w h)
  unfold ptrOfN at l1
  rw [hf] at l1
  dsimp only at l1
  clear h hf
  go_enter Try.func38, Try.ntmps38
  go_wp2_with fail
  refine C.out.mono ?_
  rintro e w1 ⟨rfl, rfl⟩
  go_wp2_with fail
  go_ret2
  exact ⟨rfl, rfl⟩
theorem find_no (w : World) (h : NetS p m N last L w) (a : Int) (ha : I64n a) (hf : fnd L a = none) : Calls Try.prog 38 #[.pointer (some ⟨p, 0, none⟩), .int .i64 a] w fun e w' => e = .returned (.tuple #[.pointer none, .int .i64 150]) ∧ w' = w := by
  have c0 := h.cells.1
  have l1 := h.look a ha
  have C := Lib.hid (made_n w h)
  unfold ptrOfN at l1
  rw [hf] at l1
  dsimp only at l1
  clear h hf
  go_enter Try.func38, Try.ntmps38
  go_wp2_with fail
  refine C.out.mono ?_
  rintro e w1 ⟨rfl, rfl⟩
  go_wp2_with fail
  go_ret2
  exact ⟨rfl, rfl⟩
theorem Addr_yes (w : World) (h : NetS p m N last L w) (a : Int) (ha : I64n a) {c : Cn} (hf : fnd L a = some c) : Calls Try.prog 22 #[.pointer (some ⟨p, 0, none⟩), .int .i64 a] w fun e w' => e = .returned (.tuple #[.int .i64 c.addr, .bool true]) ∧ w' = w := by
  have C := Lib.hid (find_yes w h a ha hf)
  have d0 := (h.ccells (fnd_some hf).1).1
  clear h hf
  go_enter Try.func22, Try.ntmps22
  go_wp2_with fail
  refine C.out.mono ?_
  rintro e w1 ⟨rfl, rfl⟩
  go_wp2_with fail
  go_ret2
  exact ⟨rfl, rfl⟩
theorem Addr_no (w : World) (h : NetS p m N last L w) (a : Int) (ha : I64n a) (hf : fnd L a = none) : Calls Try.prog 22 #[.pointer (some ⟨p, 0, none⟩), .int .i64 a] w fun e w' => e = .returned (.tuple #[.int .i64 0, .bool false]) ∧ w' = w := by
  have C := Lib.hid (find_no w h a ha hf)
  clear h hf
  go_enter Try.func22, Try.ntmps22
  go_wp2_with fail
  refine C.out.mono ?_
  rintro e w1 ⟨rfl, rfl⟩
  go_wp2_with fail
  go_ret2
  exact ⟨rfl, rfl⟩
theorem Dial_no (w : World) (h : NetS p m N last L w) (a : Int) (ha : I64n a) (hr : a < 0 ∨ 4294967295 < a) : Calls Try.prog 13 #[.pointer (some ⟨p, 0, none⟩), .int .i64 a] w fun e w' => e = .returned (.tuple #[.int .i64 0, .int .i64 1]) ∧ w' = w := by
  have C := Lib.hid (made_n w h)
  have hw : (4294967295 : Int) < IntKind.u64.wrap a := by
    have : IntKind.u64.wrap a = a % 18446744073709551616 := rfl
    unfold I64n at ha
    rw [this]; omega
  clear h ha hr
  go_enter Try.func13, Try.ntmps13
  go_wp2_with fail
  refine C.out.mono ?_
  rintro e w1 ⟨rfl, rfl⟩
  go_wp2_with fail
  go_ret2
  exact ⟨rfl, rfl⟩
set_option maxHeartbeats 1000000 in
theorem Dial_yes (w : World) (h : NetS p m N last L w) (hN : N < 1000000000) (hla : last < 1000000000) (a : Nat) (ha : a ≤ 4294967295) :
    Calls Try.prog 13 #[.pointer (some ⟨p, 0, none⟩), .int .i64 a] w fun e w' => e = .returned (.tuple #[.int .i64 (last + 1 : Nat), .int .i64 0]) ∧ AftN p m (N + 1) (last + 1) L (fun L' => ∃ g, L' = L ++ [⟨last + 1, a, g, .slice none 0 0, []⟩]) w w' := by
  have C := Lib.hid (made_n w h)
  have hw : IntKind.u64.wrap (a : Int) = (a : Int) := by
    have : IntKind.u64.wrap (a : Int) = (a : Int) % 18446744073709551616 := rfl
    rw [this]; omega
  have c1 := h.cells.2
  have z1 := h.thaw 1
  obtain ⟨w1, hw1⟩ : ∃ w1, w1 = w.setCell ⟨p, 1, none⟩ (.int .i64 (last + 1 : Nat)) := ⟨_, rfl⟩
  have h1 : NetS p m N (last + 1) L w1 := by rw [hw1]; exact h.onLast _ (by omega)
  have h2 : NetS p m N (last + 1) L w1.drew := h1.below (Below.drew (Below.refl _ _))
  have h3 : NetS p m N (last + 1) L (w1.alloc (.cells #[.int .i64 a, .slice none 0 0] 84)).drew := h1.below (Below.drew (Below.alloc (Below.refl _ _) (Nat.le_refl _) _))
  have r3 : (w1.alloc (.cells #[.int .i64 a, .slice none 0 0] 84)).drew.heap[w1.heap.size]? = some (.cells #[.int .i64 a, .slice none 0 0] 84 (0, 0)) := row_new _ rfl
  have hlt : ∀ c ∈ L, c.g < w1.heap.size := fun c hc => h1.lt (.inr (.inr ⟨c, hc, .inl rfl⟩))
  obtain ⟨w4, hrun, hg4, h4⟩ := h3.onNew (x := ⟨last + 1, a, w1.heap.size, .slice none 0 0, []⟩) (fun c hc e => by have := h.le c hc; simp at e; omega) (Nat.le_refl _) (by unfold I64n; simp only; omega) (by unfold maxLen; omega) r3 (World.ownsRow_nil _ _ _ _) (fun c hc e => by have := hlt c hc; simp at e; omega) (fun c hc k e => by simp [Value.ownBlock] at e)
  have a1 := h1.cells
  have a2 := h2.cells
  have a3 := h3.cells
  have a4 := (h4.cells).2
  have hm1 : Mod (FootN p m L) w w1 := by
    rw [hw1]
    exact ⟨rfl, rfl, rfl, by simp, fun i _ hn => Below.heap_setCell _ _ _ _ (fun e => hn (.inl e))⟩
  have hm4 : Mod (FootN p m L) w w4 := ((hm1.then (Below.drew (Below.alloc (Below.refl _ _) (Nat.le_refl _) _))).trans (Mod.grown (S := FootN p m L) hg4 (fun k e => by injection e with e; exact .inr (.inl e.symm))) (fun i e => .inl e))
  have AF : Hid (AftN p m (N + 1) (last + 1) L (fun L' => ∃ g, L' = L ++ [⟨last + 1, a, g, .slice none 0 0, []⟩]) w w4) := Lib.hid ⟨_, ⟨_, rfl⟩, h4, hm4, fun k hk => by
    rcases hk with e | e | ⟨c, hc, e⟩
    · exact .inl (.inl e)
    · exact .inl (.inr (.inl e))
    · rw [List.mem_append, List.mem_singleton] at hc
      rcases hc with hc | rfl
      · exact .inl (.inr (.inr ⟨c, hc, e⟩))
      · rcases e with e | e
        · have := hm1.size; exact .inr (by simp at e; omega)
        · simp [Value.ownBlock] at e⟩
  have HW1 := Lib.hid hw1
  have hal : (a : Int) ≤ 4294967295 := by omega
  have hcast : ((last + 1 : Nat) : Int) = (last : Int) + 1 := by omega
  rw [hcast] at a1 a2 a3 a4 hrun
  have HW2 : Hid (w1 = w.setCell ⟨p, 1, none⟩ (.int .i64 ((last : Int) + 1))) := Lib.hid (by rw [hw1, hcast])
  clear h h1 h2 h3 r3 hlt hg4 h4 hm1 hm4 hw1
  rw [hcast]
  go_enter Try.func13, Try.ntmps13
  go_wp2_with fail
  refine C.out.mono ?_
  rintro e w5 ⟨rfl, rfl⟩
  go_wp2_with fail
  rw [← HW2.out]
  go_region
  all_goals (go_wp2_with fail; go_ret2; exact ⟨rfl, AF.out⟩)
end
end Go.Proofs.Ytabclpffjpcejaa
