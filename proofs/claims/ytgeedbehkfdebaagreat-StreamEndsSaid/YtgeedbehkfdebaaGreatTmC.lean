/-
  Streams: Refuse, Reply, Feed, Ended at the end.
-/
import Derived.Test.YtgeedbehkfdebaaGreatTmB
namespace Go.Proofs.YtgeedbehkfdebaaGreat
open Go.RowKit
set_option linter.unusedVariables false
set_option maxRecDepth 100000

theorem SRow.on {w w1 : World} {g : Nat} {T : TypeId} {v : Value} {e : Bool} (h : SRow w g T v e) (k : Below w.heap.size w w1) : SRow w1 g T v e := (k.block g (Array.getElem?_eq_some_iff.1 h).1).trans h
set_option maxHeartbeats 1000000 in
theorem refuseS_over (g : Nat) (e : Bool) (w : World) (h : SRow w g 100 (.agg #[]) e) : Calls Tryz.prog 15 #[.pointer (some ⟨g, 0, none⟩)] w fun r w' => r = .returned (.slice none 0 0) ∧ w.grownBy w' (some g) ∧ SRow w' g 100 (.agg #[]) true := by
  have c0 := (cell_of_row _ g 0 _ _ _ h).trans rfl
  have M := Lib.hid (madeS_any g _ _ e w h)
  have E := Lib.hid (fun (w1 : World) (k : Below w.heap.size w w1) => endS_any g _ _ e w1 (h.on k))
  clear h
  go_enter Tryz.func15, Tryz.ntmps15
  go_wp2_with fail
  refine M.out.mono ?_
  rintro r w1 ⟨rfl, rfl⟩
  go_wp2_with fail
  refine (overRefuse_any _).mono ?_
  rintro r w2 ⟨rfl, k2⟩
  have K2 := Lib.hid k2
  clear k2
  go_wp2_with fail
  refine (E.out w2 K2.out).mono ?_
  rintro r w3 ⟨rfl, g3, r3⟩
  have HF := Lib.hid (And.intro (grown_trans (grown_of_below K2.out (some g)) g3 (fun k hk => .inl hk)) r3)
  clear g3 r3
  go_wp2_with fail
  go_ret
  exact ⟨rfl, HF.out.1, HF.out.2⟩
set_option maxHeartbeats 1000000 in
theorem replyS_over (g : Nat) (e : Bool) (x : Value) (w : World) (h : SRow w g 100 (.agg #[]) e) : Calls Tryz.prog 12 #[.pointer (some ⟨g, 0, none⟩), x] w fun r w' => r = .returned (.tuple #[.slice none 0 0, .int .i64 1]) ∧ Below w.heap.size w w' := by
  have c0 := (cell_of_row _ g 0 _ _ _ h).trans rfl
  have M := Lib.hid (madeS_any g _ _ e w h)
  clear h
  go_enter Tryz.func12, Tryz.ntmps12
  go_wp2_with fail
  refine M.out.mono ?_
  rintro r w1 ⟨rfl, rfl⟩
  go_wp2_with fail
  refine (overReply_any _ _).mono ?_
  rintro r w2 ⟨rfl, k2⟩
  have K2 := Lib.hid k2
  clear k2
  go_wp2_with fail
  go_returns
  exact ⟨rfl, K2.out⟩
set_option maxHeartbeats 1000000 in
theorem feedS_over (g : Nat) (e : Bool) (x : Value) (w : World) (h : SRow w g 100 (.agg #[]) e) : Calls Tryz.prog 10 #[.pointer (some ⟨g, 0, none⟩), x] w fun r w' => r = .returned (.slice none 0 0) ∧ Below w.heap.size w w' := by
  have c0 := (cell_of_row _ g 0 _ _ _ h).trans rfl
  have M := Lib.hid (madeS_any g _ _ e w h)
  clear h
  go_enter Tryz.func10, Tryz.ntmps10
  go_wp2_with fail
  refine M.out.mono ?_
  rintro r w1 ⟨rfl, rfl⟩
  go_wp2_with fail
  refine (overFeed_any _ _).mono ?_
  rintro r w2 ⟨rfl, k2⟩
  have K2 := Lib.hid k2
  clear k2
  go_wp2_with fail
  go_ret
  exact ⟨rfl, K2.out⟩
set_option maxHeartbeats 1000000 in
theorem endedS_any (g : Nat) (T : TypeId) (v : Value) (e : Bool) (w : World) (h : SRow w g T v e) : Calls Tryz.prog 17 #[.pointer (some ⟨g, 0, none⟩)] w fun r w' => r = .returned (.bool e) ∧ w' = w := by
  have c1 := (cell_of_row _ g 1 _ _ _ h).trans rfl
  have M := Lib.hid (madeS_any g _ _ e w h)
  clear h
  go_enter Tryz.func17, Tryz.ntmps17
  go_wp2_with fail
  refine M.out.mono ?_
  rintro r w1 ⟨rfl, rfl⟩
  go_wp2_with fail
  go_ret
  exact ⟨rfl, rfl⟩
theorem framesRefuse_any (v : Value) (w : World) : Calls Tryz.prog 68 #[v] w fun e w' => e = .returned (.slice none 0 0) ∧ Below w.heap.size w w' := by
  go_enter Tryz.func68, Tryz.ntmps68
  go_wp2_with fail
  all_goals go_ret
  all_goals exact ⟨rfl, Below.alloc (Below.refl _ _) (Nat.le_refl _) _⟩
theorem requestsRefuse_any (v : Value) (w : World) : Calls Tryz.prog 76 #[v] w fun e w' => ∃ a c, e = .returned (.slice a (headR false 0 false).length c) ∧ Below w.heap.size w w' := by
  have R := Lib.hid (reply_yes 400 none [] 0 false false w (Sl.none w) (.inr ⟨rfl, rfl, rfl, rfl⟩) (IT0 w))
  have HD : Hid (∀ e w', ReplyOk w (headR false 0 false ++ []) e w' → ∃ a c, e = .returned (.tuple #[.slice a (headR false 0 false).length c, .int .i64 0]) ∧ Below w.heap.size w w') := Lib.hid (fun e w' ⟨x, he, ho, hk⟩ => by
    obtain ⟨A, c, rfl, -⟩ := ho.bysN
    exact ⟨A, c, by rw [he, List.append_nil], hk⟩)
  generalize (headR false 0 false).length = n at *
  go_enter Tryz.func76, Tryz.ntmps76
  go_wp2_with fail
  refine R.out.mono ?_
  intro e w1 hp
  obtain ⟨a, c, rfl, k⟩ := HD.out e w1 hp
  have K := Lib.hid k
  clear hp k HD R
  go_wp2_with fail
  go_ret
  exact ⟨_, _, rfl, K.out⟩
set_option maxHeartbeats 1000000 in
theorem refuseS_new (k : Int) (g : Nat) (T : TypeId) (v : Value) (w : World) (h : SRow w g T v false) (hk : (k = 1 ∧ T = 57) ∨ (k = 2 ∧ T = 58)) : Calls Tryz.prog 15 #[.pointer (some ⟨g, 0, none⟩)] w fun r w' => ∃ a n c, r = .returned (.slice a n c) ∧ (decide (0 < n) = (k == 2)) ∧ w.grownBy w' (some g) ∧ SRow w' g 100 (.agg #[]) true := by
  have c0 := (cell_of_row _ g 0 _ _ _ h).trans rfl
  have M := Lib.hid (madeS_any g _ _ false w h)
  have E := Lib.hid (fun (w1 : World) (k : Below w.heap.size w w1) => endS_any g _ _ false w1 (h.on k))
  clear h
  rcases hk with ⟨rfl, rfl⟩ | ⟨rfl, rfl⟩
  · go_enter Tryz.func15, Tryz.ntmps15
    go_wp2_with fail
    refine M.out.mono ?_
    rintro r w1 ⟨rfl, rfl⟩
    go_wp2_with fail
    refine (framesRefuse_any _ _).mono ?_
    rintro r w2 ⟨rfl, k2⟩
    have K2 := Lib.hid k2
    clear k2
    go_wp2_with fail
    refine (E.out w2 K2.out).mono ?_
    rintro r w3 ⟨rfl, g3, r3⟩
    have HF := Lib.hid (And.intro (grown_trans (grown_of_below K2.out (some g)) g3 (fun k hk => .inl hk)) r3)
    clear g3 r3
    go_wp2_with fail
    go_ret
    exact ⟨_, _, _, rfl, by decide, HF.out.1, HF.out.2⟩
  · have hl : Hid (decide (0 < (headR false 0 false).length) = ((2 : Int) == 2)) := Lib.hid (by simp [headR, lenLine, crlf]; omega)
    have RR := Lib.hid (fun W => requestsRefuse_any v W)
    generalize (headR false 0 false).length = n at *
    go_enter Tryz.func15, Tryz.ntmps15
    go_wp2_with fail
    refine M.out.mono ?_
    rintro r w1 ⟨rfl, rfl⟩
    go_wp2_with fail
    refine (RR.out _).mono ?_
    rintro r w2 ⟨a, c, rfl, k2⟩
    have K2 := Lib.hid k2
    clear k2
    go_wp2_with fail
    refine (E.out w2 K2.out).mono ?_
    rintro r w3 ⟨rfl, g3, r3⟩
    have HF := Lib.hid (And.intro (grown_trans (grown_of_below K2.out (some g)) g3 (fun k hk => .inl hk)) r3)
    clear g3 r3
    go_wp2_with fail
    go_ret
    exact ⟨_, _, _, rfl, hl.out, HF.out.1, HF.out.2⟩
end Go.Proofs.YtgeedbehkfdebaaGreat
