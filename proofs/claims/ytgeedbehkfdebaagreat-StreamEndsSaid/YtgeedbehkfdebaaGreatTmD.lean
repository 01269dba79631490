/-
  The walk of StreamEnds.
-/
import Derived.Test.YtgeedbehkfdebaaGreatTmC
namespace Go.Proofs.YtgeedbehkfdebaaGreat
open Go.RowKit
set_option linter.unusedVariables false
set_option maxRecDepth 100000

theorem SRow.grow {w w1 : World} {g : Nat} {T : TypeId} {v : Value} {e : Bool} (h : SRow w g T v e) (k : Below w.heap.size w w1) : SRow w1 g T v e := h.on k
set_option maxHeartbeats 4000000 in
set_option maxRecDepth 100000 in
theorem StreamEnds_any (kind : Int) (A : Option Addr) (n c : Nat) (w : World) : Calls Tryz.prog 4 #[.int .i64 kind, .slice A n c] w fun e w' => e = .returned (.bool true) ∧ Below w.heap.size w w' := by
  obtain ⟨q, r1, r2, r3, r4, r5⟩ := rem_u64 kind 2 (by omega) (by omega)
  have hk : q = 0 ∨ q = 1 := by omega
  clear r2 r3 r4 r5
  rcases hk with rfl | rfl
  · have R1 : Int.tmod (IntKind.u64.wrap kind) 2 = 0 := r1
    clear r1
    have N := Lib.hid (fun W => newS_end (1 : Int) (by omega) W)
    have NP : Hid (∀ w e w', NewSP w (1 : Int) e w' → Below w.heap.size w w' ∧ ∃ g T v, e = .returned (.tuple #[.pointer (some ⟨g, 0, none⟩), .int .i64 0]) ∧ w.heap.size ≤ g ∧ SRow w' g T v false ∧ (((1 : Int) = 1 ∧ T = 57) ∨ ((1 : Int) = 2 ∧ T = 58))) := Lib.hid (fun _ _ _ h => h)
    have KW := Lib.hid (Below.alloc (Below.refl w.heap.size w) (Nat.le_refl _) (.cells #[.int .i64 1, .int .i64 2] 3))
    go_enter Tryz.func4, Tryz.ntmps4
    go_wp2_with fail
    refine (N.out _).mono ?_
    intro e w1 hp
    obtain ⟨k1, g, T, v, rfl, hg, sr, hT⟩ := NP.out _ e w1 hp
    have K1 := Lib.hid (KW.out.trans (k1.mono (by simp)))
    have hg1 : w.heap.size ≤ g := by simp at hg; omega
    have HG := Lib.hid hg1
    have S1 := Lib.hid sr
    have RF := Lib.hid (refuseS_new (1 : Int) g T v w1 sr (by simpa using hT))
    have ED := Lib.hid (endedS_any g T v false w1 sr)
    clear hp hT k1 hg hg1 sr N NP KW
    go_wp2_with fail
    refine ED.out.mono ?_
    rintro e w2 ⟨rfl, rfl⟩
    go_wp2_with fail
    refine RF.out.mono ?_
    rintro e w3 ⟨a, m, c', rfl, hm, g3, sr3⟩
    have K3 := Lib.hid (K1.out.grown g3 K1.out.size (fun k hk => by injection hk with hk; rw [← hk]; exact HG.out))
    have HM : decide (0 < m) = false := by rw [hm]; rfl
    have RP := Lib.hid (replyS_over g true (.slice A n c) w3 sr3)
    have S3 := Lib.hid sr3
    clear g3 sr3 RF ED S1 hm
    go_wp2_with fail
    refine RP.out.mono ?_
    rintro e w4 ⟨rfl, k4⟩
    have S4 := Lib.hid (S3.out.on k4)
    have K4 := Lib.hid (K3.out.trans (k4.mono K3.out.size))
    have ED := Lib.hid (endedS_any g _ _ true w4 S4.out)
    have FD := Lib.hid (feedS_over g true (.slice A n c) w4 S4.out)
    clear k4 RP S3 K3
    go_wp2_with fail
    refine ED.out.mono ?_
    rintro e w5 ⟨rfl, rfl⟩
    go_wp2_with fail
    refine FD.out.mono ?_
    rintro e w6 ⟨rfl, k6⟩
    have S6 := Lib.hid (S4.out.on k6)
    have K6 := Lib.hid (K4.out.trans (k6.mono K4.out.size))
    have RF := Lib.hid (refuseS_over g true w6 S6.out)
    clear k6 FD ED S4 K4
    go_wp2_with fail
    refine RF.out.mono ?_
    rintro e w7 ⟨rfl, g7, -⟩
    have K7 := Lib.hid (K6.out.grown g7 K6.out.size (fun k hk => by injection hk with hk; rw [← hk]; exact HG.out))
    clear g7 RF
    go_wp2_with fail
    go_ret
    exact ⟨rfl, K7.out⟩
  · have R1 : Int.tmod (IntKind.u64.wrap kind) 2 = 1 := r1
    clear r1
    have N := Lib.hid (fun W => newS_end (2 : Int) (by omega) W)
    have NP : Hid (∀ w e w', NewSP w (2 : Int) e w' → Below w.heap.size w w' ∧ ∃ g T v, e = .returned (.tuple #[.pointer (some ⟨g, 0, none⟩), .int .i64 0]) ∧ w.heap.size ≤ g ∧ SRow w' g T v false ∧ (((2 : Int) = 1 ∧ T = 57) ∨ ((2 : Int) = 2 ∧ T = 58))) := Lib.hid (fun _ _ _ h => h)
    have KW := Lib.hid (Below.alloc (Below.refl w.heap.size w) (Nat.le_refl _) (.cells #[.int .i64 1, .int .i64 2] 3))
    go_enter Tryz.func4, Tryz.ntmps4
    go_wp2_with fail
    refine (N.out _).mono ?_
    intro e w1 hp
    obtain ⟨k1, g, T, v, rfl, hg, sr, hT⟩ := NP.out _ e w1 hp
    have K1 := Lib.hid (KW.out.trans (k1.mono (by simp)))
    have hg1 : w.heap.size ≤ g := by simp at hg; omega
    have HG := Lib.hid hg1
    have S1 := Lib.hid sr
    have RF := Lib.hid (refuseS_new (2 : Int) g T v w1 sr (by simpa using hT))
    have ED := Lib.hid (endedS_any g T v false w1 sr)
    clear hp hT k1 hg hg1 sr N NP KW
    go_wp2_with fail
    refine ED.out.mono ?_
    rintro e w2 ⟨rfl, rfl⟩
    go_wp2_with fail
    refine RF.out.mono ?_
    rintro e w3 ⟨a, m, c', rfl, hm, g3, sr3⟩
    have K3 := Lib.hid (K1.out.grown g3 K1.out.size (fun k hk => by injection hk with hk; rw [← hk]; exact HG.out))
    have HM : decide (0 < m) = true := by rw [hm]; rfl
    have RP := Lib.hid (replyS_over g true (.slice A n c) w3 sr3)
    have S3 := Lib.hid sr3
    clear g3 sr3 RF ED S1 hm
    go_wp2_with fail
    refine RP.out.mono ?_
    rintro e w4 ⟨rfl, k4⟩
    have S4 := Lib.hid (S3.out.on k4)
    have K4 := Lib.hid (K3.out.trans (k4.mono K3.out.size))
    have ED := Lib.hid (endedS_any g _ _ true w4 S4.out)
    have FD := Lib.hid (feedS_over g true (.slice A n c) w4 S4.out)
    clear k4 RP S3 K3
    go_wp2_with fail
    refine ED.out.mono ?_
    rintro e w5 ⟨rfl, rfl⟩
    go_wp2_with fail
    refine FD.out.mono ?_
    rintro e w6 ⟨rfl, k6⟩
    have S6 := Lib.hid (S4.out.on k6)
    have K6 := Lib.hid (K4.out.trans (k6.mono K4.out.size))
    have RF := Lib.hid (refuseS_over g true w6 S6.out)
    clear k6 FD ED S4 K4
    go_wp2_with fail
    refine RF.out.mono ?_
    rintro e w7 ⟨rfl, g7, -⟩
    have K7 := Lib.hid (K6.out.grown g7 K6.out.size (fun k hk => by injection hk with hk; rw [← hk]; exact HG.out))
    clear g7 RF
    go_wp2_with fail
    go_ret
    exact ⟨rfl, K7.out⟩
end Go.Proofs.YtgeedbehkfdebaaGreat
