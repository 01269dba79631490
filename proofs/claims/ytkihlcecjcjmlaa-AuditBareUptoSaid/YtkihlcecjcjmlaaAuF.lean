/-
  The document's pairs.
-/
import Derived.Test.YtkihlcecjcjmlaaAuC
import Derived.Deep.QuietTactic
import Derived.BigQuiet
import Derived.Deep.CutBlock
import Derived.Deep.DeepCutAuto
namespace Go.Proofs.Ytkihlcecjcjmlaa
open Go.RowKit
set_option linter.unusedVariables false
set_option maxRecDepth 100000

noncomputable def loadMe (v : Value) (w : World) : Result Next := ((Instr.loadAt 29 v).run Try.prog w).andThen fun a w' => .ok (.value a) w'
theorem exec_loadMe (ev : Operand → Value) (d : Option Tmp) (x : Operand) (t : TypeId) (p : String) (f : Array Edge) (gd : Option (Nat × Bool)) (w : World) : (execOp ev { dst := d, op := .load 29 x, type := t, pos := p, after := f, guard := gd }).run Try.prog w = loadMe (ev x) w := by
  unfold execOp loadMe
  simp only [Sem.run_bind, Sem.run_pure]
theorem loadMe_mid {w1 : World} {g o : Nat} {l : List Value} (h : w1.rangeAt g o l) (hC : (Try.prog.info? 29).map (·.size) = some l.length) : loadMe (.pointer (some ⟨g, o, none⟩)) w1 = .ok (.value (.agg l.toArray)) w1 := by
  unfold loadMe
  rw [run_loadAt_mid w1 g o 29 l _ h Try.underlying29 rfl hC]
  rfl
noncomputable def storeMe (v u : Value) (w : World) : Result Next := ((Instr.storeAt 29 v u).run Try.prog w).andThen fun _ w' => .ok .skip w'
theorem exec_storeMe (ev : Operand → Value) (d : Option Tmp) (x y : Operand) (t : TypeId) (p : String) (f : Array Edge) (gd : Option (Nat × Bool)) (w : World) : (execOp ev { dst := d, op := .store 29 x y, type := t, pos := p, after := f, guard := gd }).run Try.prog w = storeMe (ev x) (ev y) w := by
  unfold execOp storeMe
  simp only [Sem.run_bind, Sem.run_pure]
theorem storeMe_row {w1 : World} {g : Nat} {C D : Array Value} (h : w1.heap[g]? = some (.cells C 29 (0, 0))) (hC : (Try.prog.info? 29).map (·.size) = some D.size) (hs : C.size = D.size) (h1 : D.all (·.oneCell') = true) : storeMe (.pointer (some ⟨g, 0, none⟩)) (.agg D) w1 = .ok .skip (w1.setRow g D) := by
  unfold storeMe
  simp only [Instr.storeAt, Instr.sureAddr, Sem.run_bind, Sem.run_pure, Result.andThen_ok, run_storeVar_row w1 g 29 29 C D h hC hs h1]
theorem eq_qu (a b : Qu) (w : World) : (Op.equalIn 10000 35 (.agg (quC a)) (.agg (quC b))).run Try.prog w = .ok (sameQ a b) w := by
  rw [show (10000 : Nat) = 9999 + 1 from rfl, run_equalIn_struct (P := Try.prog) (w := w) 9999 _ _ _ (by kernel_rfl) (by kernel_rfl)]
  have p0 : ∀ x : Qu, (part 9 (quC x) 0).run Try.prog w = .ok (.string (bs x.n)) w := fun x => by kernel_rfl
  have p1 : ∀ x : Qu, (part 3 (quC x) 1).run Try.prog w = .ok (.int .i64 x.t) w := fun x => by kernel_rfl
  have p2 : ∀ x : Qu, (part 3 (quC x) 2).run Try.prog w = .ok (.int .i64 x.c) w := fun x => by kernel_rfl
  have q (x y : Int) : (Op.equalIn 9999 3 (.int .i64 x) (.int .i64 y)).run Try.prog w = .ok (x == y) w := by
    rw [show (9999 : Nat) = 9998 + 1 from rfl, run_equalIn_int w 9998 3 .i64 .i64 x y Try.underlying3]
  have qs (x y : Bs) : (Op.equalIn 9999 9 (.string (bs x)) (.string (bs y))).run Try.prog w = .ok (x == y) w := by
    rw [show (9999 : Nat) = 9998 + 1 from rfl, run_equalIn_string w 9998 9 _ _ Try.underlying9, bs_toList, bs_toList]
  unfold Program.fieldsOf sameQ
  rw [Try.underlying35]
  by_cases h1 : (a.n == b.n) = true
  · by_cases h2 : (a.t == b.t) = true
    · by_cases h3 : (a.c == b.c) = true
      · simp [Op.eqFields, p0, p1, p2, q, qs, h1, h2, h3]
      · simp only [Bool.not_eq_true] at h3
        simp [Op.eqFields, p0, p1, p2, q, qs, h1, h2, h3]
    · simp only [Bool.not_eq_true] at h2
      simp [Op.eqFields, p0, p1, q, qs, h1, h2]
  · simp only [Bool.not_eq_true] at h1
    simp [Op.eqFields, p0, qs, h1]

noncomputable def eqlQw (v u : Value) (w : World) : Result Next := ((do eqGuard .eql 35 (.tmp 0) (.tmp 0) v u; binOp .eql 35 v u : Sem Value).run Try.prog w).andThen fun a w' => .ok (.value a) w'
theorem exec_eqlQw (ev : Operand → Value) (d : Option Tmp) (i j : Tmp) (ty t : TypeId) (p : String) (f : Array Edge) (gd : Option (Nat × Bool)) (w : World) : (execOp ev { dst := d, op := .binOp .eql 35 (.tmp i) (.tmp j) ty, type := t, pos := p, after := f, guard := gd }).run Try.prog w = eqlQw (ev (.tmp i)) (ev (.tmp j)) w := by
  unfold execOp eqlQw
  simp only [Sem.run_bind, Sem.run_pure]
  rfl
theorem eqlQw_of (a b : Qu) (w : World) : eqlQw (.agg (quL a).toArray) (.agg (quL b).toArray) w = .ok (.value (.bool (sameQ a b))) w := by
  unfold eqlQw
  have hg : (eqGuard .eql 35 (.tmp 0) (.tmp 0) (.agg (quL a).toArray) (.agg (quL b).toArray)).run Try.prog w = .ok () w := run_eqGuard_agg w .eql 35 _ _ _ _ (by kernel_rfl)
  have he := eq_qu a b w
  unfold quC at he
  simp only [Sem.run_bind, hg, run_eql_struct, he, Result.andThen_ok]
attribute [local go_sem ↓] exec_loadMe exec_storeMe exec_loadQw exec_eqlQw

def onlyQ (l m : List Qu) : Bool := match l, m with
  | [x], [y] => sameQ x y
  | _, _ => false
def pairsE (a b : Ev) : Bool := !a.rep && (a.st == b.st && (a.h.i == b.h.i && (a.h.o == b.h.o && (a.h.rd == b.h.rd && (b.h.r && (b.h.ra && onlyQ a.q b.q))))))
/-- What the two messages' own boxes hold. -/
structure TwoM (w : World) (a b : Ev) (u v : EV) (g5 g6 : Nat) (wx : World) : Prop where
  r5 : wx.heap[g5]? = some (.cells (meL a u).toArray 29 (0, 0))
  r6 : wx.heap[g6]? = some (.cells (meL b v).toArray 29 (0, 0))
  r2 : wx.heap[w.heap.size]? = some (.cells (evC a u) 31 (0, 0))
  r3 : wx.heap[w.heap.size + 1]? = some (.cells (evC b v) 31 (0, 0))
  bel : Below w.heap.size w wx

set_option maxHeartbeats 4000000 in
set_option maxRecDepth 100000 in
theorem pairs_any (a b : Ev) (u v : EV) (w : World) (ha : EvAt w a u) (hb : EvAt w b v) : Calls Try.prog 10 #[.agg (evC a u), .agg (evC b v)] w fun e w' => e = .returned (.bool (pairsE a b)) ∧ Below w.heap.size w w' := by
  have b0 : Below w.heap.size w ((w.alloc (.cells (evC a u) 31 (0, 0))).alloc (.cells (evC b v) 31 (0, 0))) := Below.alloc (Below.alloc (Below.refl _ _) (Nat.le_refl _) _) (by simp) _
  have r1 := row_old (.cells (evC b v) 31 (0, 0)) (row_new (w := w) (k := w.heap.size) (.cells (evC a u) 31 (0, 0)) rfl)
  have r2 := row_new (w := w.alloc (.cells (evC a u) 31 (0, 0))) (k := w.heap.size + 1) (.cells (evC b v) 31 (0, 0)) (by simp)
  have sz : ((w.alloc (.cells (evC a u) 31 (0, 0))).alloc (.cells (evC b v) 31 (0, 0))).heap.size = w.heap.size + 2 := by simp
  have HA := Lib.hid ha
  have HB := Lib.hid hb
  have L1 : ∀ W, Below w.heap.size w W → W.heap[w.heap.size]? = some (.cells (evC a u) 31 (0, 0)) → loadMe (.pointer (some ⟨w.heap.size, 3, none⟩)) W = .ok (.value (.agg (meL a u).toArray)) W := fun W _ h => loadMe_mid (l := meL a u) (me_range h) info_me
  have L2 : ∀ W, Below w.heap.size w W → W.heap[w.heap.size + 1]? = some (.cells (evC b v) 31 (0, 0)) → loadMe (.pointer (some ⟨w.heap.size + 1, 3, none⟩)) W = .ok (.value (.agg (meL b v).toArray)) W := fun W _ h => loadMe_mid (l := meL b v) (me_range h) info_me
  obtain ⟨W0, hW0⟩ : ∃ W0, W0 = (w.alloc (.cells (evC a u) 31 (0, 0))).alloc (.cells (evC b v) 31 (0, 0)) := ⟨_, rfl⟩
  rw [← hW0] at b0 sz r1 r2
  have k0 : Below W0.heap.size W0 W0.drew := Below.drew (Below.refl _ _)
  have k1 : Below W0.heap.size W0 (W0.alloc (.cells #[.int .i64 0, .bool false, .int .i64 0, .bool false, .bool false, .bool false, .bool false, .int .i64 0, .slice none 0 0, .slice none 0 0, .slice none 0 0, .slice none 0 0] 29 (0, 0))).drew := Below.drew (Below.alloc (Below.refl _ _) (Nat.le_refl _) _)
  have k2 : Below W0.heap.size W0 ((W0.alloc (.cells #[.int .i64 0, .bool false, .int .i64 0, .bool false, .bool false, .bool false, .bool false, .int .i64 0, .slice none 0 0, .slice none 0 0, .slice none 0 0, .slice none 0 0] 29 (0, 0))).alloc (.cells #[.int .i64 0, .bool false, .int .i64 0, .bool false, .bool false, .bool false, .bool false, .int .i64 0, .slice none 0 0, .slice none 0 0, .slice none 0 0, .slice none 0 0] 29 (0, 0))).drew := Below.drew (Below.alloc (Below.alloc (Below.refl _ _) (Nat.le_refl _) _) (by simp) _)
  have ra : (((W0.alloc (.cells #[.int .i64 0, .bool false, .int .i64 0, .bool false, .bool false, .bool false, .bool false, .int .i64 0, .slice none 0 0, .slice none 0 0, .slice none 0 0, .slice none 0 0] 29 (0, 0))).alloc (.cells #[.int .i64 0, .bool false, .int .i64 0, .bool false, .bool false, .bool false, .bool false, .int .i64 0, .slice none 0 0, .slice none 0 0, .slice none 0 0, .slice none 0 0] 29 (0, 0))).drew).heap[W0.heap.size]? = _ := row_old (.cells #[.int .i64 0, .bool false, .int .i64 0, .bool false, .bool false, .bool false, .bool false, .int .i64 0, .slice none 0 0, .slice none 0 0, .slice none 0 0, .slice none 0 0] 29 (0, 0)) (row_new (w := W0) (k := W0.heap.size) (.cells #[.int .i64 0, .bool false, .int .i64 0, .bool false, .bool false, .bool false, .bool false, .int .i64 0, .slice none 0 0, .slice none 0 0, .slice none 0 0, .slice none 0 0] 29 (0, 0)) rfl)
  have rb : (((W0.alloc (.cells #[.int .i64 0, .bool false, .int .i64 0, .bool false, .bool false, .bool false, .bool false, .int .i64 0, .slice none 0 0, .slice none 0 0, .slice none 0 0, .slice none 0 0] 29 (0, 0))).alloc (.cells #[.int .i64 0, .bool false, .int .i64 0, .bool false, .bool false, .bool false, .bool false, .int .i64 0, .slice none 0 0, .slice none 0 0, .slice none 0 0, .slice none 0 0] 29 (0, 0))).drew).heap[W0.heap.size + 1]? = _ := row_new (w := W0.alloc (.cells #[.int .i64 0, .bool false, .int .i64 0, .bool false, .bool false, .bool false, .bool false, .int .i64 0, .slice none 0 0, .slice none 0 0, .slice none 0 0, .slice none 0 0] 29 (0, 0))) (k := W0.heap.size + 1) (.cells #[.int .i64 0, .bool false, .int .i64 0, .bool false, .bool false, .bool false, .bool false, .int .i64 0, .slice none 0 0, .slice none 0 0, .slice none 0 0, .slice none 0 0] 29 (0, 0)) (by simp)
  obtain ⟨X1, hX1⟩ : ∃ X, X = (W0.alloc (.cells #[.int .i64 0, .bool false, .int .i64 0, .bool false, .bool false, .bool false, .bool false, .int .i64 0, .slice none 0 0, .slice none 0 0, .slice none 0 0, .slice none 0 0] 29 (0, 0))).drew := ⟨_, rfl⟩
  rw [← hX1] at k1
  obtain ⟨X2, hX2⟩ : ∃ X, X = ((W0.alloc (.cells #[.int .i64 0, .bool false, .int .i64 0, .bool false, .bool false, .bool false, .bool false, .int .i64 0, .slice none 0 0, .slice none 0 0, .slice none 0 0, .slice none 0 0] 29 (0, 0))).alloc (.cells #[.int .i64 0, .bool false, .int .i64 0, .bool false, .bool false, .bool false, .bool false, .int .i64 0, .slice none 0 0, .slice none 0 0, .slice none 0 0, .slice none 0 0] 29 (0, 0))).drew := ⟨_, rfl⟩
  rw [← hX2] at k2 ra rb
  have on1 : ∀ W, Below W0.heap.size W0 W → loadMe (.pointer (some ⟨w.heap.size, 3, none⟩)) W = .ok (.value (.agg (meL a u).toArray)) W := fun W h => L1 W (Below.trans b0 (h.mono (by omega))) ((h.block _ (by omega)).trans r1)
  have on2 : ∀ W, Below W0.heap.size W0 W → loadMe (.pointer (some ⟨w.heap.size + 1, 3, none⟩)) W = .ok (.value (.agg (meL b v).toArray)) W := fun W h => L2 W (Below.trans b0 (h.mono (by omega))) ((h.block _ (by omega)).trans r2)
  have A1 := on1 _ k0
  have A2 := on1 _ k1
  have A3 := on1 _ k2
  have A4 := on2 _ k0
  have A5 := on2 _ k1
  have A6 := on2 _ k2
  have s5 := storeMe_row (D := (meL a u).toArray) ra info_me rfl (by simp [meL, evL, Value.oneCell'])
  have s6 := storeMe_row (D := (meL a u).toArray) rb info_me rfl (by simp [meL, evL, Value.oneCell'])
  have k5 : Below W0.heap.size W0 (X2.setRow W0.heap.size (meL a u).toArray) := Below.setRow k2 (Nat.le_refl _) _
  have k6 : Below W0.heap.size W0 (X2.setRow (W0.heap.size + 1) (meL a u).toArray) := Below.setRow k2 (by omega) _
  have A7 := on2 _ k5
  have A8 := on2 _ k6
  have rb5 := (setRow_other X2 W0.heap.size (W0.heap.size + 1) (meL a u).toArray (by omega)).trans rb
  have ra6 := (setRow_other X2 (W0.heap.size + 1) W0.heap.size (meL a u).toArray (by omega)).trans ra
  have s7 := storeMe_row (D := (meL b v).toArray) rb5 info_me rfl (by simp [meL, evL, Value.oneCell'])
  have s8 := storeMe_row (D := (meL b v).toArray) ra6 info_me rfl (by simp [meL, evL, Value.oneCell'])
  have e5 := setRow_heap _ _ _ (meL a u).toArray _ _ ra
  have e6 := setRow_heap _ _ _ (meL a u).toArray _ _ rb
  have f5 := (setRow_other (X2.setRow W0.heap.size (meL a u).toArray) (W0.heap.size + 1) W0.heap.size (meL b v).toArray (by omega)).trans e5
  have f6 := (setRow_other (X2.setRow (W0.heap.size + 1) (meL a u).toArray) W0.heap.size (W0.heap.size + 1) (meL b v).toArray (by omega)).trans e6
  have e7 := setRow_heap _ _ _ (meL b v).toArray _ _ rb5
  have e8 := setRow_heap _ _ _ (meL b v).toArray _ _ ra6
  have k7 : Below W0.heap.size W0 ((X2.setRow W0.heap.size (meL a u).toArray).setRow (W0.heap.size + 1) (meL b v).toArray) := Below.setRow k5 (by omega) _
  have k8 : Below W0.heap.size W0 ((X2.setRow (W0.heap.size + 1) (meL a u).toArray).setRow W0.heap.size (meL b v).toArray) := Below.setRow k6 (Nat.le_refl _) _
  have T7 : Hid (TwoM w a b u v W0.heap.size (W0.heap.size + 1) ((X2.setRow W0.heap.size (meL a u).toArray).setRow (W0.heap.size + 1) (meL b v).toArray)) := Lib.hid ⟨f5, e7, (k7.block _ (by omega)).trans r1, (k7.block _ (by omega)).trans r2, Below.trans b0 (k7.mono (by omega))⟩
  have T8 : Hid (TwoM w a b u v (W0.heap.size + 1) W0.heap.size ((X2.setRow (W0.heap.size + 1) (meL a u).toArray).setRow W0.heap.size (meL b v).toArray)) := Lib.hid ⟨f6, e8, (k8.block _ (by omega)).trans r1, (k8.block _ (by omega)).trans r2, Below.trans b0 (k8.mono (by omega))⟩
  obtain ⟨S7, hS7⟩ : ∃ S, S = (X2.setRow W0.heap.size (meL a u).toArray).setRow (W0.heap.size + 1) (meL b v).toArray := ⟨_, rfl⟩
  obtain ⟨S8, hS8⟩ : ∃ S, S = (X2.setRow (W0.heap.size + 1) (meL a u).toArray).setRow W0.heap.size (meL b v).toArray := ⟨_, rfl⟩
  rw [← hS7] at s7 T7
  rw [← hS8] at s8 T8
  obtain ⟨S5, hS5⟩ : ∃ S, S = X2.setRow W0.heap.size (meL a u).toArray := ⟨_, rfl⟩
  obtain ⟨S6, hS6⟩ : ∃ S, S = X2.setRow (W0.heap.size + 1) (meL a u).toArray := ⟨_, rfl⟩
  rw [← hS5] at s5 s7 A7
  rw [← hS6] at s6 s8 A8
  clear hS5 hS6 hS7 hS8
  have HW0 := Lib.hid hW0
  clear e5 e6 f5 f6 e7 e8 k7 k8 k0 k1 k2 k5 k6 ra rb ra6 rb5 on1 on2 L1 L2 r1 r2 hW0 b0 sz ha hb
  subst hX1 hX2
  obtain ⟨M, hM⟩ : ∃ M, M = (meL a u).toArray := ⟨_, rfl⟩
  obtain ⟨N, hN⟩ : ∃ N, N = (meL b v).toArray := ⟨_, rfl⟩
  rw [← hM] at A1 A2 A3 s5 s6
  rw [← hN] at A4 A5 A6 A7 A8 s7 s8
  obtain ⟨C, hC⟩ : ∃ C, C = evC a u := ⟨_, rfl⟩
  obtain ⟨D, hD⟩ : ∃ D, D = evC b v := ⟨_, rfl⟩
  rw [← hC, ← hD] at HW0 ⊢
  clear hM hN hC hD
  go_enter Try.func10, Try.ntmps10
  go_upto_region 1 with fail
  rw [← HW0.out]
  go_cut [5, 6] (fun s5 s6 wx => ∃ g5 g6, s5 = .pointer (some ⟨g5, 0, none⟩) ∧ s6 = .pointer (some ⟨g6, 0, none⟩) ∧ Hid (TwoM w a b u v g5 g6 wx))
  case first =>
    go_region
    all_goals
      go_wp2_with fail
      go_meet
      first
        | exact ⟨_, _, rfl, rfl, T7⟩
        | exact ⟨_, _, rfl, rfl, T8⟩
  case rest =>
    obtain ⟨g5, g6, rfl, rfl, HT⟩ := hcut
    obtain ⟨c0, c1, -, -⟩ := ev_cell HT.out.r2
    obtain ⟨-, d9, -, -⟩ := ev_cell HT.out.r3
    obtain ⟨c2, -, c3, c5, -, c8⟩ := me_cell HT.out.r5
    obtain ⟨d2, d1, d3, d5, d6, d8⟩ := me_cell HT.out.r6
    clear T7 T8 A1 A2 A3 A4 A5 A6 A7 A8 s5 s6 s7 s8 HW0
    cases hrep : a.rep with
    | true =>
      rw [hrep] at c0
      have HF : Hid (pairsE a b = false) := Lib.hid (by unfold pairsE; rw [hrep]; rfl)
      clear hrep
      go_wp2_with fail
      go_ret
      exact ⟨by rw [HF.out]; rfl, HT.out.bel⟩
    | false =>
      rw [hrep] at c0
      have E0 := Lib.hid hrep
      clear hrep
      by_cases h1 : a.st = b.st
      · have q1 : (a.st != b.st) = false := by simp [h1]
        have E1 := Lib.hid h1
        clear h1
        by_cases h2 : a.h.i = b.h.i
        · have q2 : (a.h.i != b.h.i) = false := by simp [h2]
          have E2 := Lib.hid h2
          clear h2
          by_cases h3 : a.h.o = b.h.o
          · have q3 : (a.h.o != b.h.o) = false := by simp [h3]
            have E3 := Lib.hid h3
            clear h3
            by_cases h4 : a.h.rd = b.h.rd
            · rw [h4] at c5
              have E4 := Lib.hid h4
              clear h4
              cases h5 : b.h.r with
              | false =>
                rw [h5] at d1
                have HF : Hid (pairsE a b = false) := Lib.hid (by unfold pairsE; simp [h5])
                clear h5
                go_wp2_with fail
                go_ret
                exact ⟨by rw [HF.out]; rfl, HT.out.bel⟩
              | true =>
                rw [h5] at d1
                have E5 := Lib.hid h5
                clear h5
                cases h6 : b.h.ra with
                | false =>
                  rw [h6] at d6
                  have HF : Hid (pairsE a b = false) := Lib.hid (by unfold pairsE; simp [h6])
                  clear h6
                  go_wp2_with fail
                  go_ret
                  exact ⟨by rw [HF.out]; rfl, HT.out.bel⟩
                | true =>
                  rw [h6] at d6
                  have HP : Hid (pairsE a b = onlyQ a.q b.q) := Lib.hid (by unfold pairsE; rw [E0.out, E1.out, E2.out, E3.out, E4.out, E5.out, h6]; simp)
                  clear h6
                  obtain ⟨n5, hn5⟩ : ∃ n, n = a.q.length := ⟨_, rfl⟩
                  obtain ⟨n6, hn6⟩ : ∃ n, n = b.q.length := ⟨_, rfl⟩
                  rw [← hn5] at c8
                  rw [← hn6] at d8
                  have N5 := Lib.hid hn5
                  have N6 := Lib.hid hn6
                  clear hn5 hn6
                  by_cases l5 : n5 = 1
                  · have m5 : ((n5 : Int) == 1) = true := by subst l5; rfl
                    by_cases l6 : n6 = 1
                    · have m6 : ((n6 : Int) == 1) = true := by subst l6; rfl
                      obtain ⟨x, hx⟩ : ∃ q, a.q = [q] := by
                        have h2 := N5.out
                        rw [l5] at h2
                        match hq : a.q, h2 with
                        | [q], _ => exact ⟨q, rfl⟩
                      obtain ⟨y, hy⟩ : ∃ q, b.q = [q] := by
                        have h2 := N6.out
                        rw [l6] at h2
                        match hq : b.q, h2 with
                        | [q], _ => exact ⟨q, rfl⟩
                      obtain ⟨g, o, hA, hc⟩ := (HA.out.on HT.out.bel).q (by rw [hx]; simp)
                      obtain ⟨g', o', hA', hc'⟩ := (HB.out.on HT.out.bel).q (by rw [hy]; simp)
                      have R1 : wc.rangeAt g o (quL x) := by
                        have hr := hc 0 (by rw [hx]; simp)
                        have e1 : a.q[0]'(by rw [hx]; simp) = x := by simp [hx]
                        rw [e1] at hr
                        simpa using hr
                      have R2 : wc.rangeAt g' o' (quL y) := by
                        have hr := hc' 0 (by rw [hy]; simp)
                        have e1 : b.q[0]'(by rw [hy]; simp) = y := by simp [hy]
                        rw [e1] at hr
                        simpa using hr
                      have F1 := fun m => loadQw_mid (w1 := wc.drewN m) (l := quL x) (g := g) (o := o) R1 info_qu
                      have F2 := fun m => loadQw_mid (w1 := wc.drewN m) (l := quL y) (g := g') (o := o') R2 info_qu
                      have F3 := fun w => eqlQw_of x y w
                      have HF : Hid (pairsE a b = sameQ x y) := Lib.hid (by rw [HP.out, hx, hy]; rfl)
                      rw [hA] at c8
                      rw [hA'] at d8
                      subst l5 l6
                      clear hx hy hA hA' hc hc' R1 R2 HP N5 N6 HA HB
                      generalize sameQ x y = z at *
                      generalize quL x = l1 at *
                      generalize quL y = l2 at *
                      go_wp2_with fail
                      go_quiet (fail)
                      go_wp2_with fail
                      go_ret
                      exact ⟨by rw [HF.out]; rfl, below_drewN HT.out.bel _⟩
                    · have m6 : ((n6 : Int) == 1) = false := by rw [beq_eq_false_iff_ne]; omega
                      have HF : Hid (pairsE a b = false) := Lib.hid (by
                        rw [HP.out]
                        unfold onlyQ
                        split
                        · rename_i e; have := N6.out; rw [e] at this; exact absurd this l6
                        · rfl)
                      subst l5
                      clear HP
                      go_wp2_with fail
                      go_quiet (fail)
                      go_wp2_with fail
                      go_ret
                      exact ⟨by rw [HF.out]; rfl, below_drewN HT.out.bel _⟩
                  · have m5 : ((n5 : Int) == 1) = false := by rw [beq_eq_false_iff_ne]; omega
                    have HF : Hid (pairsE a b = false) := Lib.hid (by
                      rw [HP.out]
                      unfold onlyQ
                      split
                      · rename_i e _; have := N5.out; rw [e] at this; exact absurd this l5
                      · rfl)
                    clear HP
                    go_wp2_with fail
                    go_quiet (fail)
                    go_wp2_with fail
                    go_ret
                    exact ⟨by rw [HF.out]; rfl, below_drewN HT.out.bel _⟩
            · have q4 : a.h.rd = !b.h.rd := by cases hx : a.h.rd <;> cases hy : b.h.rd <;> simp_all
              rw [q4] at c5
              have HF : Hid (pairsE a b = false) := Lib.hid (by unfold pairsE; simp [h4])
              clear h4 q4
              go_wp2_with fail
              go_ret
              exact ⟨by rw [HF.out]; rfl, HT.out.bel⟩
          · have q3 : (a.h.o != b.h.o) = true := by simp [h3]
            have HF : Hid (pairsE a b = false) := Lib.hid (by unfold pairsE; simp [h3])
            clear h3
            go_wp2_with fail
            go_ret
            exact ⟨by rw [HF.out]; rfl, HT.out.bel⟩
        · have q2 : (a.h.i != b.h.i) = true := by simp [h2]
          have HF : Hid (pairsE a b = false) := Lib.hid (by unfold pairsE; simp [h2])
          clear h2
          go_wp2_with fail
          go_ret
          exact ⟨by rw [HF.out]; rfl, HT.out.bel⟩
      · have q1 : (a.st != b.st) = true := by simp [h1]
        have HF : Hid (pairsE a b = false) := Lib.hid (by unfold pairsE; simp [h1])
        clear h1
        go_wp2_with fail
        go_ret
        exact ⟨by rw [HF.out]; rfl, HT.out.bel⟩
end Go.Proofs.Ytkihlcecjcjmlaa
