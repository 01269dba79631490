/-
  Lists of questions the same: slices.Equal.
-/
import Derived.Test.YtgfahkgnblkhaaaDoorWmC
import Derived.Deep.QuietTactic
namespace Go.Proofs.YtgfahkgnblkhaaaDoor
open Go.RowKit
set_option linter.unusedVariables false
set_option maxRecDepth 100000

theorem eq_qu (a b : Qu) (w : World) : (Op.equalIn 10000 40 (.agg (quC a)) (.agg (quC b))).run Tryd.prog w = .ok (sameQ a b) w := by
  rw [show (10000 : Nat) = 9999 + 1 from rfl, run_equalIn_struct (P := Tryd.prog) (w := w) 9999 _ _ _ (by kernel_rfl) (by kernel_rfl)]
  have p0 : ∀ x : Qu, (part 9 (quC x) 0).run Tryd.prog w = .ok (.string (bs x.n)) w := fun x => by kernel_rfl
  have p1 : ∀ x : Qu, (part 3 (quC x) 1).run Tryd.prog w = .ok (.int .i64 x.t) w := fun x => by kernel_rfl
  have p2 : ∀ x : Qu, (part 3 (quC x) 2).run Tryd.prog w = .ok (.int .i64 x.c) w := fun x => by kernel_rfl
  have q (x y : Int) : (Op.equalIn 9999 3 (.int .i64 x) (.int .i64 y)).run Tryd.prog w = .ok (x == y) w := by
    rw [show (9999 : Nat) = 9998 + 1 from rfl, run_equalIn_int w 9998 3 .i64 .i64 x y Tryd.underlying3]
  have qs (x y : Bs) : (Op.equalIn 9999 9 (.string (bs x)) (.string (bs y))).run Tryd.prog w = .ok (x == y) w := by
    rw [show (9999 : Nat) = 9998 + 1 from rfl, run_equalIn_string w 9998 9 _ _ Tryd.underlying9, bs_toList, bs_toList]
  unfold Program.fieldsOf sameQ
  rw [Tryd.underlying40]
  by_cases h1 : (a.n == b.n) = true
  · by_cases h2 : (a.t == b.t) = true
    · by_cases h3 : (a.c == b.c) = true
      · simp [Op.eqFields, p0, p1, p2, q, qs, h1, h2, h3]
      · simp only [Bool.not_eq_true] at h3
        simp [Op.eqFields, p0, p1, p2, q, qs, h1, h2, h3]
    · simp only [Bool.not_eq_true] at h2
      simp [Op.eqFields, p0, p1, q, qs, h1, h2]
  · simp only [Bool.not_eq_true] at h1
    simp [Op.eqFields, p0, qs, h1]

/-- A question loaded whole; two questions held against each other: the walk does not open them. -/
noncomputable def loadQu (v : Value) (w : World) : Result Next := ((Instr.loadAt 40 v).run Tryd.prog w).andThen fun a w' => .ok (.value a) w'
theorem exec_loadQu (ev : Operand → Value) (d : Option Tmp) (x : Operand) (t : TypeId) (p : String) (f : Array Edge) (gd : Option (Nat × Bool)) (w : World) : (execOp ev { dst := d, op := .load 40 x, type := t, pos := p, after := f, guard := gd }).run Tryd.prog w = loadQu (ev x) w := by
  unfold execOp loadQu
  simp only [Sem.run_bind, Sem.run_pure]
theorem loadQu_mid {w1 : World} {g o : Nat} {l : List Value} (h : w1.rangeAt g o l) (hC : (Tryd.prog.info? 40).map (·.size) = some l.length) : loadQu (.pointer (some ⟨g, o, none⟩)) w1 = .ok (.value (.agg l.toArray)) w1 := by
  unfold loadQu
  rw [run_loadAt_mid w1 g o 40 l _ h Tryd.underlying40 rfl hC]
  rfl
noncomputable def neqQu (v u : Value) (w : World) : Result Next := ((do eqGuard .neq 40 (.tmp 0) (.tmp 0) v u; binOp .neq 40 v u : Sem Value).run Tryd.prog w).andThen fun a w' => .ok (.value a) w'
theorem exec_neqQu (ev : Operand → Value) (d : Option Tmp) (i j : Tmp) (ty t : TypeId) (p : String) (f : Array Edge) (gd : Option (Nat × Bool)) (w : World) : (execOp ev { dst := d, op := .binOp .neq 40 (.tmp i) (.tmp j) ty, type := t, pos := p, after := f, guard := gd }).run Tryd.prog w = neqQu (ev (.tmp i)) (ev (.tmp j)) w := by
  unfold execOp neqQu
  simp only [Sem.run_bind, Sem.run_pure]
  rfl
theorem neqQu_of (a b : Qu) (w : World) : neqQu (.agg (quL a).toArray) (.agg (quL b).toArray) w = .ok (.value (.bool (!sameQ a b))) w := by
  unfold neqQu
  have hg : (eqGuard .neq 40 (.tmp 0) (.tmp 0) (.agg (quL a).toArray) (.agg (quL b).toArray)).run Tryd.prog w = .ok () w := run_eqGuard_agg w .neq 40 _ _ _ _ (by kernel_rfl)
  have he := eq_qu a b w
  unfold quC at he
  simp only [Sem.run_bind, hg, run_neq_struct, he, Result.andThen_ok]
attribute [local go_sem ↓] exec_loadQu exec_neqQu

set_option maxHeartbeats 1000000 in
set_option maxRecDepth 100000 in
theorem EqualQ_any (A1 A2 : Option Addr) (L1 L2 : List Qu) (c1 c2 : Nat) (w : World) (h1 : Qs w A1 L1) (h2 : Qs w A2 L2) (hm : L1.length ≤ 9223372036854775807) :
    Calls Tryd.prog 41 #[.slice A1 L1.length c1, .slice A2 L2.length c2] w fun e w' => e = .returned (.bool (sameL sameQ L1 L2)) ∧ Below w.heap.size w w' := by
  by_cases hne : L1.length = L2.length
  · have HT : Hid (sameL sameQ L1 L2 = sameL sameQ (L1.drop 0) (L2.drop 0)) := Lib.hid rfl
    obtain ⟨n, hn⟩ : ∃ n, n = L1.length := ⟨_, rfl⟩
    rw [← hne, ← hn]
    rw [← hn] at hm
    have E1 := Lib.hid hn
    have E2 := Lib.hid (hn.trans hne)
    clear hn hne
    go_enter Tryd.func41, Tryd.ntmps41
    go_wp2_with fail
    go_loopw [13] (fun v wr => ∃ k : Nat, v = .int .i64 k ∧ k ≤ n ∧ Below w.heap.size w wr ∧ Hid (sameL sameQ L1 L2 = sameL sameQ (L1.drop k) (L2.drop k))) (fun v _ => n - (intOf v).toNat)
    case atStart => exact ⟨0, rfl, by omega, Below.refl _ _, HT⟩
    case round =>
      clear HT
      obtain ⟨k, rfl, hk, hB, hT⟩ := hrel
      by_cases hlt : k < n
      · have e1 := E1.out
        have e2 := E2.out
        obtain ⟨g1, o1, rfl, hc1⟩ := id h1 (by omega)
        obtain ⟨g2, o2, rfl, hc2⟩ := id h2 (by omega)
        have k1 : k < L1.length := by omega
        have k2 : k < L2.length := by omega
        have R1 := range_on (hc1 k k1) hB
        have R2 := range_on (hc2 k k2) hB
        have hT2 := hT.out
        rw [sameL_at k1 k2] at hT2
        have hlt' : (k : Int) < (n : Int) := by omega
        obtain ⟨x1, hx1⟩ : ∃ x, x = L1[k] := ⟨_, rfl⟩
        obtain ⟨x2, hx2⟩ : ∃ x, x = L2[k] := ⟨_, rfl⟩
        rw [← hx1] at R1 hT2
        rw [← hx2] at R2 hT2
        have HT := Lib.hid hT2
        have F1 := fun m => loadQu_mid (w1 := wr.drewN m) (l := quL x1) (g := g1) (o := o1 + k * 3) R1 info_qu
        have F2 := fun m => loadQu_mid (w1 := wr.drewN m) (l := quL x2) (g := g2) (o := o2 + k * 3) R2 info_qu
        have F3 := fun w => neqQu_of x1 x2 w
        clear hx1 hx2 hT hT2 hc1 hc2 k1 k2 e1 e2 R1 R2 h1 h2
        generalize sameQ x1 x2 = s at *
        generalize quL x1 = l1 at *
        generalize quL x2 = l2 at *
        cases s with
        | true =>
          have HT2 := Lib.hid (show sameL sameQ L1 L2 = sameL sameQ (L1.drop (k + 1)) (L2.drop (k + 1)) by rw [HT.out]; rfl)
          clear HT
          go_wp2_with fail
          go_quiet (fail)
          go_wp2_with fail
          go_roundw
          case rel => exact ⟨k + 1, by go_num, by omega, below_drewN hB _, HT2⟩
          case measure => simp [intOf]; omega
        | false =>
          have HT2 := Lib.hid (show sameL sameQ L1 L2 = false by rw [HT.out]; rfl)
          clear HT
          go_wp2_with fail
          go_quiet (fail)
          go_wp2_with fail
          go_ret
          exact ⟨by rw [HT2.out]; rfl, below_drewN hB _⟩
      · obtain rfl : k = n := by omega
        have HT := Lib.hid (hT.out.trans (sameL_end (by have := E1.out; omega) (by have := E2.out; omega)))
        clear hT h1 h2
        go_wp2_with fail
        go_ret
        exact ⟨by rw [HT.out]; rfl, hB⟩
  · have HT := Lib.hid (sameL_len (f := sameQ) hne)
    have hne' : ((L1.length : Int) != (L2.length : Int)) = true := by rw [bne_iff_ne]; omega
    clear h1 h2 hne
    generalize L1.length = n1 at *
    generalize L2.length = n2 at *
    go_enter Tryd.func41, Tryd.ntmps41
    go_wp2_with fail
    go_ret
    exact ⟨by rw [HT.out]; rfl, Below.refl _ _⟩
end Go.Proofs.YtgfahkgnblkhaaaDoor
