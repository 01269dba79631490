/-
  The landed file's crash.
-/
import Derived.Test.YtcnnifogppabdaaFlL
import Derived.StillTailTactics
namespace Go.Proofs.Ytcnnifogppabdaa
open Go.RowKit Go.Maps
set_option linter.unusedVariables false
set_option maxRecDepth 100000

def turnLast (d : Bs) : Bs := d.set (d.length - 1) (d.getD (d.length - 1) 0 ^^^ 1)
def keptT (f : Fil) (t : Tl) : Nat := min (max t.k 0).toNat (f.d.length - f.s)
def crashF (f : Fil) (t : Tl) : Fil := ⟨f.n, if 0 < keptT f t ∧ t.t = true then turnLast (f.d.take (f.s + keptT f t)) else f.d.take (f.s + keptT f t), f.s + keptT f t⟩
theorem turnLast_len (d : Bs) : (turnLast d).length = d.length := by simp [turnLast]
theorem crashF_len {f : Fil} (t : Tl) (h : f.s ≤ f.d.length) : (crashF f t).d.length = (crashF f t).s := by
  unfold crashF
  have : keptT f t ≤ f.d.length - f.s := Nat.min_le_right _ _
  split <;> simp [turnLast_len] <;> omega
theorem row_take {w : World} {base n c : Nat} {a : Option Addr} {e : TypeId} {xs : List Value} (h : w.ownsRow base e 1 (.slice a n c) n xs) (m : Nat) (hm : m ≤ n) : w.ownsRow base e 1 (.slice a m c) m (xs.take m) := by
  refine ⟨by have := h.1; rw [List.length_take]; omega, ?_⟩
  rcases h.2 with ⟨h1, h2⟩ | ⟨g, cap, cur, hv, hb, hh, hc, hmx, hsz, ht⟩
  · left
    injection h1 with e1 e2 e3
    subst e1 e3
    have : m = 0 := by omega
    subst this
    exact ⟨rfl, rfl⟩
  · right
    injection hv with e1 e2 e3
    subst e1 e3
    refine ⟨g, c, cur, rfl, hb, hh, by omega, hmx, hsz, ?_⟩
    rw [← ht, List.take_take]
    congr 1
    omega
theorem xor_u8' (a b : Nat) (ha : a < 256) (hb : b < 256) : bits .xor .u8 (a : Int) (b : Int) = ((a ^^^ b : Nat) : Int) := by
  have ha' : a % 2 ^ 8 = a := Nat.mod_eq_of_lt (by omega)
  have hb' : b % 2 ^ 8 = b := Nat.mod_eq_of_lt (by omega)
  have hx : a ^^^ b < 2 ^ 8 := Nat.xor_lt_two_pow (by omega) (by omega)
  show IntKind.u8.wrap ((BitVec.ofInt 8 (a : Int) ^^^ BitVec.ofInt 8 (b : Int)).toNat : Int) = _
  simp only [BitVec.ofInt_natCast, BitVec.toNat_xor, BitVec.toNat_ofNat, ha', hb']
  rw [IntKind.wrap_u8]
  omega

theorem row_setB {w : World} {base n c g : Nat} {l : Bs} (h : w.ownsRow base 5 1 (.slice (some ⟨g, 0, none⟩) n c) n (l.map byteV)) (j : Nat) (x : UInt8) (hj : j < n) : (w.setCell ⟨g, j, none⟩ (.int .u8 x.toNat)).ownsRow base 5 1 (.slice (some ⟨g, 0, none⟩) n c) n ((l.set j x).map byteV) := by
  refine ⟨by have := h.1; simpa using this, ?_⟩
  rcases h.2 with ⟨h1, h2⟩ | ⟨g', cap, cur, hv, hb, hh, hc, hmx, hsz, ht⟩
  · omega
  · right
    injection hv with e1 e2 e3
    injection e1 with e1
    injection e1 with e1
    subst e1 e3
    refine ⟨g, c, _, rfl, hb, row_set _ hh, hc, hmx, by simp [hsz], ?_⟩
    rw [List.map_set, ← ht, Array.toList_setIfInBounds, List.take_set]
    rfl
structure FAt (g : Nat) (v : Value) (d : Bs) (s : Nat) (w : World) : Prop where
  file : w.heap[g]? = some (.cells #[v, .int .i64 s] 76 (0, 0))
  row : w.ownsRow 0 5 1 v d.length (d.map byteV)
/-- What crash leaves of a file. -/
def CrashP (g : Nat) (v : Value) (f : Fil) (t : Tl) (w w' : World) : Prop := ∃ v', FAt g v' (crashF f t).d (crashF f t).s w' ∧ (∀ k, v'.ownBlock = some k → v.ownBlock = some k) ∧ Only (fun k => k = g ∨ v.ownBlock = some k) w w'
set_option maxHeartbeats 2000000 in
theorem crash_any (g : Nat) (v : Value) (f : Fil) (t : Tl) (w : World) (h : FAt g v f.d f.s w) (hs : f.s ≤ f.d.length) (hd : f.d.length ≤ 1048576) :
    Calls Try.prog 52 #[.pointer (some ⟨g, 0, none⟩), .agg #[.string (bs t.n), .int .i64 t.k, .bool t.t]] w fun e w' => e = .returned (.tuple #[]) ∧ CrashP g v f t w w' := by
  obtain ⟨a, c, hv, hc, hcm, _⟩ := row_slice h.row
  have hcm' : c ≤ 9223372036854775807 := by unfold maxLen at hcm; omega
  obtain ⟨n, hn⟩ : ∃ n, n = f.d.length := ⟨_, rfl⟩
  obtain ⟨K, hK⟩ : ∃ K, K = keptT f t := ⟨_, rfl⟩
  have hKn : f.s + K ≤ n := by rw [hK]; unfold keptT; omega
  have hKe : min (max t.k 0) ((n : Int) - f.s) = K := by rw [hK]; unfold keptT; omega
  have hgs : g < w.heap.size := some_lt h.file
  have b0 : Below w.heap.size w (w.alloc (.cells #[.string (bs t.n), .int .i64 t.k, .bool t.t] 44)) := Below.alloc (Below.refl _ _) (Nat.le_refl _) _
  have rT : (w.alloc (.cells #[.string (bs t.n), .int .i64 t.k, .bool t.t] 44)).heap[w.heap.size]? = some (.cells #[.string (bs t.n), .int .i64 t.k, .bool t.t] 44 (0, 0)) := row_new _ rfl
  have rF := (b0.block g hgs).trans h.file
  have hrow := row_block h.row (w' := w.alloc (.cells #[.string (bs t.n), .int .i64 t.k, .bool t.t] 44)) fun k e => by
    obtain ⟨cur, hc⟩ := row_lt h.row e
    exact b0.block k (some_lt hc)
  rw [hv] at rF hrow
  rw [← hn] at hs hd hrow rF hc
  have hO0 : Only (fun k => k = g ∨ v.ownBlock = some k) w (w.alloc (.cells #[.string (bs t.n), .int .i64 t.k, .bool t.t] 44)) := (Only.refl _ _).alloc _
  have HN := Lib.hid hn
  have HK := Lib.hid hK
  have HKE := Lib.hid hKe
  have HV := Lib.hid hv
  clear h hv hcm hn hK hKe b0
  have hgT : ¬ g = w.heap.size := by omega
  go_enter Try.func52, Try.ntmps52
  go_wp2_with fail
  generalize hW0 : w.alloc (.cells #[.string (bs t.n), .int .i64 t.k, .bool t.t] 44) = W0 at *
  have t1 : W0.cell? ⟨w.heap.size, 1, none⟩ = some (.int .i64 t.k) := cell_of_row _ _ _ _ _ _ rT
  have f0 : W0.cell? ⟨g, 0, none⟩ = some (.slice a n c) := by rw [HN.out]; exact (cell_of_row _ _ _ _ _ _ rF).trans (by rw [← HN.out]; rfl)
  have f1 : W0.cell? ⟨g, 1, none⟩ = some (.int .i64 f.s) := cell_of_row _ _ _ _ _ _ rF
  have q1 : 0 ≤ (n : Int) - f.s ∧ (n : Int) - f.s ≤ 1048576 := by omega
  have q2 : IntKind.i64.wrap ((n : Int) - f.s) = (n : Int) - f.s := by rw [IntKind.wrap_i64]; omega
  go_quiet (fail)
  rw [HKE.out]
  obtain ⟨W1, hW1⟩ : ∃ W1, W1 = W0.drewN nq := ⟨_, rfl⟩
  rw [← hW1]
  replace rT : W1.heap[w.heap.size]? = some (.cells #[.string (bs t.n), .int .i64 t.k, .bool t.t] 44 (0, 0)) := by rw [hW1]; exact rT
  replace rF : W1.heap[g]? = some (.cells #[.slice a n c, .int .i64 f.s] 76 (0, 0)) := by rw [hW1]; exact rF
  replace hrow : W1.ownsRow 0 5 1 (.slice a n c) n (f.d.map byteV) := by rw [hW1]; exact hrow
  have hO1 : Only (fun k => k = g ∨ v.ownBlock = some k) w W1 := by rw [hW1]; exact hO0.drewN nq
  clear hW1 hW0 t1 f0 f1 q1 q2 hO0 W0
  obtain ⟨m, hm⟩ : ∃ m, m = f.s + K := ⟨_, rfl⟩
  have hpre : ∀ w : World, (Instr.slice 30 (.slice a n c) none (some (.int .i64 ((f.s : Int) + K))) none).run Try.prog w = .ok (.slice a m c) w := fun W => by
    have h := slice_pre a f.d c m ((f.s : Int) + K) (by have := HN.out; omega) (by have := HN.out; omega) (by omega) W
    rw [← HN.out, show (f.d.take m).length = m by rw [List.length_take]; have := HN.out; omega] at h
    exact h
  have f0 : W1.cell? ⟨g, 0, none⟩ = some (.slice a n c) := cell_of_row _ _ _ _ _ _ rF
  have f1 : W1.cell? ⟨g, 1, none⟩ = some (.int .i64 f.s) := cell_of_row _ _ _ _ _ _ rF
  have t2 : W1.cell? ⟨w.heap.size, 2, none⟩ = some (.bool t.t) := cell_of_row _ _ _ _ _ _ rT
  have z0 : W1.frozen? ⟨g, 0, none⟩ = false := frozen_of_row _ _ _ _ _ rF
  have z1 : W1.frozen? ⟨g, 1, none⟩ = false := frozen_of_row _ _ _ _ _ rF
  have q1 : 0 ≤ (f.s : Int) + K ∧ (f.s : Int) + K ≤ 1048576 := by omega
  have q2 : IntKind.i64.wrap ((f.s : Int) + K) = (f.s : Int) + K := by rw [IntKind.wrap_i64]; omega
  have hmn : m ≤ n := by omega
  have hgT2 : ¬ w.heap.size = g := by omega
  have hR2 := row_take hrow m hmn
  have hdt : (f.d.map byteV).take m = (f.d.take m).map byteV := by rw [List.map_take]
  rw [hdt] at hR2
  have hml : (f.d.take m).length = m := by rw [List.length_take]; have := HN.out; omega
  -- the world behind the two stores
  have rF3 : (((W1.setCell ⟨g, 0, none⟩ (.slice a m c)).setCell ⟨g, 1, none⟩ (.int .i64 m)).drew).heap[g]? = some (.cells #[.slice a m c, .int .i64 m] 76 (0, 0)) := row_set (.int .i64 (m : Nat)) (row_set (.slice a m c) rF)
  have hO3 : Only (fun k => k = g ∨ v.ownBlock = some k) w (((W1.setCell ⟨g, 0, none⟩ (.slice a m c)).setCell ⟨g, 1, none⟩ (.int .i64 m)).drew) := ((hO1.setCell (.inl (.inl rfl)) _).setCell (.inl (.inl rfl)) _).drew
  have hR3 : (((W1.setCell ⟨g, 0, none⟩ (.slice a m c)).setCell ⟨g, 1, none⟩ (.int .i64 m)).drew).ownsRow 0 5 1 (.slice a m c) (f.d.take m).length ((f.d.take m).map byteV) := by
    rw [hml]
    refine row_block hR2 fun k e => ?_
    have hne : k ≠ g := fun e' => by
      obtain ⟨cur, hc⟩ := row_lt hR2 e
      rw [e', rF] at hc
      injection hc with hc
      injection hc with h1 h2
      cases h2
    exact (Below.heap_setCell _ _ _ _ hne).trans (Below.heap_setCell _ _ _ _ hne)
  have HM := Lib.hid hm
  have HML := Lib.hid hml
  have R3 := Lib.hid rF3
  have RW3 := Lib.hid hR3
  have O3 := Lib.hid hO3
  have hob : ∀ k, (Value.slice a m c).ownBlock = some k → v.ownBlock = some k := fun k e => by
    rw [HV.out]
    cases a with
    | none => cases e
    | some p => exact e
  have HOB := Lib.hid hob
  clear hm hml rF3 hR3 hO3 hob hR2 hdt hrow rF rT hO1
  by_cases hK0 : 0 < K
  · have k1 : (0 : Int) < K := by omega
    cases ht : t.t with
    | true =>
      rw [ht] at t2
      have HT := Lib.hid ht
      have HC : Hid ((crashF f t).d = turnLast (f.d.take m) ∧ (crashF f t).s = m) := Lib.hid (by unfold crashF; rw [← HK.out, if_pos ⟨hK0, ht⟩, ← HM.out]; exact ⟨rfl, rfl⟩)
      clear ht
      go_wp2_with fail
      go_still_tail 14, (by kernel_rfl)
      change wpList _ _ _ _ _ W1.drew
      go_wp2_with fail
      generalize hW3 : World.drew _ = W3
      rw [hW3] at R3 RW3 O3
      clear hW3 f0 f1 t2 z0 z1 q1 q2 hpre
      obtain ⟨_, ho⟩ := RowB.of RW3.out rfl
      have hml := HML.out
      rcases ho with ⟨_, h0⟩ | ⟨gb, cap, hsl, _, _, _, hB⟩
      · rw [h0] at hml
        simp at hml
        have := HM.out
        omega
      injection hsl with e1 e2 e3
      subst e1
      obtain ⟨x, hx⟩ : ∃ x, x = (f.d.take m)[m - 1]'(by have := HM.out; omega) := ⟨_, rfl⟩
      have y := hB.cell (m - 1) (by have := HM.out; omega)
      rw [← hx] at y
      have zf := hB.frozen (m - 1)
      have g0 : W3.cell? ⟨g, 0, none⟩ = some (.slice (some ⟨gb, 0, none⟩) m c) := cell_of_row _ _ _ _ _ _ R3.out
      have hxb := x.toNat_lt
      have hm1 : 1 ≤ m := by have := HM.out; omega
      have p1 : IntKind.i64.wrap ((m : Int) - 1) = (m : Int) - 1 := by rw [IntKind.wrap_i64]; omega
      have p3 : ((m : Int) - 1).toNat = m - 1 := by omega
      have p4 : (1 : Int) ≤ m := by omega
      have p5 : 0 < m := by omega
      have p6 : (m : Int) - 1 < m := by omega
      have p7 : (0 : Int) ≤ (m : Int) - 1 := by omega
      have HXX : Hid (bits .xor .u8 (x.toNat : Int) 1 = ((x ^^^ 1).toNat : Int)) := Lib.hid ((xor_u8' x.toNat 1 x.toNat_lt (by omega)).trans (by simp))
      have HTL : Hid (turnLast (f.d.take m) = (f.d.take m).set (m - 1) (x ^^^ 1)) := Lib.hid (by
        unfold turnLast
        rw [hml, hx, List.getD_eq_getElem?_getD, List.getElem?_eq_getElem (by omega)]
        rfl)
      clear hx hml hB e2 e3
      go_wp2_with fail
      go_still_tail 14, (by kernel_rfl)
      change wpList _ _ _ _ _ W3.drew
      go_wp2_with fail
      go_end0
      rw [HXX.out]
      have hne : gb ≠ g := fun e => by
        obtain ⟨cur, hc⟩ := row_lt RW3.out (k := gb) rfl
        rw [e, R3.out] at hc
        injection hc with hc
        injection hc with h1 h2
        cases h2
      refine ⟨rfl, .slice (some ⟨gb, 0, none⟩) m c, ?_, HOB.out, ?_⟩
      · rw [HC.out.1, HC.out.2, HTL.out]
        refine ⟨(Below.heap_setCell _ _ _ _ hne.symm).trans R3.out, ?_⟩
        have hrw := RW3.out
        rw [HML.out] at hrw
        have := row_setB hrw (m - 1) (x ^^^ 1) (by omega)
        rw [List.length_set, HML.out]
        exact this
      · exact (O3.out.setCell (.inl (.inr (HOB.out gb rfl))) _).drew
    | false =>
      rw [ht] at t2
      have HC : Hid ((crashF f t).d = f.d.take m ∧ (crashF f t).s = m) := Lib.hid (by unfold crashF; rw [← HK.out, if_neg (by rw [ht]; simp), ← HM.out]; exact ⟨rfl, rfl⟩)
      clear ht
      go_wp2_with fail
      go_still_tail 14, (by kernel_rfl)
      change wpList _ _ _ _ _ W1.drew
      go_wp2_with fail
      go_end0
      exact ⟨rfl, _, by rw [HC.out.1, HC.out.2]; exact ⟨R3.out, RW3.out⟩, HOB.out, O3.out⟩
  · have k1 : (K : Int) ≤ 0 := by omega
    have k2 : decide (0 < K) = false := by simp; omega
    have HC : Hid ((crashF f t).d = f.d.take m ∧ (crashF f t).s = m) := Lib.hid (by unfold crashF; rw [← HK.out, if_neg (by omega), ← HM.out]; exact ⟨rfl, rfl⟩)
    go_wp2_with fail
    go_still_tail 14, (by kernel_rfl)
    change wpList _ _ _ _ _ W1.drew
    go_wp2_with fail
    go_end0
    exact ⟨rfl, _, by rw [HC.out.1, HC.out.2]; exact ⟨R3.out, RW3.out⟩, HOB.out, O3.out⟩
end Go.Proofs.Ytcnnifogppabdaa
