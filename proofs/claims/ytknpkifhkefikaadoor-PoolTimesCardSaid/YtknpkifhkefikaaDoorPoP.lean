/-
  The landed prefix's New and Encode alone (as in PfL, PfM, where the whole reader is).
-/
import Derived.Test.YtknpkifhkefikaaDoorPfB
import Derived.Test.YtknpkifhkefikaaDoorHdB
namespace Go.Proofs.YtknpkifhkefikaaDoor
open Go.RowKit
set_option linter.unusedVariables false
set_option maxRecDepth 100000

/-- The reader at block g. -/
def PL (w : World) (g : Nat) (v : Value) (x : Bs) : Prop := w.heap[g]? = some (.cells #[v, .bool true] 221 (0, 0)) ∧ OwnB w 0 v x ∧ v.ownBlock ≠ some g
def FL (g : Nat) (v : Value) : Nat → Prop := fun k => k = g ∨ v.ownBlock = some k
theorem PL.below {w w1 : World} {g : Nat} {v : Value} {x : Bs} (h : PL w g v x) (k : Below w.heap.size w w1) : PL w1 g v x := ⟨(k.block g (Array.getElem?_eq_some_iff.1 h.1).1).trans h.1, h.2.1.below k (Nat.le_refl _), h.2.2⟩
set_option maxHeartbeats 400000 in
theorem newP_any (w : World) : Calls Tryd.prog 123 #[] w fun e w' => ∃ g, e = .returned (.pointer (some ⟨g, 0, none⟩)) ∧ PL w' g (.slice none 0 0) [] ∧ Below w.heap.size w w' ∧ w.heap.size ≤ g := by
  have b : Below w.heap.size w (w.alloc (.cells #[.slice none 0 0, .bool true] 221)) := Below.alloc (Below.refl _ _) (Nat.le_refl _) _
  have r : (w.alloc (.cells #[.slice none 0 0, .bool true] 221)).heap[w.heap.size]? = some (.cells #[.slice none 0 0, .bool true] 221 (0, 0)) := row_new _ rfl
  go_enter Tryd.func123, Tryd.ntmps123
  go_wp2_with fail
  go_ret
  exact ⟨_, rfl, ⟨r, .inl ⟨rfl, rfl⟩, by simp [Value.ownBlock]⟩, b, Nat.le_refl _⟩
set_option maxHeartbeats 1000000 in
theorem encLP_any (A : Option Addr) (b : Bs) (c : Nat) (w : World) (hb : Sl w A c b) : Calls Tryd.prog 102 #[.slice A b.length c] w (EncF w b) := by
  have HD : Hid (∀ e w', EncF w b e w' ↔ (Below w.heap.size w w' ∧ ((65535 < b.length ∧ e = .returned (.tuple #[.slice none 0 0, .int .i64 1])) ∨ (b.length ≤ 65535 ∧ ∃ v, e = .returned (.tuple #[v, .int .i64 0]) ∧ OwnB w' w.heap.size v (encP b))))) := Lib.hid (fun _ _ => Iff.rfl)
  obtain ⟨n, hn⟩ : ∃ n, n = b.length := ⟨_, rfl⟩
  by_cases hl : 65535 < b.length
  · have HF := Lib.hid ((HD.out (.returned (.tuple #[.slice none 0 0, .int .i64 1])) w).2 ⟨Below.refl _ _, .inl ⟨hl, rfl⟩⟩)
    rw [← hn]
    rw [← hn] at hl
    have hl' : (65535 : Int) < (n : Int) := by omega
    generalize EncF w b = Q at *
    clear hn hb HD hl
    go_enter Tryd.func102, Tryd.ntmps102
    go_wp2_with fail
    exact HF.out
  · have hl' : ¬ (65535 : Int) < (n : Int) := by omega
    have hn0 : (0 : Int) ≤ (n : Int) := by omega
    have hn1 : (n : Int) ≤ 65535 := by omega
    have HN := Lib.hid hn
    have HL := Lib.hid hl
    obtain ⟨m, hm⟩ : ∃ m, m = n + 2 := ⟨_, rfl⟩
    have wr0 : IntKind.i64.wrap (2 + (n : Int)) = (m : Int) := by rw [IntWalk.i64_in _ (by omega)]; omega
    have wr1 : IntKind.u8.wrap ((n : Int) / 256) = (n : Int) / 256 := IntWalk.u8_in _ (by omega)
    have wr2 : IntKind.u8.wrap (n : Int) = (n : Int) % 256 := by simp [IntKind.wrap, IntKind.bits, IntKind.signed]
    obtain ⟨i0, hi, hz0, hz1, hz2⟩ := info_parts info_u8
    obtain ⟨M, hM⟩ : ∃ M, M = madeCells (Value.int .u8 0).cells (((m : Nat) : Int).toNat * i0.size) := ⟨_, rfl⟩
    have hMs : M.size = m * 1 := by rw [hM, size_madeCells, hz1]; simp
    have hmk : ∀ W : World, (Instr.makeSlice 29 (.int .i64 0) (.int .i64 (m : Int))).run Tryd.prog W = .ok (.slice (some ⟨W.heap.size, 0, none⟩) 0 m) (W.alloc (.cells M 5)) := fun W => by
      have h := run_make (P := Tryd.prog) W 29 5 i0 (.int .u8 0) Tryd.underlying29 hi hz0 .i64 .i64 0 (m : Int) (by omega) (by omega) (by rw [hz2]; omega) (by omega)
      rw [← hM] at h
      simpa using h
    have o0 : OwnB (w.alloc (.cells M 5)) w.heap.size (.slice (some ⟨w.heap.size, 0, none⟩) 0 m) [] := OwnB.of (l := []) (World.ownsRow_made w M m (Nat.le_refl _) (by unfold maxLen; omega) hMs) rfl
    have b0 : Below w.heap.size w (w.alloc (.cells M 5)) := Below.alloc (Below.refl _ _) (Nat.le_refl _) _
    have HH : Hid (#[Value.int .u8 ((n : Int) / 256), .int .u8 ((n : Int) % 256)] = (([UInt8.ofNat (n / 256), UInt8.ofNat (n % 256)] : Bs).map byteV).toArray) := Lib.hid (by simp [byteV]; omega)
    have b1 := Below.alloc (o := .cells #[Value.int .u8 ((n : Int) / 256), .int .u8 ((n : Int) % 256)] 5) b0 (by simp)
    have O1 := Lib.hid (o0.alloc (.cells #[Value.int .u8 ((n : Int) / 256), .int .u8 ((n : Int) % 256)] 5))
    have S1 : Hid (Sl ((w.alloc (.cells M 5)).alloc (.cells #[Value.int .u8 ((n : Int) / 256), .int .u8 ((n : Int) % 256)] 5)) (some ⟨w.heap.size + 1, 0, none⟩) 2 [UInt8.ofNat (n / 256), UInt8.ofNat (n % 256)]) := Lib.hid (by
      have := Sl.made (w := w.alloc (.cells M 5)) (t := 5) (l := [UInt8.ofNat (n / 256), UInt8.ofNat (n % 256)]) HH.out (by simp)
      simpa using this)
    have B1 := Lib.hid b1
    have HB := Lib.hid hb
    have E : Hid (encP b = [UInt8.ofNat (n / 256), UInt8.ofNat (n % 256)] ++ b) := Lib.hid (by rw [encP, hn]; rfl)
    rw [← hn]
    generalize EncF w b = Q at *
    clear hb hn hl hM hMs hm o0 b0 b1 HH
    go_enter Tryd.func102, Tryd.ntmps102
    go_wp2_with (first
      | (at_builtin; refine wpList_append_bys rfl (.tmp 12) (.tmp 20) rfl w.heap.size _ [] rfl O1.out _ 2 2 [UInt8.ofNat (n / 256), UInt8.ofNat (n % 256)] rfl rfl S1.out.bys (fun h => by cases h) (by simp) (by simp; omega) ?_)
      | fail)
    intro v1 w1 o1 g1 _
    have b2 : Below w.heap.size w w1 := B1.out.grown g1 (by simp; omega) (fun k hk => by simp [Value.ownBlock] at hk; omega)
    have sz : w.heap.size ≤ w1.heap.size := b2.size
    obtain ⟨A1, c1, rfl, -⟩ := o1.bysN
    have O2 := Lib.hid o1
    have B2 := Lib.hid b2
    have HB2 := Lib.hid (HB.out.on b2)
    have HX : Hid (([UInt8.ofNat (n / 256), UInt8.ofNat (n % 256)] : Bs).length + b.length ≤ 140737488355328) := Lib.hid (by rw [← HN.out]; simp; omega)
    clear o1 g1 b2 S1 O1 HB B1
    go_wp2_with (first
      | (at_builtin; refine wpList_append_bys rfl (.tmp 22) (.tmp 23) rfl w.heap.size _ [UInt8.ofNat (n / 256), UInt8.ofNat (n % 256)] rfl O2.out A c n b rfl HN.out HB2.out.bys HB2.out.nil HX.out sz ?_)
      | fail)
    intro v2 w2 o2 g2 _
    have b3 : Below w.heap.size w w2 := B2.out.grown g2 sz (fun k hk => (O2.out.lt k hk).1)
    have HF := Lib.hid ((HD.out (.returned (.tuple #[v2, .int .i64 0])) w2).2 ⟨b3, .inr ⟨by have := HL.out; omega, v2, rfl, by rw [E.out]; exact o2⟩⟩)
    clear o2 g2 b3
    go_wp2_with fail
    exact HF.out

end Go.Proofs.YtknpkifhkefikaaDoor
