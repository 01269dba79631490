/-
  The document's big numbers of four bytes; frames; the walk of SeglogFrames.
-/
import Derived.Test.YtkpnhbjdpbjfjaaDoorDgY
namespace Go.Proofs.YtkpnhbjdpbjfjaaDoor
open Go.RowKit
set_option linter.unusedVariables false
set_option maxRecDepth 100000

theorem byte_mod (x : Nat) : (x : Int) % 256 = ((UInt8.ofNat x).toNat : Int) := by simp
set_option maxHeartbeats 4000000 in
set_option maxRecDepth 100000 in
theorem Big_any (x : Nat) (w : World) (hx : x < 4294967296) : Calls Tryd.prog 20 #[.int .i64 x, .int .i64 4] w fun e w' => ∃ v, e = .returned v ∧ OwnR w' w.heap.size v (bytes4 x) ∧ Below w.heap.size w w' := by
  have mk : ∀ w : World, (Instr.makeSlice 22 (.int .i64 4) (.int .i64 4)).run Tryd.prog w = .ok (.slice (some ⟨w.heap.size, 0, none⟩) 4 4) (w.alloc (.cells (madeCells #[.int .u8 0] 4) 5)) := fun w => run_make_noughts 4 (by omega) w
  have R : OwnR (w.alloc (.cells (madeCells #[.int .u8 0] 4) 5)) w.heap.size (.slice (some ⟨w.heap.size, 0, none⟩) 4 4) [0, 0, 0, 0] := noughts_row w 4 (by omega)
  have B0 : Below w.heap.size w (w.alloc (.cells (madeCells #[.int .u8 0] 4) 5)) := Below.alloc (Below.refl _ _) (Nat.le_refl _) _
  obtain ⟨x1, hx1⟩ : ∃ y, y = x / 256 := ⟨_, rfl⟩
  obtain ⟨x2, hx2⟩ : ∃ y, y = x1 / 256 := ⟨_, rfl⟩
  obtain ⟨x3, hx3⟩ : ∃ y, y = x2 / 256 := ⟨_, rfl⟩
  obtain ⟨x4, hx4⟩ : ∃ y, y = x3 / 256 := ⟨_, rfl⟩
  have d0 : (x : Int) / 256 = (x1 : Int) := by omega
  have d1 : (x1 : Int) / 256 = (x2 : Int) := by omega
  have d2 : (x2 : Int) / 256 = (x3 : Int) := by omega
  have d3 : (x3 : Int) / 256 = (x4 : Int) := by omega
  obtain ⟨b0, hb0⟩ : ∃ b, b = UInt8.ofNat x3 := ⟨_, rfl⟩
  obtain ⟨b1, hb1⟩ : ∃ b, b = UInt8.ofNat x2 := ⟨_, rfl⟩
  obtain ⟨b2, hb2⟩ : ∃ b, b = UInt8.ofNat x1 := ⟨_, rfl⟩
  obtain ⟨b3, hb3⟩ : ∃ b, b = UInt8.ofNat x := ⟨_, rfl⟩
  have m3 : (x : Int) % 256 = (b3.toNat : Int) := by rw [hb3]; exact byte_mod x
  have m2 : (x1 : Int) % 256 = (b2.toNat : Int) := by rw [hb2]; exact byte_mod x1
  have m1 : (x2 : Int) % 256 = (b1.toNat : Int) := by rw [hb1]; exact byte_mod x2
  have m0 : (x3 : Int) % 256 = (b0.toNat : Int) := by rw [hb0]; exact byte_mod x3
  have HB4 : Hid (bytes4 x = [b0, b1, b2, b3]) := Lib.hid (by
    have e1 : x >>> 8 = x1 := by rw [Nat.shiftRight_eq_div_pow]; exact hx1.symm
    have e2 : x >>> 16 = x2 := by rw [Nat.shiftRight_eq_div_pow]; omega
    have e3 : x >>> 24 = x3 := by rw [Nat.shiftRight_eq_div_pow]; omega
    rw [hb0, hb1, hb2, hb3, ← e1, ← e2, ← e3]
    rfl)
  rw [HB4.out]
  clear hb0 hb1 hb2 hb3 hx1 hx2 hx3 hx4 HB4
  go_enter Tryd.func20, Tryd.ntmps20
  go_wp2_with fail
  generalize w.alloc (.cells (madeCells #[.int .u8 0] 4) 5) = W0 at *
  refine wp_loop_rounds 5 ?_
  obtain ⟨hc, hf⟩ := OwnR.cellAt R (l := [0, 0, 0, 0]) (j := 3) (by simp)
  have R1 : OwnR (W0.setCell ⟨w.heap.size, 3, none⟩ (.int .u8 b3.toNat)) w.heap.size (.slice (some ⟨w.heap.size, 0, none⟩) 4 4) [0, 0, 0, b3] := OwnR.set R 3 b3
  have B1 : Below w.heap.size w (W0.setCell ⟨w.heap.size, 3, none⟩ (.int .u8 b3.toNat)) := B0.setCell (Nat.le_refl _) _
  rw [rounds_succ]
  go_wp2_with fail
  generalize W0.setCell ⟨w.heap.size, 3, none⟩ (.int .u8 b3.toNat) = W1 at *
  clear hc hf R B0
  obtain ⟨hc, hf⟩ := OwnR.cellAt R1 (l := [0, 0, 0, b3]) (j := 2) (by simp)
  have R2 : OwnR (W1.setCell ⟨w.heap.size, 2, none⟩ (.int .u8 b2.toNat)) w.heap.size (.slice (some ⟨w.heap.size, 0, none⟩) 4 4) [0, 0, b2, b3] := OwnR.set R1 2 b2
  have B2 : Below w.heap.size w (W1.setCell ⟨w.heap.size, 2, none⟩ (.int .u8 b2.toNat)) := B1.setCell (Nat.le_refl _) _
  rw [rounds_succ]
  go_wp2_with fail
  generalize W1.setCell ⟨w.heap.size, 2, none⟩ (.int .u8 b2.toNat) = W2 at *
  clear hc hf R1 B1
  obtain ⟨hc, hf⟩ := OwnR.cellAt R2 (l := [0, 0, b2, b3]) (j := 1) (by simp)
  have R3 : OwnR (W2.setCell ⟨w.heap.size, 1, none⟩ (.int .u8 b1.toNat)) w.heap.size (.slice (some ⟨w.heap.size, 0, none⟩) 4 4) [0, b1, b2, b3] := OwnR.set R2 1 b1
  have B3 : Below w.heap.size w (W2.setCell ⟨w.heap.size, 1, none⟩ (.int .u8 b1.toNat)) := B2.setCell (Nat.le_refl _) _
  rw [rounds_succ]
  go_wp2_with fail
  generalize W2.setCell ⟨w.heap.size, 1, none⟩ (.int .u8 b1.toNat) = W3 at *
  clear hc hf R2 B2
  obtain ⟨hc, hf⟩ := OwnR.cellAt R3 (l := [0, b1, b2, b3]) (j := 0) (by simp)
  have R4 : OwnR (W3.setCell ⟨w.heap.size, 0, none⟩ (.int .u8 b0.toNat)) w.heap.size (.slice (some ⟨w.heap.size, 0, none⟩) 4 4) [b0, b1, b2, b3] := OwnR.set R3 0 b0
  have B4 : Below w.heap.size w (W3.setCell ⟨w.heap.size, 0, none⟩ (.int .u8 b0.toNat)) := B3.setCell (Nat.le_refl _) _
  rw [rounds_succ]
  go_wp2_with fail
  generalize W3.setCell ⟨w.heap.size, 0, none⟩ (.int .u8 b0.toNat) = W4 at *
  clear hc hf R3 B3
  rw [rounds_succ]
  go_wp2_with fail
  go_ret
  exact ⟨_, rfl, R4, B4⟩
theorem canRec_any (A : Option Addr) (n c : Nat) (w : World) : Calls Tryd.prog 17 #[.slice A n c] w fun e w' => e = .returned (.bool (decide (1 ≤ n ∧ n ≤ 4000))) ∧ w = w' := by
  by_cases h1 : 1 ≤ n
  · by_cases h2 : n ≤ 4000
    · have f1 : (1 : Int) ≤ (n : Int) := by omega
      have f2 : (n : Int) ≤ 4000 := by omega
      rw [decide_eq_true (⟨h1, h2⟩ : 1 ≤ n ∧ n ≤ 4000)]
      clear h1 h2
      go_enter Tryd.func17, Tryd.ntmps17
      go_wp2_with fail
      go_ret
      exact ⟨rfl, rfl⟩
    · have f1 : (1 : Int) ≤ (n : Int) := by omega
      have f2 : ¬ (n : Int) ≤ 4000 := by omega
      rw [decide_eq_false (fun h => h2 h.2 : ¬ (1 ≤ n ∧ n ≤ 4000))]
      clear h1 h2
      go_enter Tryd.func17, Tryd.ntmps17
      go_wp2_with fail
      go_ret
      exact ⟨rfl, rfl⟩
  · have f1 : ¬ (1 : Int) ≤ (n : Int) := by omega
    rw [decide_eq_false (fun h => h1 h.1 : ¬ (1 ≤ n ∧ n ≤ 4000))]
    clear h1
    go_enter Tryd.func17, Tryd.ntmps17
    go_wp2_with fail
    go_ret
    exact ⟨rfl, rfl⟩
/-- A record's frame. -/
def frameB (l : Bs) : Bs := [bytes4 l.length, bytes4 (crc l), sha l, l].flatten
def okRec (l : Bs) : Bool := decide (1 ≤ l.length ∧ l.length ≤ 4000)
def FrameP (w : World) (l : Bs) (e : Ending) (w' : World) : Prop := Below w.heap.size w w' ∧ ((okRec l = false ∧ e = .returned (.tuple #[.slice none 0 0, .int .i64 1])) ∨ (okRec l = true ∧ ∃ v, e = .returned (.tuple #[v, .int .i64 0]) ∧ OwnB w' w.heap.size v (frameB l)))
theorem byss4 {w : World} {g : Nat} {A0 A1 A2 A3 : Option Addr} {c0 c1 c2 c3 n0 n1 n2 n3 : Nat} {l0 l1 l2 l3 : Bs} (hr : w.heap[g]? = some (.cells #[.slice A0 n0 c0, .slice A1 n1 c1, .slice A2 n2 c2, .slice A3 n3 c3] 22 (0, 0)))
    (h0 : Sl w A0 c0 l0) (h1 : Sl w A1 c1 l1) (h2 : Sl w A2 c2 l2) (h3 : Sl w A3 c3 l3) (e0 : n0 = l0.length) (e1 : n1 = l1.length) (e2 : n2 = l2.length) (e3 : n3 = l3.length) : Byss w (some ⟨g, 0, none⟩) [l0, l1, l2, l3] := fun _ => by
  subst e0 e1 e2 e3
  refine ⟨g, 0, rfl, fun j hj => ?_⟩
  match j, hj with
  | 0, _ => exact ⟨A0, c0, cell_of_row _ _ _ _ _ _ hr, h0.bys, h0.le, h0.max, h0.nil⟩
  | 1, _ => exact ⟨A1, c1, cell_of_row _ _ _ _ _ _ hr, h1.bys, h1.le, h1.max, h1.nil⟩
  | 2, _ => exact ⟨A2, c2, cell_of_row _ _ _ _ _ _ hr, h2.bys, h2.le, h2.max, h2.nil⟩
  | 3, _ => exact ⟨A3, c3, cell_of_row _ _ _ _ _ _ hr, h3.bys, h3.le, h3.max, h3.nil⟩
set_option maxHeartbeats 2000000 in
set_option maxRecDepth 100000 in
theorem Frame_any (A : Option Addr) (l : Bs) (n c : Nat) (w : World) (hb : Sl w A c l) (hn : n = l.length) (hT : TabK w) : Calls Tryd.prog 12 #[.slice A n c] w (FrameP w l) := by
  have HD : Hid (∀ e w', FrameP w l e w' ↔ (Below w.heap.size w w' ∧ ((okRec l = false ∧ e = .returned (.tuple #[.slice none 0 0, .int .i64 1])) ∨ (okRec l = true ∧ ∃ v, e = .returned (.tuple #[v, .int .i64 0]) ∧ OwnB w' w.heap.size v (frameB l))))) := Lib.hid (fun _ _ => Iff.rfl)
  have K := Lib.hid (canRec_any A n c w)
  have hq : decide (1 ≤ n ∧ n ≤ 4000) = okRec l := by rw [hn]; rfl
  cases ho : okRec l with
  | false =>
    rw [ho] at hq
    rw [hq] at K
    have HF := Lib.hid ((HD.out (.returned (.tuple #[.slice none 0 0, .int .i64 1])) w).2 ⟨Below.refl _ _, .inl ⟨ho, rfl⟩⟩)
    generalize FrameP w l = Q at *
    clear hn hb HD hq ho
    go_enter Tryd.func12, Tryd.ntmps12
    go_wp2_with fail
    refine K.out.mono ?_
    rintro e w1 ⟨rfl, rfl⟩
    go_wp2_with fail
    exact HF.out
  | true =>
    rw [ho] at hq
    rw [hq] at K
    have hnb := of_decide_eq_true hq
    have HO := Lib.hid ho
    have N := Lib.hid (fun x g c W (hx : x < 4294967296) (hc : W.cell? ⟨g, 0, none⟩ = some (.int .i64 x)) => numbers_any x g c W hx hc)
    have C := Lib.hid (fun W (k : Below w.heap.size w W) => dCrc_any A l n c W (hb.bys.on k) hn (by omega))
    have S := Lib.hid (fun W (k : Below w.heap.size w W) => by have := Sum_any A l c W (hb.on k) (by omega) (hT.on k); rw [← hn] at this; exact this)
    have J := Lib.hid (fun g W (L : List Bs) (hL : Byss W (some ⟨g, 0, none⟩) L) (h4 : 4 = L.length) (hl : ∀ x ∈ L, x.length ≤ 100000) => by have := join_any (some ⟨g, 0, none⟩) L 4 W hL (by omega) hl; rw [← h4] at this; exact this)
    have HSl := Lib.hid (fun W (k : Below w.heap.size w W) => hb.on k)
    have hcr := crc_lt l
    have HFB : Hid (frameB l = [bytes4 n, bytes4 (crc l), sha l, l].flatten) := Lib.hid (by rw [hn]; rfl)
    have HN := Lib.hid hn
    generalize crc l = q at *
    have wq : IntKind.i64.wrap (q : Int) = (q : Int) := by rw [IntKind.wrap_i64]; omega
    generalize FrameP w l = Q at *
    have B1 : Below w.heap.size w (w.alloc (.cells #[.int .i64 n] 3)) := Below.alloc (Below.refl _ _) (Nat.le_refl _) _
    have hc1 : (w.alloc (.cells #[.int .i64 n] 3)).cell? ⟨w.heap.size, 0, none⟩ = some (.int .i64 n) := cell_of_row _ _ _ _ _ _ (row_new _ rfl)
    clear hn hb hq ho hT
    go_enter Tryd.func12, Tryd.ntmps12
    go_wp2_with fail
    refine K.out.mono ?_
    rintro e w1 ⟨rfl, rfl⟩
    go_wp2_with fail
    with_reducible refine Calls.mono (N.out n _ _ _ (by omega) hc1) ?_
    rintro e w1 ⟨v1, rfl, o1, j1⟩
    obtain ⟨B2, s2⟩ := Below.next B1 B1.size j1
    have o1 := o1.ownB
    clear hc1 B1 j1 K
    go_wp2_with fail
    with_reducible refine Calls.mono (C.out _ B2) ?_
    rintro e w2 ⟨rfl, rfl⟩
    have J3 : Below w1.heap.size w1 (w1.alloc (.cells #[.int .i64 q] 3)) := Below.alloc (Below.refl _ _) (Nat.le_refl _) _
    have hc3 : (w1.alloc (.cells #[.int .i64 q] 3)).cell? ⟨w1.heap.size, 0, none⟩ = some (.int .i64 q) := cell_of_row _ _ _ _ _ _ (row_new _ rfl)
    have B3 := (Below.next B2 s2 J3).1
    have o1 := o1.below J3 (Nat.le_refl _)
    go_wp2_with fail
    with_reducible refine Calls.mono (N.out q _ _ _ (by omega) hc3) ?_
    rintro e w4 ⟨v4, rfl, o4, j4⟩
    obtain ⟨B4, s4⟩ := Below.next B3 B3.size j4
    have o1 := o1.below j4 (Nat.le_refl _)
    have o4 := o4.ownB
    clear hc3 B3 J3 j4
    go_wp2_with fail
    with_reducible refine Calls.mono (S.out _ B4) ?_
    rintro e w5 ⟨v5, rfl, o5, j5⟩
    obtain ⟨B5, s5⟩ := Below.next B4 s4 j5
    have o1 := o1.below j5 (Nat.le_refl _)
    have o4 := o4.below j5 (Nat.le_refl _)
    obtain ⟨A1, c1, hv1, y1⟩ := o1.bysN
    obtain ⟨A4, c4, hv4, y4⟩ := o4.bysN
    obtain ⟨A5, c5, hv5, y5⟩ := o5.ownB.bysN
    rw [bytes4_len] at hv1 hv4
    rw [sha_length] at hv5
    subst hv1 hv4 hv5
    have y0 := HSl.out _ B5
    clear o1 o4 o5 j5
    obtain ⟨O, hO⟩ : ∃ O, O = Obj.cells #[.slice A1 4 c1, .slice A4 4 c4, .slice A5 32 c5, .slice A n c] 22 (0, 0) := ⟨_, rfl⟩
    have hal : Below w5.heap.size w5 (w5.alloc O) := Below.alloc (Below.refl _ _) (Nat.le_refl _) _
    have B6 := (Below.next B5 s5 hal).1
    have HY : Hid (Byss (w5.alloc O) (some ⟨w5.heap.size, 0, none⟩) [bytes4 n, bytes4 q, sha l, l]) := Lib.hid (byss4 (by rw [← hO]; exact row_new _ rfl) (y1.on hal) (y4.on hal) (y5.on hal) (y0.on hal) (bytes4_len _).symm (bytes4_len _).symm (sha_length l).symm HN.out)
    rw [hO] at HY B6
    have HB6 := Lib.hid B6
    clear hO hal y1 y4 y5 y0 B6
    go_wp2_with fail
    with_reducible refine Calls.mono (J.out _ _ _ HY.out rfl (by
      have h4 := bytes4_len n
      have h5 := bytes4_len q
      have h6 := sha_length l
      intro x hx
      simp only [List.mem_cons, List.not_mem_nil, or_false] at hx
      rcases hx with rfl | rfl | rfl | rfl
      · omega
      · omega
      · omega
      · have := HN.out; omega)) ?_
    rintro e w7 ⟨v7, rfl, o7, j7⟩
    have B7 := (Below.next HB6.out HB6.out.size j7).1
    rw [← HFB.out] at o7
    have HF := Lib.hid ((HD.out (.returned (.tuple #[v7, .int .i64 0])) w7).2 ⟨B7, .inr ⟨HO.out, v7, rfl, o7.mono HB6.out.size⟩⟩)
    clear o7 j7 B7
    go_wp2_with fail
    exact HF.out
end Go.Proofs.YtkpnhbjdpbjfjaaDoor
