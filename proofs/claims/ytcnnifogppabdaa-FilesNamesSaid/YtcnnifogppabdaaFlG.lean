/-
  The landed disk's write: a new file; no room.
-/
import Derived.Test.YtcnnifogppabdaaFlF
namespace Go.Proofs.Ytcnnifogppabdaa
open Go.RowKit
set_option linter.unusedVariables false
set_option maxRecDepth 100000

set_option maxHeartbeats 2000000 in
theorem write_new {y : Ly} {D : Dk} (A : Option Addr) (b : Bs) (m c : Nat) (n : Bs) (w : World) (h : DiskU y D (used D.S) w) (hf : find D.S n = none) (hn : n.length ≤ 281474976710656) (hS : Bys w A b) (hm : m = b.length) (hA : A = none → c = 0) (hbl : b.length ≤ 140737488351232)
    (hN : y.N < maxLen) (hu : used D.S ≤ 1125899906842624) (hr : D.room ≤ 1099511627776) (hfit : fits D.S D.room n b = true) :
    Calls Try.prog 50 #[.pointer (some ⟨y.p, 0, none⟩), .string (bs n), .slice A m c] w fun e w' => e = .returned (.bool true) ∧ After y D.S { D with S := put D.S n b } w w' := by
  have hold : oldLen D.S n = 0 := by unfold oldLen; rw [hf]
  have hfit2 : b.length ≤ 1048576 ∧ used D.S + b.length ≤ D.room := by unfold fits at hfit; rw [hold] at hfit; simpa using hfit
  have hput : put D.S n b = ins D.S ⟨n, b, 0⟩ := by unfold put; rw [hf]
  have hup : ((used (put D.S n b) : Nat) : Int) = (used D.S : Int) + b.length := used_eq_put h.uq n b
  have hlook := h.look n (by unfold maxLen; omega)
  rw [ptrOf_none hf] at hlook
  have h0 := h.alloc (.cells #[.slice none 0 0, .int .i64 0] 76 (0, 0))
  have c0 := h.cells.1
  have rG : (w.alloc (.cells #[.slice none 0 0, .int .i64 0] 76 (0, 0))).heap[w.heap.size]? = some (.cells #[.slice none 0 0, .int .i64 0] 76 (0, 0)) := row_new _ rfl
  have c1 := h0.cells.2.1
  have c2 := h0.cells.2.2.1
  have fc0 : (w.alloc (.cells #[.slice none 0 0, .int .i64 0] 76 (0, 0))).cell? ⟨w.heap.size, 0, none⟩ = some (.slice none 0 0) := cell_of_row _ _ _ _ _ _ rG
  have g1 : decide ((1048576 : Int) < m) = false := by simp; omega
  have g2 : decide ((D.room : Int) < (used D.S : Int) + m) = false := by simp; omega
  have q1 : (m : Int) ≤ 1048576 := by omega
  have q2 : (used D.S : Int) + m ≤ 1099511627776 := by omega
  have H0 := Lib.hid h0
  have HD := Lib.hid h
  have HM := Lib.hid hm
  have HP := Lib.hid hput
  have HU := Lib.hid hup
  have HA := Lib.hid hA
  have HS := Lib.hid (hS.on (w1 := w.alloc (.cells #[.slice none 0 0, .int .i64 0] 76 (0, 0))) (Below.alloc (Below.refl _ _) (Nat.le_refl _) _))
  have hbd : ([] : Bs).length + b.length ≤ 140737488355328 := by simp; omega
  have HBD := Lib.hid hbd
  have HF := Lib.hid hf
  have HN := Lib.hid hn
  have HNN := Lib.hid hN
  have RG := Lib.hid rG
  have hps : y.p < w.heap.size := h.lt foot_p
  have hpg : ¬ y.p = w.heap.size := by omega
  clear h h0 hm hput hup hA hS hbd hfit hfit2 hold hbl hu hr hf hn hN rG
  go_enter Try.func50, Try.ntmps50
  go_wp2_with fail
  generalize hW0 : w.alloc (.cells #[.slice none 0 0, .int .i64 0] 76 (0, 0)) = w0 at *
  go_quiet (fail)
  go_wp2_with (at_builtin; (with_reducible refine wpList_append_row rfl _ _ rfl _ [] rfl (World.ownsRow_nil _ _ _ _) A c m b rfl HM.out (Bys.drewN HS.out _) HA.out HBD.out ?_))
  intro v' w1 hrow' hg hblk
  have hrow' : w1.ownsRow 0 5 1 v' b.length (b.map byteV) := by simpa using hrow'
  have hblk : ∀ k, v'.ownBlock = some k → w0.heap.size ≤ k := fun k hk => by
    rcases hblk k hk with h | h
    · cases h
    · exact h
  have hg0 : w0.grownBy w1 none := ⟨hg.os, hg.tape, hg.output, hg.size, fun k hk _ => hg.block k hk (by simp [Value.ownBlock])⟩
  obtain ⟨va, vc, hv', _⟩ := row_slice hrow'
  subst hv'
  obtain ⟨v', hv'⟩ : ∃ v', v' = Value.slice va b.length vc := ⟨_, rfl⟩
  rw [← hv'] at hrow' hblk
  have hs0 : w0.heap.size = w.heap.size + 1 := by rw [← hW0]; simp
  have hD1 : DiskU y D (used D.S) w1 := H0.out.kept fun k hk => hg0.block k (H0.out.lt hk) (by simp)
  have r1 : w1.heap[w.heap.size]? = some (.cells #[.slice none 0 0, .int .i64 0] 76 (0, 0)) := (hg0.block _ (by omega) (by simp)).trans RG.out
  have x0 : w1.cell? ⟨w.heap.size, 0, none⟩ = some (.slice none 0 0) := cell_of_row _ _ _ _ _ _ r1
  have z0 : w1.frozen? ⟨w.heap.size, 0, none⟩ = false := frozen_of_row _ _ _ _ _ r1
  have d0 := hD1.cells.1
  have d1 := hD1.cells.2.1
  have z1 := hD1.thaw 1
  have hng : ∀ k, Foot y D.S k → k ≠ w.heap.size := fun k hk => by have := HD.out.lt hk; omega
  have hD2 : DiskU y D (used D.S) (w1.setCell ⟨w.heap.size, 0, none⟩ v') := hD1.kept fun k hk => Below.heap_setCell _ _ _ _ (hng k hk)
  have hD3 := onUsed hD2 ((used D.S : Int) + m)
  have look3 := hD3.look n (by have := HN.out; unfold maxLen; omega)
  rw [ptrOf_none HF.out] at look3
  have hNF : NewF y D n w.heap.size v' b 0 ((w1.setCell ⟨w.heap.size, 0, none⟩ v').setCell ⟨y.p, 1, none⟩ (.int .i64 ((used D.S : Int) + m))) := by
    refine ⟨HF.out, HNN.out, HN.out, ?_, ?_, ?_, ?_⟩
    · exact (Below.heap_setCell _ _ _ _ (by simp; omega)).trans (row_set v' r1)
    · refine row_block hrow' fun k e => ?_
      have := hblk k e
      rw [Below.heap_setCell _ _ _ _ (by simp; omega), Below.heap_setCell _ _ _ _ (by simp; omega)]
    · exact fun f hf e => hng _ (foot_f hf) e
    · intro f hf k e e'
      have := hblk k e
      have := HD.out.lt (foot_v hf e')
      omega
  have K := Lib.hid (add_any _ hD3 hNF)
  rw [hv'] at look3 K
  have HBK := Lib.hid hblk
  rw [hv'] at HBK
  have HG := Lib.hid hg0
  clear hD3 hD2 hD1 hNF hg hg0 hblk hrow' r1 hv' v' fc0 c0 c1 c2 hlook g1 g2
  generalize b.length = L at *
  go_wp2_with fail
  with_reducible refine Calls.mono K.out ?_
  rintro e w4 ⟨rfl, hD4, ho4⟩
  have HD4 := Lib.hid hD4
  clear hD4
  go_wp2_with fail
  go_ret
  refine ⟨rfl, y.more n w.heap.size (Value.slice va L vc), rfl, ?_, ?_, ?_, ?_⟩
  · show DiskU _ { D with S := put D.S n b } (used (put D.S n b) : Nat) _
    rw [HU.out, HP.out, show (L : Int) = (m : Int) by rw [HM.out]]
    exact HD4.out
  · have hw0 : Only (Foot y D.S) w w0 := by rw [← hW0]; exact (Only.refl _ _).alloc _
    have h1 : Only (Foot y D.S) w w1 := hw0.grown HG.out fun k e => by cases e
    have h2 : Only (Foot y D.S) w (w1.setCell ⟨w.heap.size, 0, none⟩ (Value.slice va L vc)) := h1.setCell (.inr (Nat.le_refl _)) _
    exact (h2.setCell (.inl foot_p) _).trans ho4 fun i e => .inl (e ▸ foot_m)
  · intro k hk
    rw [HP.out] at hk
    rcases hk with e | e | ⟨f, hf, e⟩
    · exact .inl (.inl e)
    · exact .inl (.inr (.inl e))
    · rcases mem_ins.1 hf with rfl | hf
      · simp only [Ly.more, if_true] at e
        rcases e with e | e
        · exact .inr (by omega)
        · have := HBK.out k e; exact .inr (by omega)
      · simp only [Ly.more, if_neg (find_none.1 HF.out f hf)] at e
        exact .inl (.inr (.inr ⟨f, hf, e⟩))
  · exact Nat.le_refl _

theorem fits_no {S : List Fil} {room m : Nat} {n b : Bs} (h : fits S room n b = false) (hm : m = b.length) : 1048576 < oldLen S n + m ∨ (oldLen S n + m ≤ 1048576 ∧ room < used S + m) := by
  unfold fits at h
  rw [Bool.and_eq_false_iff] at h
  simp only [decide_eq_false_iff_not] at h
  omega
set_option maxHeartbeats 2000000 in
theorem write_no {y : Ly} {D : Dk} (A : Option Addr) (b : Bs) (m c : Nat) (n : Bs) (w : World) (h : DiskU y D (used D.S) w) (hn : n.length ≤ 281474976710656) (hm : m = b.length) (hbl : b.length ≤ 140737488351232)
    (hold : oldLen D.S n ≤ 1048576) (hu : used D.S ≤ 1125899906842624) (hr : D.room ≤ 1099511627776) (hfit : fits D.S D.room n b = false) :
    Calls Try.prog 50 #[.pointer (some ⟨y.p, 0, none⟩), .string (bs n), .slice A m c] w fun e w' => e = .returned (.bool false) ∧ After y D.S D w w' := by
  have hno := fits_no hfit hm
  have hlook := h.look n (by unfold maxLen; omega)
  have hlt := Lib.hid (fun k hk => h.lt (k := k) hk)
  cases hf : find D.S n with
  | some f =>
    obtain ⟨hfS, hfn⟩ := find_some hf
    obtain rfl : n = f.n := hfn.symm
    rw [ptrOf_some hf] at hlook
    have ho : oldLen D.S f.n = f.d.length := by unfold oldLen; rw [hf]
    rw [ho] at hno hold
    have c0 := h.cells.1
    have c1 := h.cells.2.1
    have c2 := h.cells.2.2.1
    obtain ⟨fa, fc, hv, hfl, hfm, hfa⟩ := row_slice (h.file f hfS).2
    have fc0 := (h.fcells hfS).1
    rw [hv] at fc0
    have hfm2 : fc ≤ 9223372036854775807 := by unfold maxLen at hfm; omega
    have q1 : (f.d.length : Int) + m ≤ 9223372036854775807 := by omega
    have q2 : (used D.S : Int) + m ≤ 9223372036854775807 := by omega
    have HD := Lib.hid h
    clear h hm hv hfit hbl hu hr hfm hfa hfn hf hn ho
    rcases hno with h1 | ⟨h1, h2⟩
    · have g1 : decide ((1048576 : Int) < (f.d.length : Int) + m) = true := by simp; omega
      have g2 : (1048576 : Int) < (f.d.length : Int) + m := by omega
      go_enter Try.func50, Try.ntmps50
      go_wp2_with fail
      go_quiet (fail)
      go_wp2_with fail
      go_ret
      exact ⟨rfl, y, rfl, HD.out.drewN _, (Only.refl _ _).drewN _, fun k hk => .inl hk, Nat.le_succ _⟩
    · have g1 : decide ((1048576 : Int) < (f.d.length : Int) + m) = false := by simp; omega
      have g2 : decide ((D.room : Int) < (used D.S : Int) + m) = true := by simp; omega
      have g3 : (f.d.length : Int) + m ≤ (1048576 : Int) := by omega
      have g4 : (D.room : Int) < (used D.S : Int) + m := by omega
      go_enter Try.func50, Try.ntmps50
      go_wp2_with fail
      go_quiet (fail)
      go_wp2_with fail
      go_ret
      exact ⟨rfl, y, rfl, HD.out.drewN _, (Only.refl _ _).drewN _, fun k hk => .inl hk, Nat.le_succ _⟩
  | none =>
    rw [ptrOf_none hf] at hlook
    have ho : oldLen D.S n = 0 := by unfold oldLen; rw [hf]
    rw [ho, Nat.zero_add] at hno
    have h0 := h.alloc (.cells #[.slice none 0 0, .int .i64 0] 76 (0, 0))
    have c0 := h.cells.1
    have rG : (w.alloc (.cells #[.slice none 0 0, .int .i64 0] 76 (0, 0))).heap[w.heap.size]? = some (.cells #[.slice none 0 0, .int .i64 0] 76 (0, 0)) := row_new _ rfl
    have c1 := h0.cells.2.1
    have c2 := h0.cells.2.2.1
    have fc0 : (w.alloc (.cells #[.slice none 0 0, .int .i64 0] 76 (0, 0))).cell? ⟨w.heap.size, 0, none⟩ = some (.slice none 0 0) := cell_of_row _ _ _ _ _ _ rG
    have q1 : (m : Int) ≤ 9223372036854775807 := by omega
    have q2 : (used D.S : Int) + m ≤ 9223372036854775807 := by omega
    have H0 := Lib.hid h0
    have HO : Hid (Only (Foot y D.S) w (w.alloc (.cells #[.slice none 0 0, .int .i64 0] 76 (0, 0)))) := Lib.hid ((Only.refl _ _).alloc _)
    clear h h0 hm hfit hold hbl hu hr hf hn rG ho
    rcases hno with h1 | ⟨h1, h2⟩
    · have g1 : decide ((1048576 : Int) < m) = true := by simp; omega
      have g2 : (1048576 : Int) < m := by omega
      go_enter Try.func50, Try.ntmps50
      go_wp2_with fail
      generalize w.alloc (.cells #[.slice none 0 0, .int .i64 0] 76 (0, 0)) = w0 at *
      go_quiet (fail)
      go_wp2_with fail
      go_ret
      exact ⟨rfl, y, rfl, H0.out.drewN _, HO.out.drewN _, fun k hk => .inl hk, Nat.le_succ _⟩
    · have g1 : decide ((1048576 : Int) < m) = false := by simp; omega
      have g2 : decide ((D.room : Int) < (used D.S : Int) + m) = true := by simp; omega
      have g3 : (m : Int) ≤ (1048576 : Int) := by omega
      have g4 : (D.room : Int) < (used D.S : Int) + m := by omega
      go_enter Try.func50, Try.ntmps50
      go_wp2_with fail
      generalize w.alloc (.cells #[.slice none 0 0, .int .i64 0] 76 (0, 0)) = w0 at *
      go_quiet (fail)
      go_wp2_with fail
      go_ret
      exact ⟨rfl, y, rfl, H0.out.drewN _, HO.out.drewN _, fun k hk => .inl hk, Nat.le_succ _⟩
end Go.Proofs.Ytcnnifogppabdaa
