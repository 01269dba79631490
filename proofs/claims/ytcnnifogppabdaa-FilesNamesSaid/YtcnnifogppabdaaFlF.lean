/-
  The landed disk's write: bytes behind a file, if there is room for all of them.
-/
import Derived.Test.YtcnnifogppabdaaFlE
import Derived.Test.YtcnnifogppabdaaQr
import Derived.Deep.QuietTactic
import Derived.BigQuiet
namespace Go.Proofs.Ytcnnifogppabdaa
open Go.RowKit
set_option linter.unusedVariables false
set_option maxRecDepth 100000

theorem ptrOf_some {y : Ly} {S : List Fil} {n : Bs} {f : Fil} (h : find S n = some f) : ptrOf y S n = .pointer (some ⟨y.fb n, 0, none⟩) := by unfold ptrOf; rw [h]
theorem ptrOf_none {y : Ly} {S : List Fil} {n : Bs} (h : find S n = none) : ptrOf y S n = .pointer none := by unfold ptrOf; rw [h]
/-- What a change leaves of a disk: its struct stays where it is; what turns is its own, or new. -/
def After (y : Ly) (S : List Fil) (D' : Dk) (W w' : World) : Prop := ∃ y' : Ly, y'.p = y.p ∧ DiskU y' D' (used D'.S) w' ∧ Only (Foot y S) W w' ∧ (∀ k, Foot y' D'.S k → Foot y S k ∨ W.heap.size ≤ k) ∧ y'.N ≤ y.N + 1
theorem foot_p {y : Ly} {S : List Fil} : Foot y S y.p := .inl rfl
theorem foot_m {y : Ly} {S : List Fil} : Foot y S y.m := .inr (.inl rfl)
theorem foot_f {y : Ly} {S : List Fil} {f : Fil} (h : f ∈ S) : Foot y S (y.fb f.n) := .inr (.inr ⟨f, h, .inl rfl⟩)
theorem foot_v {y : Ly} {S : List Fil} {f : Fil} {k : Nat} (h : f ∈ S) (e : (y.v f.n).ownBlock = some k) : Foot y S k := .inr (.inr ⟨f, h, .inr e⟩)
theorem used_eq_put {S : List Fil} (hU : Uniq S) (n b : Bs) : ((used (put S n b) : Nat) : Int) = (used S : Int) + b.length := by rw [used_put hU]; omega

theorem World.ownsRow_drewN {w : World} {base size n : Nat} {e : TypeId} {v : Value} {xs : List Value} (h : w.ownsRow base e size v n xs) (k : Nat) : (w.drewN k).ownsRow base e size v n xs := h
theorem Bys.drewN {w : World} {A : Option Addr} {l : Bs} (h : Bys w A l) (k : Nat) : Bys (w.drewN k) A l := h
set_option maxHeartbeats 2000000 in
theorem write_old {y : Ly} {D : Dk} {f : Fil} (A : Option Addr) (b : Bs) (m c : Nat) (n : Bs) (w : World) (h : DiskU y D (used D.S) w) (hf : find D.S n = some f) (hn : n.length ≤ 281474976710656) (hS : Bys w A b) (hm : m = b.length) (hA : A = none → c = 0) (hbl : b.length ≤ 140737488351232)
    (hd : f.d.length ≤ 1048576) (hu : used D.S ≤ 1125899906842624) (hr : D.room ≤ 1099511627776) (hfit : fits D.S D.room n b = true) :
    Calls Try.prog 50 #[.pointer (some ⟨y.p, 0, none⟩), .string (bs n), .slice A m c] w fun e w' => e = .returned (.bool true) ∧ After y D.S { D with S := put D.S n b } w w' := by
  obtain ⟨hfS, hfn⟩ := find_some hf
  obtain rfl : n = f.n := hfn.symm
  have hold : oldLen D.S f.n = f.d.length := by unfold oldLen; rw [hf]
  have hfit2 : f.d.length + b.length ≤ 1048576 ∧ used D.S + b.length ≤ D.room := by unfold fits at hfit; rw [hold] at hfit; simpa using hfit
  have hput : put D.S f.n b = upd D.S ⟨f.n, f.d ++ b, f.s⟩ := by unfold put; rw [hf]
  have hup : ((used (put D.S f.n b) : Nat) : Int) = (used D.S : Int) + b.length := used_eq_put h.uq f.n b
  have hlook := h.look f.n (by unfold maxLen; omega)
  rw [ptrOf_some hf] at hlook
  have c0 := h.cells.1
  have c1 := h.cells.2.1
  have c2 := h.cells.2.2.1
  have hrow := (h.file f hfS).2
  obtain ⟨fa, fc, hv, hfl, hfm, hfa⟩ := row_slice hrow
  have fc0 := (h.fcells hfS).1
  have fc1 := (h.fcells hfS).2
  rw [hv] at fc0
  have hpf := h.pf hfS
  have g1 : decide ((1048576 : Int) < (f.d.length : Int) + m) = false := by simp; omega
  have g2 : decide ((D.room : Int) < (used D.S : Int) + m) = false := by simp; omega
  have q1 : (f.d.length : Int) + m ≤ 1048576 := by omega
  have q2 : (used D.S : Int) + m ≤ 1099511627776 := by omega
  have HD := Lib.hid h
  have HM := Lib.hid hm
  have HV := Lib.hid hv
  have HP := Lib.hid hput
  have HU := Lib.hid hup
  have HA := Lib.hid hA
  have HS := Lib.hid hS
  rw [hv] at hrow
  have HR := Lib.hid hrow
  have hbd : f.d.length + b.length ≤ 140737488355328 := by omega
  have HBD := Lib.hid hbd
  have hfm2 : fc ≤ 9223372036854775807 := by unfold maxLen at hfm; omega
  have HF := Lib.hid hf
  have HN := Lib.hid hn
  clear h hm hv hput hup hA hS hrow hbd hfit hfit2 hold hbl hd hu hr hfm hfa hfn hf hn
  go_enter Try.func50, Try.ntmps50
  go_wp2_with fail
  go_quiet (fail)
  go_wp2_with (at_builtin; (with_reducible refine wpList_append_row rfl _ _ rfl _ f.d rfl (World.ownsRow_drewN HR.out _) A c m b rfl HM.out (Bys.drewN HS.out _) HA.out HBD.out ?_))
  intro v' w1 hrow' hg hblk
  rw [← List.length_append, ← List.map_append] at hrow'
  obtain ⟨va, vc, hv', _⟩ := row_slice hrow'
  subst hv'
  obtain ⟨v', hv'⟩ : ∃ v', v' = Value.slice va (f.d ++ b).length vc := ⟨_, rfl⟩
  rw [← hv'] at hrow' hblk
  have hD := HD.out
  have hlt : ∀ k, Foot y D.S k → k < w.heap.size := fun k hk => hD.lt hk
  have same : ∀ k, Foot y D.S k → (y.v f.n).ownBlock ≠ some k → w1.heap[k]? = w.heap[k]? := fun k hk hne => hg.block k (hlt k hk) (fun e => hne (by rw [HV.out]; exact e.symm))
  have r1 : w1.heap[y.fb f.n]? = some (.cells #[.slice fa f.d.length fc, .int .i64 f.s] 76 (0, 0)) := (same _ (foot_f hfS) (hD.fv hfS hfS)).trans (by rw [← HV.out]; exact (hD.file f hfS).1)
  have p1 := (same _ foot_p (hD.pv hfS)).trans hD.head
  have x0 : w1.cell? ⟨y.fb f.n, 0, none⟩ = some (.slice fa f.d.length fc) := cell_of_row _ _ _ _ _ _ r1
  have z0 : w1.frozen? ⟨y.fb f.n, 0, none⟩ = false := frozen_of_row _ _ _ _ _ r1
  have d0 : w1.cell? ⟨y.p, 0, none⟩ = some (.map (some y.m)) := cell_of_row _ _ _ _ _ _ p1
  have d1 : w1.cell? ⟨y.p, 1, none⟩ = some (.int .i64 (used D.S)) := cell_of_row _ _ _ _ _ _ p1
  have z1 : w1.frozen? ⟨y.p, 1, none⟩ = false := frozen_of_row _ _ _ _ _ p1
  obtain ⟨hD2, hF2⟩ := hD.onFile hfS (w' := w1.setCell ⟨y.fb f.n, 0, none⟩ v') (v' := v') (d' := f.d ++ b) (s' := f.s)
    (fun k hk h1 h2 => (Below.heap_setCell _ _ _ _ h1).trans (same k hk h2))
    (row_set v' r1)
    (row_block hrow' fun k e => Below.heap_setCell _ _ _ _ (fun e' => by
      rcases hblk k e with h3 | h3
      · exact hD.fv hfS hfS (by rw [HV.out, h3, e'])
      · have := hlt _ (foot_f hfS)
        simp at h3 e'
        omega))
    (fun k e => by
      rcases hblk k e with h3 | h3
      · left; rw [HV.out]; exact h3
      · exact .inr h3)
  have hD3 := onUsed hD2 ((used D.S : Int) + m)
  have look3 := hD3.look f.n (by have := HN.out; unfold maxLen; omega)
  have hf2 : find (upd D.S ⟨f.n, f.d ++ b, f.s⟩) f.n = some ⟨f.n, f.d ++ b, f.s⟩ := by
    rw [find_upd hD.uq (x := ⟨f.n, f.d ++ b, f.s⟩) (by rw [HF.out]; rfl), if_pos rfl]
  rw [ptrOf_some hf2] at look3
  rw [hv'] at look3 hD3 hF2
  dsimp only at look3
  have H3 := Lib.hid hD3
  have HF2 := Lib.hid hF2
  have HG := Lib.hid hg
  have HFS := Lib.hid hfS
  clear hD3 hD2 hF2 hg hblk hf2 same hlt hrow' r1 p1 hD hv' v' fc0 fc1 c0 c1 c2 hlook g1 g2
  generalize (f.d ++ b).length = L at *
  go_wp2_with fail
  go_ret
  have hD := HD.out
  refine ⟨rfl, { y with v := fun n => if n = f.n then Value.slice va L vc else y.v n }, rfl, ?_, ?_, ?_, ?_⟩
  rotate_left
  · refine Only.setCell (Only.setCell ((Only.drewN (Only.refl _ _) _).grown HG.out fun k e => ?_) (.inl (foot_f HFS.out)) _) (.inl foot_p) _
    exact .inl (foot_v HFS.out (by rw [HV.out]; exact e))
  · intro k hk
    rw [HP.out] at hk
    exact HF2.out k hk
  · exact Nat.le_succ _
  · have := H3.out
    show DiskU _ { D with S := put D.S f.n b } (used (put D.S f.n b) : Nat) _
    rw [HU.out, HP.out, ← HM.out]
    exact this
end Go.Proofs.Ytcnnifogppabdaa
