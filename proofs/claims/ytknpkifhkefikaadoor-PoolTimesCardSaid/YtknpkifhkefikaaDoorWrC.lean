/-
  The landed writer: two bytes of a number; a name.
-/
import Derived.Test.YtknpkifhkefikaaDoorWrB
import Derived.StillTailTactics
import Derived.Deep.QuietTactic
import Derived.BigQuiet
namespace Go.Proofs.YtknpkifhkefikaaDoor
open Go.RowKit Go.Maps
set_option linter.unusedVariables false
set_option maxRecDepth 100000

theorem u8_hi (n : Nat) : IntKind.u8.wrap ((n : Int) / 256) = ((UInt8.ofNat (n / 256)).toNat : Int) := by
  have h : (n : Int) / 256 = ((n / 256 : Nat) : Int) := (Int.natCast_ediv n 256).symm
  rw [h]
  simp [IntKind.wrap, IntKind.bits, IntKind.signed]
theorem u8_lo (x : Nat) : IntKind.u8.wrap (x : Int) = ((UInt8.ofNat x).toNat : Int) := by simp [IntKind.wrap, IntKind.bits, IntKind.signed]
set_option maxHeartbeats 1000000 in
set_option maxRecDepth 100000 in
theorem two_any (n : Nat) {g m N base : Nat} {v : Value} {X : Wt} (w : World) (h : WtM g m N v base X w) (hN : N ≤ X.b.length) (hl : X.b.length ≤ 1000000) : Calls Tryd.prog 73 #[.pointer (some ⟨g, 0, none⟩), .int .i64 n] w fun e w' => e = .returned (.tuple #[]) ∧ WrP g m v base (twW n X) w w' := by
  obtain ⟨b0, hb0⟩ : ∃ b, b = UInt8.ofNat (n / 256) := ⟨_, rfl⟩
  obtain ⟨b1, hb1⟩ : ∃ b, b = UInt8.ofNat n := ⟨_, rfl⟩
  have f0 : IntKind.u8.wrap ((n : Int) / 256) = (b0.toNat : Int) := by rw [hb0]; exact u8_hi n
  have f1 : IntKind.u8.wrap (n : Int) = (b1.toNat : Int) := by rw [hb1]; exact u8_lo n
  obtain ⟨O, hO⟩ : ∃ O, O = Obj.cells #[.int .u8 b0.toNat, .int .u8 b1.toNat] 5 := ⟨_, rfl⟩
  have B0 : Below w.heap.size w (w.alloc O) := Below.alloc (Below.refl _ _) (Nat.le_refl _) _
  have S0 : Sl (w.alloc O) (some ⟨w.heap.size, 0, none⟩) 2 [b0, b1] := by rw [hO]; exact Sl.made (l := [b0, b1]) rfl (by simp)
  have H0 := h.below B0
  obtain ⟨c0, c1, fr⟩ := h.cells
  obtain ⟨gv, c, rfl, hb, -⟩ := h.form
  have hbig := H0.big
  obtain ⟨b, hbb⟩ : ∃ b, b = X.b := ⟨_, rfl⟩
  obtain ⟨q, hq⟩ : ∃ q, q = b.length := ⟨_, rfl⟩
  have hrow := H0.row
  have hH := Lib.hid h
  have hH0 := Lib.hid H0
  rw [← hbb, ← hq] at c0 hrow hH hH0
  rw [← hbb, ← hq] at hl
  have HX : Hid (twW n X = ⟨b ++ [b0, b1], X.P⟩) := Lib.hid (by rw [hbb, hb0, hb1]; rfl)
  rw [HX.out]
  have HB := Lib.hid hbb
  have HQ := Lib.hid hq
  have HB0 := Lib.hid B0
  have HLN : Hid (b.length + [b0, b1].length ≤ 140737488355328) := Lib.hid (by simp; omega)
  rw [← HB.out, ← HQ.out]
  rw [hO] at hrow S0 hH0 HB0 hbig
  have HROW := Lib.hid hrow
  have hNN := Lib.hid hN
  have HBIG := Lib.hid hbig
  have HS0 := Lib.hid S0.bys
  clear hN h hb0 hb1 hbb hq H0 HX B0 hrow S0 hO hbig
  go_enter Tryd.func73, Tryd.ntmps73
  go_wp2_with (first
    | (at_builtin; refine wpList_appRF rfl (.tmp 8) (.tmp 14) rfl base _ b rfl HROW.out hH.out.nn _ 2 2 rfl [b0, b1] rfl HS0.out (fun h => by cases h) HLN.out HBIG.out ?_)
    | fail)
  intro v1 w1 o1 g1 fr1 nn1
  obtain ⟨gv1, k1, hv1, -⟩ := OwnR.slice_form o1 nn1
  have HO1 := Lib.hid o1
  have HG1 := Lib.hid g1
  have HF1 := Lib.hid fr1
  have HN1 := Lib.hid nn1
  have c1' : w1.cell? ⟨g, 0, none⟩ = some (.slice (some ⟨gv, 0, none⟩) q c) ∧ w1.frozen? ⟨g, 0, none⟩ = false := by
    have hh := g1.block g (hH0.out.lt (.inl rfl)) (fun e => hH0.out.gv e.symm)
    exact ⟨(World.cell?_of_block (a := ⟨g, 0, none⟩) hh).trans hH0.out.cells.1, (World.frozen?_of_block (a := ⟨g, 0, none⟩) hh).trans hH0.out.cells.2.2⟩
  obtain ⟨d0, d1⟩ := c1'
  obtain ⟨q1, hq1⟩ : ∃ q1, q1 = (b ++ [b0, b1]).length := ⟨_, rfl⟩
  rw [← hq1] at hv1
  have HQ1 := Lib.hid hq1
  clear o1 g1 fr1 nn1 hq1
  subst hv1
  have HF := Lib.hid (WrP.app (b' := b ++ [b0, b1]) hH.out hNN.out HB0.out HG1.out HO1.out (by simpa using HF1.out) HN1.out (by rw [← HB.out]; simp))
  clear HO1 HG1 HF1 HN1 hH hH0 HB0
  go_wp2_with fail
  go_end0
  exact ⟨rfl, HF.out⟩
end Go.Proofs.YtknpkifhkefikaaDoor
