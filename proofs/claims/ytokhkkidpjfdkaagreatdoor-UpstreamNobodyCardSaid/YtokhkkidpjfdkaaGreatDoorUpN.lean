/-
  The walk of UpstreamNobody.
-/
import Derived.Test.YtokhkkidpjfdkaaGreatDoorUpA
import Derived.Test.YtokhkkidpjfdkaaGreatDoorOq
namespace Go.Proofs.YtokhkkidpjfdkaaGreatDoor
open Go.RowKit
set_option linter.unusedVariables false
set_option maxRecDepth 100000

/-- What a block of cells holds, and goes on to hold. -/
def HasC (w : World) (b : Nat) (xs : List Value) : Prop := ∀ j v, xs[j]? = some v → w.cell? ⟨b, j, none⟩ = some v
theorem HasC.on {w w1 : World} {b : Nat} {xs : List Value} (h : HasC w b xs) (k : Below w.heap.size w w1) : HasC w1 b xs := fun j v hv => cell_on (h j v hv) k
theorem HasC.new {w : World} {b : Nat} {xs : List Value} {t : TypeId} (h : w.heap[b]? = some (.cells xs.toArray t (0, 0))) : HasC w b xs := fun j v hv => (cell_of_row _ b j _ _ _ h).trans (by simpa using hv)

set_option maxHeartbeats 4000000 in
set_option maxRecDepth 100000 in
theorem UpstreamNobody_any (k1 : Int) (x0 x2 x3 x4 x5 x6 x7 x8 x9 x10 x11 x12 x13 x14 x15 x16 : Value) (w : World) : Calls Tryz.prog 3 #[.agg #[x0, .int .i64 k1, x2, x3, x4, x5, x6, x7, x8, x9, x10, x11, x12, x13, x14, x15, x16]] w fun e w' => e = .returned (.bool true) ∧ Below w.heap.size w w' := by
  have FD := Lib.hid (fun p W h a b c => FeedU_nob (w := W) (v := p) h a b c)
  have FG := Lib.hid (fun p W h a => ForgetU_nob (w := W) (v := p) h a)
  have NW := Lib.hid (fun W => NewU_none W)
  obtain ⟨W, hW⟩ : ∃ W, W = ((w.alloc (.cells #[x0, .int .i64 k1, x2, x3, x4, x5, x6, x7, x8, x9, x10, x11, x12, x13, x14, x15, x16] 30)).alloc (.cells #[.slice none 0 0, .slice none 0 0, .map none] 38)).alloc (.cells #[.pointer none, .pointer (some ⟨w.heap.size + 1, 0, none⟩)] 31) := ⟨_, rfl⟩
  have bW : Below w.heap.size w W := by rw [hW]; exact Below.alloc (Below.alloc (Below.alloc (Below.refl _ _) (Nat.le_refl _) _) (by simp) _) (by simp; omega) _
  have r0 : W.heap[w.heap.size]? = some (.cells #[x0, .int .i64 k1, x2, x3, x4, x5, x6, x7, x8, x9, x10, x11, x12, x13, x14, x15, x16] 30 (0, 0)) := by rw [hW]; exact row_old _ (row_old _ (row_new _ rfl))
  have r1 : W.heap[w.heap.size + 1]? = some (.cells #[.slice none 0 0, .slice none 0 0, .map none] 38 (0, 0)) := by rw [hW]; exact row_old _ (row_new _ (by simp))
  have r2 : W.heap[w.heap.size + 1 + 1]? = some (.cells #[.pointer none, .pointer (some ⟨w.heap.size + 1, 0, none⟩)] 31 (0, 0)) := by rw [hW]; exact row_new _ (by simp)
  have HC : Hid (HasC W w.heap.size [x0, .int .i64 k1, x2, x3, x4, x5, x6, x7, x8, x9, x10, x11, x12, x13, x14, x15, x16]) := Lib.hid (HasC.new r0)
  have HP : Hid (HasC W (w.heap.size + 1 + 1) [.pointer none, .pointer (some ⟨w.heap.size + 1, 0, none⟩)]) := Lib.hid (HasC.new r2)
  have N1 : Hid (NobU W (.pointer (some ⟨w.heap.size + 1, 0, none⟩))) := Lib.hid (.inr ⟨_, rfl, (cell_of_row _ _ 2 _ _ _ r1).trans rfl⟩)
  have HW := Lib.hid hW
  have HB := Lib.hid bW
  clear r0 r1 r2 bW hW
  have y0 := HC.out 0 _ rfl
  have y1 := HC.out 1 _ rfl
  have y2 := HC.out 2 _ rfl
  have p0 := HP.out 0 _ rfl
  have p1 := HP.out 1 _ rfl
  go_enter Tryz.func3, Tryz.ntmps3
  go_wp2_with fail
  rw [← HW.out]
  clear HW
  refine wp_loop_rounds 3 ?_
  rw [rounds_succ]
  go_wp2_with fail
  refine (FD.out _ _ (.inl rfl) _ _ _).mono ?_
  rintro e v1 ⟨rfl, k⟩
  clear y0 y1 y2 p0 p1
  replace HC := Lib.hid (HC.out.on k)
  replace HP := Lib.hid (HP.out.on k)
  replace N1 := Lib.hid (N1.out.on k)
  replace HB := Lib.hid (Below.trans HB.out (k.mono HB.out.size))
  clear k
  have y0 := HC.out 0 _ rfl
  have y1 := HC.out 1 _ rfl
  have y2 := HC.out 2 _ rfl
  have p0 := HP.out 0 _ rfl
  have p1 := HP.out 1 _ rfl
  go_wp2_with fail
  refine (FG.out _ _ (.inl rfl) _).mono ?_
  rintro e v2 ⟨rfl, k⟩
  clear y0 y1 y2 p0 p1
  replace HC := Lib.hid (HC.out.on k)
  replace HP := Lib.hid (HP.out.on k)
  replace N1 := Lib.hid (N1.out.on k)
  replace HB := Lib.hid (Below.trans HB.out (k.mono HB.out.size))
  clear k
  have y0 := HC.out 0 _ rfl
  have y1 := HC.out 1 _ rfl
  have y2 := HC.out 2 _ rfl
  have p0 := HP.out 0 _ rfl
  have p1 := HP.out 1 _ rfl
  go_wp2_with fail
  rw [rounds_succ]
  go_wp2_with fail
  refine (FD.out _ _ N1.out _ _ _).mono ?_
  rintro e v3 ⟨rfl, k⟩
  clear y0 y1 y2 p0 p1
  replace HC := Lib.hid (HC.out.on k)
  replace HP := Lib.hid (HP.out.on k)
  replace N1 := Lib.hid (N1.out.on k)
  replace HB := Lib.hid (Below.trans HB.out (k.mono HB.out.size))
  clear k
  have y0 := HC.out 0 _ rfl
  have y1 := HC.out 1 _ rfl
  have y2 := HC.out 2 _ rfl
  have p0 := HP.out 0 _ rfl
  have p1 := HP.out 1 _ rfl
  go_wp2_with fail
  refine (FG.out _ _ N1.out _).mono ?_
  rintro e v4 ⟨rfl, k⟩
  clear y0 y1 y2 p0 p1
  replace HC := Lib.hid (HC.out.on k)
  replace HP := Lib.hid (HP.out.on k)
  replace N1 := Lib.hid (N1.out.on k)
  replace HB := Lib.hid (Below.trans HB.out (k.mono HB.out.size))
  clear k
  have y0 := HC.out 0 _ rfl
  have y1 := HC.out 1 _ rfl
  have y2 := HC.out 2 _ rfl
  have p0 := HP.out 0 _ rfl
  have p1 := HP.out 1 _ rfl
  go_wp2_with fail
  rw [rounds_succ]
  go_wp2_with fail
  refine (NW.out _).mono ?_
  rintro e w9 ⟨rfl, k⟩
  replace HB := Lib.hid (Below.trans HB.out (k.mono HB.out.size))
  clear y0 y1 y2 p0 p1 HC HP N1 k FD FG NW
  go_wp2_with fail
  go_ret
  exact ⟨rfl, HB.out⟩
theorem do22Cells : Tryz.prog.cellsOf 30 = 17 := by kernel_rfl
theorem do22Int : Tryz.prog.cellsOf 3 = 1 := by kernel_rfl
theorem of_seventeen {α : Type} (l : List α) (h : l.length = 17) : ∃ a0 a1 a2 a3 a4 a5 a6 a7 a8 a9 a10 a11 a12 a13 a14 a15 a16, l = [a0, a1, a2, a3, a4, a5, a6, a7, a8, a9, a10, a11, a12, a13, a14, a15, a16] := by
  match l, h with
  | [a0, a1, a2, a3, a4, a5, a6, a7, a8, a9, a10, a11, a12, a13, a14, a15, a16], _ => exact ⟨a0, a1, a2, a3, a4, a5, a6, a7, a8, a9, a10, a11, a12, a13, a14, a15, a16, rfl⟩
theorem of_six {α : Type} (l : List α) (h : l.length = 6) : ∃ a0 a1 a2 a3 a4 a5, l = [a0, a1, a2, a3, a4, a5] := by
  match l, h with
  | [a0, a1, a2, a3, a4, a5], _ => exact ⟨a0, a1, a2, a3, a4, a5, rfl⟩
section
open Go.ChangeShapes Go.WideShapes Go.ChangeAt
variable {H : Type} {enc : TypeId × Value → H} {w : World} {base b0 : Nat} {sp : Nat → Bool} {held : Bool} {v : Value} {d : DataW H} {p : List MemPlace} {r0 : Reach}
theorem open_do22 (hv : Value.okWide Tryz.prog w r0 b0 30 v) (h : DataW.Trod enc Tryz.prog w base sp held 30 v d p) :
    ∃ (k1 : Int) (x0 x2 x3 x4 x5 x6 x7 x8 x9 x10 x11 x12 x13 x14 x15 x16 : Value), v = .agg #[x0, .int .i64 k1, x2, x3, x4, x5, x6, x7, x8, x9, x10, x11, x12, x13, x14, x15, x16] := by
  obtain ⟨cs, rfl, hsz⟩ := okWide_struct Tryz.underlying30 hv
  obtain ⟨l⟩ := cs
  obtain ⟨x0, x1, x2, x3, x4, x5, x6, x7, x8, x9, x10, x11, x12, x13, x14, x15, x16, rfl⟩ := of_seventeen l (hsz.trans do22Cells)
  obtain ⟨fuel, hf⟩ := h
  obtain ⟨xs, n', _, hD, _, hl3, hg⟩ := DataW.trod_struct Tryz.underlying30 hf
  obtain ⟨y0, y1, y2, y3, y4, y5, rfl⟩ := of_six xs hl3
  have g1 : DataW.trod enc Tryz.prog w base sp held n' 3 [x1] = some y1 := by simpa [Value.cells, do22Int] using hg 1 _ rfl
  obtain ⟨i1, e1, _, f1⟩ := DataW.trod_int Tryz.underlying3 g1
  simp only [List.cons.injEq, and_true] at e1
  subst e1
  exact ⟨i1, x0, x2, x3, x4, x5, x6, x7, x8, x9, x10, x11, x12, x13, x14, x15, x16, rfl⟩
end
end Go.Proofs.YtokhkkidpjfdkaaGreatDoor
