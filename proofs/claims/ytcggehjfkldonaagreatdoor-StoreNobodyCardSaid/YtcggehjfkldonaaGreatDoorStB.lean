/-
  The walk of StoreNobody.
-/
import Derived.Test.YtcggehjfkldonaaGreatDoorStA
namespace Go.Proofs.YtcggehjfkldonaaGreatDoor
open Go.RowKit
set_option linter.unusedVariables false
set_option maxRecDepth 100000

/-- What a block of cells holds, and goes on to hold. -/
def HasC (w : World) (b : Nat) (xs : List Value) : Prop := ∀ j v, xs[j]? = some v → w.cell? ⟨b, j, none⟩ = some v
theorem HasC.on {w w1 : World} {b : Nat} {xs : List Value} (h : HasC w b xs) (k : Below w.heap.size w w1) : HasC w1 b xs := fun j v hv => cell_on (h j v hv) k
theorem HasC.new {w : World} {b : Nat} {xs : List Value} {t : TypeId} (h : w.heap[b]? = some (.cells xs.toArray t (0, 0))) : HasC w b xs := fun j v hv => (cell_of_row _ b j _ _ _ h).trans (by simpa using hv)

set_option maxHeartbeats 4000000 in
set_option maxRecDepth 100000 in
theorem StoreNobody_any (x0 x1 x2 x3 x4 x5 x6 x7 x8 x9 x10 x11 x12 x13 x14 x15 : Value) (w : World) : Calls Tryz.prog 4 #[.agg #[x0, x1, x2, x3, x4, x5, x6, x7, x8, x9, x10, x11, x12, x13, x14, x15]] w fun e w' => e = .returned (.bool true) ∧ Below w.heap.size w w' := by
  have LK := Lib.hid (fun p W h a b c d => LookupS_nob (w := W) (v := p) h a b c d)
  have PT := Lib.hid (fun p W h a b => PutS_nob (w := W) (v := p) h a b)
  have DL := Lib.hid (fun p W h a b c => DeleteS_nob (w := W) (v := p) h a b c)
  have SY := Lib.hid (fun p W h => SyncS_nob (w := W) (v := p) h)
  have CM := Lib.hid (fun p W h a => CompactS_nob (w := W) (v := p) h a)
  have ST := Lib.hid (fun p W h => SetsS_nob (w := W) (v := p) h)
  have BY := Lib.hid (fun p W h => BytesS_nob (w := W) (v := p) h)
  have MM := Lib.hid (fun p W h => MemoryS_nob (w := W) (v := p) h)
  have OP := Lib.hid (fun W => OpenS_nob (w := W) 0 100)
  obtain ⟨W, hW⟩ : ∃ W, W = ((w.alloc (.cells #[x0, x1, x2, x3, x4, x5, x6, x7, x8, x9, x10, x11, x12, x13, x14, x15] 50)).alloc (.cells #[.pointer none, .int .i64 0, .int .i64 0, .map none, .slice none 0 0, .bool false] 55)).alloc (.cells #[.pointer none, .pointer (some ⟨w.heap.size + 1, 0, none⟩)] 51) := ⟨_, rfl⟩
  have bW : Below w.heap.size w W := by rw [hW]; exact Below.alloc (Below.alloc (Below.alloc (Below.refl _ _) (Nat.le_refl _) _) (by simp) _) (by simp; omega) _
  have r0 : W.heap[w.heap.size]? = some (.cells #[x0, x1, x2, x3, x4, x5, x6, x7, x8, x9, x10, x11, x12, x13, x14, x15] 50 (0, 0)) := by rw [hW]; exact row_old _ (row_old _ (row_new _ rfl))
  have r1 : W.heap[w.heap.size + 1]? = some (.cells #[.pointer none, .int .i64 0, .int .i64 0, .map none, .slice none 0 0, .bool false] 55 (0, 0)) := by rw [hW]; exact row_old _ (row_new _ (by simp))
  have r2 : W.heap[w.heap.size + 1 + 1]? = some (.cells #[.pointer none, .pointer (some ⟨w.heap.size + 1, 0, none⟩)] 51 (0, 0)) := by rw [hW]; exact row_new _ (by simp)
  have HC : Hid (HasC W w.heap.size [x0, x1, x2, x3, x4, x5, x6, x7, x8, x9, x10, x11, x12, x13, x14, x15]) := Lib.hid (HasC.new r0)
  have HP : Hid (HasC W (w.heap.size + 1 + 1) [.pointer none, .pointer (some ⟨w.heap.size + 1, 0, none⟩)]) := Lib.hid (HasC.new r2)
  have N1 : Hid (NobS W (.pointer (some ⟨w.heap.size + 1, 0, none⟩))) := Lib.hid (.inr ⟨_, rfl, (cell_of_row _ _ 0 _ _ _ r1).trans rfl⟩)
  have HW := Lib.hid hW
  have HB := Lib.hid bW
  clear r0 r1 r2 bW hW
  have y1 := HC.out 1 _ rfl
  have y2 := HC.out 2 _ rfl
  have y3 := HC.out 3 _ rfl
  have y4 := HC.out 4 _ rfl
  have y5 := HC.out 5 _ rfl
  have y6 := HC.out 6 _ rfl
  have y7 := HC.out 7 _ rfl
  have y8 := HC.out 8 _ rfl
  have y9 := HC.out 9 _ rfl
  have p0 := HP.out 0 _ rfl
  have p1 := HP.out 1 _ rfl
  go_enter Tryz.func4, Tryz.ntmps4
  go_wp2_with fail
  rw [← HW.out]
  clear HW
  refine wp_loop_rounds 3 ?_
  rw [rounds_succ]
  go_wp2_with fail
  refine (LK.out _ _ (.inl rfl) _ _ _ _).mono ?_
  rintro e v1 ⟨rfl, k⟩
  replace k := Below.trans k ((Below.alloc (Below.refl v1.heap.size v1) (Nat.le_refl _) (.cells #[.string ⟨#[]⟩, .int .i64 0, .int .i64 0, .int .i64 0, .int .i64 0, .int .i64 0, .string ⟨#[]⟩, .slice none 0 0] 45 (0, 0))).mono k.size)
  clear y1 y2 y3 y4 y5 y6 y7 y8 y9 p0 p1
  replace HC := Lib.hid (HC.out.on k)
  replace HP := Lib.hid (HP.out.on k)
  replace N1 := Lib.hid (N1.out.on k)
  replace HB := Lib.hid (Below.trans HB.out (k.mono HB.out.size))
  clear k
  have y1 := HC.out 1 _ rfl
  have y2 := HC.out 2 _ rfl
  have y3 := HC.out 3 _ rfl
  have y4 := HC.out 4 _ rfl
  have y5 := HC.out 5 _ rfl
  have y6 := HC.out 6 _ rfl
  have y7 := HC.out 7 _ rfl
  have y8 := HC.out 8 _ rfl
  have y9 := HC.out 9 _ rfl
  have p0 := HP.out 0 _ rfl
  have p1 := HP.out 1 _ rfl
  go_wp2_with fail
  refine (PT.out _ _ (.inl rfl) _ _).mono ?_
  rintro e v2 ⟨rfl, k⟩
  clear y1 y2 y3 y4 y5 y6 y7 y8 y9 p0 p1
  replace HC := Lib.hid (HC.out.on k)
  replace HP := Lib.hid (HP.out.on k)
  replace N1 := Lib.hid (N1.out.on k)
  replace HB := Lib.hid (Below.trans HB.out (k.mono HB.out.size))
  clear k
  have y1 := HC.out 1 _ rfl
  have y2 := HC.out 2 _ rfl
  have y3 := HC.out 3 _ rfl
  have y4 := HC.out 4 _ rfl
  have y5 := HC.out 5 _ rfl
  have y6 := HC.out 6 _ rfl
  have y7 := HC.out 7 _ rfl
  have y8 := HC.out 8 _ rfl
  have y9 := HC.out 9 _ rfl
  have p0 := HP.out 0 _ rfl
  have p1 := HP.out 1 _ rfl
  go_wp2_with fail
  refine (DL.out _ _ (.inl rfl) _ _ _).mono ?_
  rintro e v3 ⟨rfl, k⟩
  clear y1 y2 y3 y4 y5 y6 y7 y8 y9 p0 p1
  replace HC := Lib.hid (HC.out.on k)
  replace HP := Lib.hid (HP.out.on k)
  replace N1 := Lib.hid (N1.out.on k)
  replace HB := Lib.hid (Below.trans HB.out (k.mono HB.out.size))
  clear k
  have y1 := HC.out 1 _ rfl
  have y2 := HC.out 2 _ rfl
  have y3 := HC.out 3 _ rfl
  have y4 := HC.out 4 _ rfl
  have y5 := HC.out 5 _ rfl
  have y6 := HC.out 6 _ rfl
  have y7 := HC.out 7 _ rfl
  have y8 := HC.out 8 _ rfl
  have y9 := HC.out 9 _ rfl
  have p0 := HP.out 0 _ rfl
  have p1 := HP.out 1 _ rfl
  go_wp2_with fail
  refine (SY.out _ _ (.inl rfl) ).mono ?_
  rintro e v4 ⟨rfl, k⟩
  clear y1 y2 y3 y4 y5 y6 y7 y8 y9 p0 p1
  replace HC := Lib.hid (HC.out.on k)
  replace HP := Lib.hid (HP.out.on k)
  replace N1 := Lib.hid (N1.out.on k)
  replace HB := Lib.hid (Below.trans HB.out (k.mono HB.out.size))
  clear k
  have y1 := HC.out 1 _ rfl
  have y2 := HC.out 2 _ rfl
  have y3 := HC.out 3 _ rfl
  have y4 := HC.out 4 _ rfl
  have y5 := HC.out 5 _ rfl
  have y6 := HC.out 6 _ rfl
  have y7 := HC.out 7 _ rfl
  have y8 := HC.out 8 _ rfl
  have y9 := HC.out 9 _ rfl
  have p0 := HP.out 0 _ rfl
  have p1 := HP.out 1 _ rfl
  go_wp2_with fail
  refine (CM.out _ _ (.inl rfl) _).mono ?_
  rintro e v5 ⟨rfl, k⟩
  clear y1 y2 y3 y4 y5 y6 y7 y8 y9 p0 p1
  replace HC := Lib.hid (HC.out.on k)
  replace HP := Lib.hid (HP.out.on k)
  replace N1 := Lib.hid (N1.out.on k)
  replace HB := Lib.hid (Below.trans HB.out (k.mono HB.out.size))
  clear k
  have y1 := HC.out 1 _ rfl
  have y2 := HC.out 2 _ rfl
  have y3 := HC.out 3 _ rfl
  have y4 := HC.out 4 _ rfl
  have y5 := HC.out 5 _ rfl
  have y6 := HC.out 6 _ rfl
  have y7 := HC.out 7 _ rfl
  have y8 := HC.out 8 _ rfl
  have y9 := HC.out 9 _ rfl
  have p0 := HP.out 0 _ rfl
  have p1 := HP.out 1 _ rfl
  go_wp2_with fail
  refine (ST.out _ _ (.inl rfl) ).mono ?_
  rintro e v6 ⟨rfl, k⟩
  clear y1 y2 y3 y4 y5 y6 y7 y8 y9 p0 p1
  replace HC := Lib.hid (HC.out.on k)
  replace HP := Lib.hid (HP.out.on k)
  replace N1 := Lib.hid (N1.out.on k)
  replace HB := Lib.hid (Below.trans HB.out (k.mono HB.out.size))
  clear k
  have y1 := HC.out 1 _ rfl
  have y2 := HC.out 2 _ rfl
  have y3 := HC.out 3 _ rfl
  have y4 := HC.out 4 _ rfl
  have y5 := HC.out 5 _ rfl
  have y6 := HC.out 6 _ rfl
  have y7 := HC.out 7 _ rfl
  have y8 := HC.out 8 _ rfl
  have y9 := HC.out 9 _ rfl
  have p0 := HP.out 0 _ rfl
  have p1 := HP.out 1 _ rfl
  go_wp2_with fail
  refine (BY.out _ _ (.inl rfl) ).mono ?_
  rintro e v7 ⟨rfl, k⟩
  clear y1 y2 y3 y4 y5 y6 y7 y8 y9 p0 p1
  replace HC := Lib.hid (HC.out.on k)
  replace HP := Lib.hid (HP.out.on k)
  replace N1 := Lib.hid (N1.out.on k)
  replace HB := Lib.hid (Below.trans HB.out (k.mono HB.out.size))
  clear k
  have y1 := HC.out 1 _ rfl
  have y2 := HC.out 2 _ rfl
  have y3 := HC.out 3 _ rfl
  have y4 := HC.out 4 _ rfl
  have y5 := HC.out 5 _ rfl
  have y6 := HC.out 6 _ rfl
  have y7 := HC.out 7 _ rfl
  have y8 := HC.out 8 _ rfl
  have y9 := HC.out 9 _ rfl
  have p0 := HP.out 0 _ rfl
  have p1 := HP.out 1 _ rfl
  go_wp2_with fail
  refine (MM.out _ _ (.inl rfl) ).mono ?_
  rintro e v8 ⟨rfl, k⟩
  clear y1 y2 y3 y4 y5 y6 y7 y8 y9 p0 p1
  replace HC := Lib.hid (HC.out.on k)
  replace HP := Lib.hid (HP.out.on k)
  replace N1 := Lib.hid (N1.out.on k)
  replace HB := Lib.hid (Below.trans HB.out (k.mono HB.out.size))
  clear k
  have y1 := HC.out 1 _ rfl
  have y2 := HC.out 2 _ rfl
  have y3 := HC.out 3 _ rfl
  have y4 := HC.out 4 _ rfl
  have y5 := HC.out 5 _ rfl
  have y6 := HC.out 6 _ rfl
  have y7 := HC.out 7 _ rfl
  have y8 := HC.out 8 _ rfl
  have y9 := HC.out 9 _ rfl
  have p0 := HP.out 0 _ rfl
  have p1 := HP.out 1 _ rfl
  go_wp2_with fail
  rw [rounds_succ]
  go_wp2_with fail
  refine (LK.out _ _ N1.out _ _ _ _).mono ?_
  rintro e v9 ⟨rfl, k⟩
  replace k := Below.trans k ((Below.alloc (Below.refl v9.heap.size v9) (Nat.le_refl _) (.cells #[.string ⟨#[]⟩, .int .i64 0, .int .i64 0, .int .i64 0, .int .i64 0, .int .i64 0, .string ⟨#[]⟩, .slice none 0 0] 45 (0, 0))).mono k.size)
  clear y1 y2 y3 y4 y5 y6 y7 y8 y9 p0 p1
  replace HC := Lib.hid (HC.out.on k)
  replace HP := Lib.hid (HP.out.on k)
  replace N1 := Lib.hid (N1.out.on k)
  replace HB := Lib.hid (Below.trans HB.out (k.mono HB.out.size))
  clear k
  have y1 := HC.out 1 _ rfl
  have y2 := HC.out 2 _ rfl
  have y3 := HC.out 3 _ rfl
  have y4 := HC.out 4 _ rfl
  have y5 := HC.out 5 _ rfl
  have y6 := HC.out 6 _ rfl
  have y7 := HC.out 7 _ rfl
  have y8 := HC.out 8 _ rfl
  have y9 := HC.out 9 _ rfl
  have p0 := HP.out 0 _ rfl
  have p1 := HP.out 1 _ rfl
  go_wp2_with fail
  refine (PT.out _ _ N1.out _ _).mono ?_
  rintro e v10 ⟨rfl, k⟩
  clear y1 y2 y3 y4 y5 y6 y7 y8 y9 p0 p1
  replace HC := Lib.hid (HC.out.on k)
  replace HP := Lib.hid (HP.out.on k)
  replace N1 := Lib.hid (N1.out.on k)
  replace HB := Lib.hid (Below.trans HB.out (k.mono HB.out.size))
  clear k
  have y1 := HC.out 1 _ rfl
  have y2 := HC.out 2 _ rfl
  have y3 := HC.out 3 _ rfl
  have y4 := HC.out 4 _ rfl
  have y5 := HC.out 5 _ rfl
  have y6 := HC.out 6 _ rfl
  have y7 := HC.out 7 _ rfl
  have y8 := HC.out 8 _ rfl
  have y9 := HC.out 9 _ rfl
  have p0 := HP.out 0 _ rfl
  have p1 := HP.out 1 _ rfl
  go_wp2_with fail
  refine (DL.out _ _ N1.out _ _ _).mono ?_
  rintro e v11 ⟨rfl, k⟩
  clear y1 y2 y3 y4 y5 y6 y7 y8 y9 p0 p1
  replace HC := Lib.hid (HC.out.on k)
  replace HP := Lib.hid (HP.out.on k)
  replace N1 := Lib.hid (N1.out.on k)
  replace HB := Lib.hid (Below.trans HB.out (k.mono HB.out.size))
  clear k
  have y1 := HC.out 1 _ rfl
  have y2 := HC.out 2 _ rfl
  have y3 := HC.out 3 _ rfl
  have y4 := HC.out 4 _ rfl
  have y5 := HC.out 5 _ rfl
  have y6 := HC.out 6 _ rfl
  have y7 := HC.out 7 _ rfl
  have y8 := HC.out 8 _ rfl
  have y9 := HC.out 9 _ rfl
  have p0 := HP.out 0 _ rfl
  have p1 := HP.out 1 _ rfl
  go_wp2_with fail
  refine (SY.out _ _ N1.out ).mono ?_
  rintro e v12 ⟨rfl, k⟩
  clear y1 y2 y3 y4 y5 y6 y7 y8 y9 p0 p1
  replace HC := Lib.hid (HC.out.on k)
  replace HP := Lib.hid (HP.out.on k)
  replace N1 := Lib.hid (N1.out.on k)
  replace HB := Lib.hid (Below.trans HB.out (k.mono HB.out.size))
  clear k
  have y1 := HC.out 1 _ rfl
  have y2 := HC.out 2 _ rfl
  have y3 := HC.out 3 _ rfl
  have y4 := HC.out 4 _ rfl
  have y5 := HC.out 5 _ rfl
  have y6 := HC.out 6 _ rfl
  have y7 := HC.out 7 _ rfl
  have y8 := HC.out 8 _ rfl
  have y9 := HC.out 9 _ rfl
  have p0 := HP.out 0 _ rfl
  have p1 := HP.out 1 _ rfl
  go_wp2_with fail
  refine (CM.out _ _ N1.out _).mono ?_
  rintro e v13 ⟨rfl, k⟩
  clear y1 y2 y3 y4 y5 y6 y7 y8 y9 p0 p1
  replace HC := Lib.hid (HC.out.on k)
  replace HP := Lib.hid (HP.out.on k)
  replace N1 := Lib.hid (N1.out.on k)
  replace HB := Lib.hid (Below.trans HB.out (k.mono HB.out.size))
  clear k
  have y1 := HC.out 1 _ rfl
  have y2 := HC.out 2 _ rfl
  have y3 := HC.out 3 _ rfl
  have y4 := HC.out 4 _ rfl
  have y5 := HC.out 5 _ rfl
  have y6 := HC.out 6 _ rfl
  have y7 := HC.out 7 _ rfl
  have y8 := HC.out 8 _ rfl
  have y9 := HC.out 9 _ rfl
  have p0 := HP.out 0 _ rfl
  have p1 := HP.out 1 _ rfl
  go_wp2_with fail
  refine (ST.out _ _ N1.out ).mono ?_
  rintro e v14 ⟨rfl, k⟩
  clear y1 y2 y3 y4 y5 y6 y7 y8 y9 p0 p1
  replace HC := Lib.hid (HC.out.on k)
  replace HP := Lib.hid (HP.out.on k)
  replace N1 := Lib.hid (N1.out.on k)
  replace HB := Lib.hid (Below.trans HB.out (k.mono HB.out.size))
  clear k
  have y1 := HC.out 1 _ rfl
  have y2 := HC.out 2 _ rfl
  have y3 := HC.out 3 _ rfl
  have y4 := HC.out 4 _ rfl
  have y5 := HC.out 5 _ rfl
  have y6 := HC.out 6 _ rfl
  have y7 := HC.out 7 _ rfl
  have y8 := HC.out 8 _ rfl
  have y9 := HC.out 9 _ rfl
  have p0 := HP.out 0 _ rfl
  have p1 := HP.out 1 _ rfl
  go_wp2_with fail
  refine (BY.out _ _ N1.out ).mono ?_
  rintro e v15 ⟨rfl, k⟩
  clear y1 y2 y3 y4 y5 y6 y7 y8 y9 p0 p1
  replace HC := Lib.hid (HC.out.on k)
  replace HP := Lib.hid (HP.out.on k)
  replace N1 := Lib.hid (N1.out.on k)
  replace HB := Lib.hid (Below.trans HB.out (k.mono HB.out.size))
  clear k
  have y1 := HC.out 1 _ rfl
  have y2 := HC.out 2 _ rfl
  have y3 := HC.out 3 _ rfl
  have y4 := HC.out 4 _ rfl
  have y5 := HC.out 5 _ rfl
  have y6 := HC.out 6 _ rfl
  have y7 := HC.out 7 _ rfl
  have y8 := HC.out 8 _ rfl
  have y9 := HC.out 9 _ rfl
  have p0 := HP.out 0 _ rfl
  have p1 := HP.out 1 _ rfl
  go_wp2_with fail
  refine (MM.out _ _ N1.out ).mono ?_
  rintro e v16 ⟨rfl, k⟩
  clear y1 y2 y3 y4 y5 y6 y7 y8 y9 p0 p1
  replace HC := Lib.hid (HC.out.on k)
  replace HP := Lib.hid (HP.out.on k)
  replace N1 := Lib.hid (N1.out.on k)
  replace HB := Lib.hid (Below.trans HB.out (k.mono HB.out.size))
  clear k
  have y1 := HC.out 1 _ rfl
  have y2 := HC.out 2 _ rfl
  have y3 := HC.out 3 _ rfl
  have y4 := HC.out 4 _ rfl
  have y5 := HC.out 5 _ rfl
  have y6 := HC.out 6 _ rfl
  have y7 := HC.out 7 _ rfl
  have y8 := HC.out 8 _ rfl
  have y9 := HC.out 9 _ rfl
  have p0 := HP.out 0 _ rfl
  have p1 := HP.out 1 _ rfl
  go_wp2_with fail
  rw [rounds_succ]
  go_wp2_with fail
  refine (OP.out _).mono ?_
  rintro e w9 ⟨rfl, k⟩
  replace HB := Lib.hid (Below.trans HB.out (k.mono HB.out.size))
  clear y1 y2 y3 y4 y5 y6 y7 y8 y9 p0 p1 HC HP N1 k
  go_wp2_with fail
  go_ret
  exact ⟨rfl, HB.out⟩
theorem doCells : Tryz.prog.cellsOf 50 = 16 := by kernel_rfl
theorem of_sixteen {α : Type} (l : List α) (h : l.length = 16) : ∃ a0 a1 a2 a3 a4 a5 a6 a7 a8 a9 a10 a11 a12 a13 a14 a15, l = [a0, a1, a2, a3, a4, a5, a6, a7, a8, a9, a10, a11, a12, a13, a14, a15] := by
  match l, h with
  | [a0, a1, a2, a3, a4, a5, a6, a7, a8, a9, a10, a11, a12, a13, a14, a15], _ => exact ⟨a0, a1, a2, a3, a4, a5, a6, a7, a8, a9, a10, a11, a12, a13, a14, a15, rfl⟩
end Go.Proofs.YtcggehjfkldonaaGreatDoor
