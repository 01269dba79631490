/-
  The landed reader of chunks: takeDigit, add, takeData, New, Body.
-/
import Derived.Test.YtjhameebehkdjaaGreatDoorClA
import Derived.Test.YtjhameebehkdjaaGreatDoorQt
namespace Go.Proofs.YtjhameebehkdjaaGreatDoor
open Go.RowKit
set_option linter.unusedVariables false
set_option maxRecDepth 100000

theorem or16 (x y : Int) (hx : 0 ≤ x ∧ x ≤ 16777216) (hy : 0 ≤ y ∧ y ≤ 15) : bits .or .i64 (x * 16) y = x * 16 + y :=
  or_join 4 (by decide) _ _ (by omega) (by omega) (by omega) (by omega) (by omega)
section
variable (g : Nat) (v : Value) (most st dg lf : Nat) (mk : Bs) (bh fl : Nat) (w : World)
set_option maxHeartbeats 1000000 in
theorem takeDigit_no (c : UInt8) (h : Rw w g v most st dg lf mk bh fl) (hc : (digC c).isSome = false ∨ dg = 6) : Calls Tryz.prog 154 #[.pointer (some ⟨g, 0, none⟩), .int .u8 c.toNat] w fun e w' => e = .returned (.bool false) ∧ w' = w := by
  have E := Lib.hid (digitC_any c w)
  have x4 := (cell_of_row _ g 4 _ _ _ h).trans rfl
  generalize (digC c).getD 0 = d at *
  generalize c.toNat = n at *
  cases hs : (digC c).isSome with
  | false =>
    rw [hs] at E
    clear h hc hs
    go_enter Tryz.func154, Tryz.ntmps154
    go_wp2_with fail
    refine E.out.mono ?_
    rintro e w1 ⟨rfl, rfl⟩
    go_wp2_with fail
    go_ret
    exact ⟨rfl, rfl⟩
  | true =>
    rw [hs] at E hc
    have hd : dg = 6 := hc.resolve_left (by simp)
    subst hd
    clear h hc hs
    go_enter Tryz.func154, Tryz.ntmps154
    go_wp2_with fail
    refine E.out.mono ?_
    rintro e w1 ⟨rfl, rfl⟩
    go_wp2_with fail
    go_ret
    exact ⟨rfl, rfl⟩
set_option maxHeartbeats 1000000 in
theorem takeDigit_yes (c : UInt8) (d : Nat) (h : Rw w g v most st dg lf mk bh fl) (hc : digC c = some d) (hd : dg < 6) (hl : lf ≤ 16777216) : Calls Tryz.prog 154 #[.pointer (some ⟨g, 0, none⟩), .int .u8 c.toNat] w fun e w' => e = .returned (.bool true) ∧ w.grownBy w' (some g) ∧ Rw w' g v most st (dg + 1) (16 * lf + d) mk bh fl := by
  have E := Lib.hid (digitC_any c w)
  have hd16 := digC_lt hc
  rw [hc] at E
  simp only [Option.getD_some, Option.isSome_some] at E
  generalize c.toNat = n at *
  have x4 := (cell_of_row _ g 4 _ _ _ h).trans rfl
  have x5 := (cell_of_row _ g 5 _ _ _ h).trans rfl
  have f5 := frozen_of_row _ _ 5 _ _ h
  have wr1 : IntKind.i64.wrap ((lf : Int) * 16) = (lf : Int) * 16 := IntWalk.i64_in _ (by omega)
  obtain ⟨m, hm⟩ : ∃ m, m = 16 * lf + d := ⟨_, rfl⟩
  have or1 : bits .or .i64 ((lf : Int) * 16) (d : Int) = (m : Int) := by rw [or16 _ _ (by omega) (by omega)]; omega
  obtain ⟨k, hk⟩ : ∃ k, k = dg + 1 := ⟨_, rfl⟩
  have wr2 : IntKind.i64.wrap ((dg : Int) + 1) = (k : Int) := by rw [IntWalk.i64_in _ (by omega)]; omega
  have hd6 : ¬ (dg : Int) = 6 := by omega
  have r0 := row_set (w := w) (g := g) (i := 5) (.int .i64 m) h
  have y4 := (cell_of_row _ g 4 _ _ _ r0).trans rfl
  have f4 := frozen_of_row _ _ 4 _ _ r0
  have r1 := row_set (g := g) (i := 4) (.int .i64 k) r0
  have G : Hid (w.grownBy ((w.setCell ⟨g, 5, none⟩ (.int .i64 m)).setCell ⟨g, 4, none⟩ (.int .i64 k)) (some g)) := Lib.hid (grown_trans (grown_set g 5 _ _) (grown_set g 4 _ _) (fun k hk => .inl hk))
  have R : Hid (Rw ((w.setCell ⟨g, 5, none⟩ (.int .i64 m)).setCell ⟨g, 4, none⟩ (.int .i64 k)) g v most st k m mk bh fl) := Lib.hid r1
  rw [← hm, ← hk]
  clear h r0 r1 hd hl hd16 hm hk hc
  go_enter Tryz.func154, Tryz.ntmps154
  go_wp2_with fail
  refine E.out.mono ?_
  rintro e w1 ⟨rfl, rfl⟩
  go_wp2_with fail
  go_ret
  exact ⟨rfl, G.out, R.out⟩
/-- What add leaves. -/
def AddC (w : World) (g : Nat) (v : Value) (most st dg lf : Nat) (mk : Bs) (bh fl : Nat) (x : Bs) (e : Ending) (w' : World) : Prop := ∃ v', e = .returned (.tuple #[]) ∧ Rw w' g v' most st dg lf mk bh fl ∧ OwnB w' 0 v' x ∧ v'.ownBlock ≠ some g ∧ Mod (FX g v) w w' ∧ ∀ k, v'.ownBlock = some k → v.ownBlock = some k ∨ w.heap.size ≤ k
set_option maxHeartbeats 1000000 in
theorem addC_any (x d : Bs) (A : Option Addr) (c : Nat) (h : Rw w g v most st dg lf mk bh fl) (ho : OwnB w 0 v x) (hg : v.ownBlock ≠ some g) (hd : Sl w A c d) (hl : x.length + d.length ≤ 140737488355328) : Calls Tryz.prog 159 #[.pointer (some ⟨g, 0, none⟩), .slice A d.length c] w (AddC w g v most st dg lf mk bh fl (x ++ d)) := by
  obtain ⟨y, hy⟩ : ∃ y, y = x ++ d := ⟨_, rfl⟩
  rw [← hy]
  have HY := Lib.hid hy
  have HD : Hid (∀ e w', AddC w g v most st dg lf mk bh fl y e w' ↔ ∃ v', e = .returned (.tuple #[]) ∧ Rw w' g v' most st dg lf mk bh fl ∧ OwnB w' 0 v' y ∧ v'.ownBlock ≠ some g ∧ Mod (FX g v) w w' ∧ ∀ k, v'.ownBlock = some k → v.ownBlock = some k ∨ w.heap.size ≤ k) := Lib.hid (fun _ _ => Iff.rfl)
  generalize AddC w g v most st dg lf mk bh fl y = Q at *
  have c0 := (cell_of_row _ g 0 _ _ _ h).trans rfl
  obtain ⟨n, hn⟩ : ∃ n, n = d.length := ⟨_, rfl⟩
  rw [← hn]
  have HN := Lib.hid hn
  have H := Lib.hid h
  have HO := Lib.hid ho
  have HG := Lib.hid hg
  have HDD := Lib.hid hd
  have HX : Hid (x.length + d.length ≤ 140737488355328) := Lib.hid hl
  have hv : ∃ A c, v = .slice A x.length c := by obtain ⟨A, c, h, -⟩ := ho.bysN; exact ⟨A, c, h⟩
  obtain ⟨A0, k0, rfl⟩ := hv
  obtain ⟨m, hm⟩ : ∃ m, m = x.length := ⟨_, rfl⟩
  rw [← hm] at c0 H HD HO HG
  clear h hd hn hl hm hy ho hg
  go_enter Tryz.func159, Tryz.ntmps159
  go_wp2_with (first
    | (at_builtin; refine wpList_append_bys rfl (.tmp 8) (.tmp 9) rfl 0 _ x rfl HO.out A c n d rfl HN.out HDD.out.bys HDD.out.nil HX.out (Nat.zero_le _) ?_)
    | fail)
  intro v1 w1 o1 g1 f1
  rw [← HY.out] at o1
  have glt := (Array.getElem?_eq_some_iff.1 H.out).1
  have r1 := (g1.block g glt (fun e => HG.out e.symm)).trans H.out
  have there : w1.cell? ⟨g, 0, none⟩ = some (.slice A0 m k0) := (cell_of_row _ g 0 _ _ _ r1).trans rfl
  have fz : w1.frozen? ⟨g, 0, none⟩ = false := frozen_of_row _ _ 0 _ _ r1
  have r2 := row_set (w := w1) (g := g) (i := 0) v1 r1
  have gs := grown_set g 0 v1 w1
  have hv1 : v1.ownBlock ≠ some g := fun e => by
    rcases f1 g e with h | h
    · exact HG.out h
    · omega
  have hM : Mod (FX g (.slice A0 m k0)) w (w1.setCell ⟨g, 0, none⟩ v1) := (Mod.grown (S := FX g (.slice A0 m k0)) g1 (fun k hk => .inr hk)).trans (Mod.grown (S := FX g (.slice A0 m k0)) gs (fun k hk => by injection hk with hk; exact .inl hk.symm)) (fun i hi => .inl hi)
  have HF := Lib.hid ((HD.out (.returned (.tuple #[])) (w1.setCell ⟨g, 0, none⟩ v1)).2 ⟨v1, rfl, r2, o1.kept gs (by cases hv : v1.ownBlock with | none => exact .inl rfl | some k => exact .inr (fun e => hv1 (hv.trans e))), hv1, hM, f1⟩)
  obtain ⟨A1, k1, rfl, -⟩ := o1.bysN
  clear o1 g1 f1 r1 r2 gs hv1 hM H HD HDD HX HO HG
  go_wp2_with fail
  go_end0
  exact HF.out
/-- What takeData answers. -/
def TakeP (w : World) (g : Nat) (v : Value) (most st dg lf : Nat) (mk : Bs) (bh fl : Nat) (x d : Bs) (e : Ending) (w' : World) : Prop := ∃ v', e = .returned (.int .i64 (min lf d.length : Nat)) ∧ ((d.length < lf ∧ Rw w' g v' most st dg (lf - d.length) mk bh fl) ∨ (lf ≤ d.length ∧ Rw w' g v' most 2 dg 0 [13, 10] 0 fl)) ∧ OwnB w' 0 v' (x ++ d.take lf) ∧ v'.ownBlock ≠ some g ∧ Mod (FX g v) w w' ∧ ∀ k, v'.ownBlock = some k → v.ownBlock = some k ∨ w.heap.size ≤ k
set_option maxHeartbeats 1000000 in
theorem takeData_any (x d : Bs) (A : Option Addr) (c : Nat) (h : Rw w g v most st dg lf mk bh fl) (ho : OwnB w 0 v x) (hg : v.ownBlock ≠ some g) (hd : Sl w A c d) (hl : lf ≤ 16777216) (hx : x.length ≤ 65536) : Calls Tryz.prog 156 #[.pointer (some ⟨g, 0, none⟩), .slice A d.length c] w (TakeP w g v most st dg lf mk bh fl x d) := by
  have HD : Hid (∀ e w', TakeP w g v most st dg lf mk bh fl x d e w' ↔ ∃ v', e = .returned (.int .i64 (min lf d.length : Nat)) ∧ ((d.length < lf ∧ Rw w' g v' most st dg (lf - d.length) mk bh fl) ∨ (lf ≤ d.length ∧ Rw w' g v' most 2 dg 0 [13, 10] 0 fl)) ∧ OwnB w' 0 v' (x ++ d.take lf) ∧ v'.ownBlock ≠ some g ∧ Mod (FX g v) w w' ∧ ∀ k, v'.ownBlock = some k → v.ownBlock = some k ∨ w.heap.size ≤ k) := Lib.hid (fun _ _ => Iff.rfl)
  generalize TakeP w g v most st dg lf mk bh fl x d = Q at *
  have x5 := (cell_of_row _ g 5 _ _ _ h).trans rfl
  obtain ⟨n, hn⟩ : ∃ n, n = d.length := ⟨_, rfl⟩
  obtain ⟨z, hz⟩ : ∃ z, z = min lf n := ⟨_, rfl⟩
  have hmin : min (lf : Int) (n : Int) = (z : Int) := by omega
  obtain ⟨dz, hdz⟩ : ∃ y, y = d.take lf := ⟨_, rfl⟩
  have hdz2 : dz = d.take z := by rw [hdz, hz, List.take_eq_take_iff]; omega
  have lz : dz.length = z := by rw [hdz2, List.length_take]; omega
  have sp := slice_pre A d c z z (by omega) hd.le rfl
  rw [← hdz2, lz, ← hn] at sp
  have sd : Sl w A c dz := by rw [hdz2]; exact ⟨hd.bys.pre z, by rw [← hdz2, lz]; have := hd.le; omega, hd.max, hd.nil⟩
  have AD := Lib.hid (fun nq => addC_any g v most st dg lf mk bh fl (w.drewN nq) x dz A c (h.drewN nq) (ho.below (below_drewN (Below.refl _ _) nq) (Nat.le_refl _)) hg (sd.on (below_drewN (Below.refl _ _) nq)) (by rw [lz]; omega))
  rw [lz] at AD
  rw [← hdz, ← hn, ← hz] at HD
  rw [← hn]
  have HZ : Hid (z = min lf n) := Lib.hid hz
  clear h ho hg hd hn hdz hdz2 lz sd hz
  go_enter Tryz.func156, Tryz.ntmps156
  go_wp2_with fail
  refine wp_region_quiet_tail 6 (by kernel_rfl) (by kernel_rfl) ?_
  simp only [List.take_succ_cons, List.take_zero, List.drop_succ_cons, List.drop_zero]
  repeat (go_big_quiet_step (fail))
  refine wpQuiet_nil ?_
  intro w3 hw3
  obtain ⟨nq, rfl⟩ := hw3
  have AD1 := Lib.hid (AD.out nq)
  have dB := below_drewN (Below.refl w.heap.size w) nq
  have HDB := Lib.hid dB
  clear AD x5 dB
  go_wp2_with fail
  refine AD1.out.mono ?_
  rintro e w1 ⟨v1, rfl, r1, o1, g1, m1, f1⟩
  have x5 := (cell_of_row _ g 5 _ _ _ r1).trans rfl
  have f5 := frozen_of_row _ _ 5 _ _ r1
  obtain ⟨q, hq⟩ : ∃ q, q = lf - z := ⟨_, rfl⟩
  have wr1 : IntKind.i64.wrap ((lf : Int) - (z : Int)) = (q : Int) := by have := HZ.out; rw [IntWalk.i64_in _ (by omega)]; omega
  have r2 := row_set (g := g) (i := 5) (.int .i64 q) r1
  have gs := grown_set g 5 (.int .i64 q) w1
  have y5 := (cell_of_row _ g 5 _ _ _ r2).trans rfl
  have mA : Mod (FX g v) w (w1.setCell ⟨g, 5, none⟩ (.int .i64 q)) := ((Mod.below (S := FX g v) HDB.out).trans m1 (fun i hi => .inl hi)).trans (Mod.grown (S := FX g v) gs (fun k hk => by injection hk with hk; exact .inl hk.symm)) (fun i hi => .inl hi)
  have oA := o1.kept gs (by cases hv : v1.ownBlock with | none => exact .inl rfl | some k => exact .inr (fun e => g1 (hv.trans e)))
  have R2 : Hid (Rw (w1.setCell ⟨g, 5, none⟩ (.int .i64 q)) g v1 most st dg q mk bh fl) := Lib.hid r2
  have MA := Lib.hid mA
  have OA := Lib.hid oA
  have G1 := Lib.hid g1
  have F1 : Hid (∀ k, v1.ownBlock = some k → v.ownBlock = some k ∨ w.heap.size ≤ k) := Lib.hid f1
  have HQ := Lib.hid hq
  by_cases hq0 : q = 0
  · have EX := Lib.hid (expectC_any g v1 most st dg q mk bh fl _ [13, 10] ⟨#[13, 10]⟩ rfl 0 R2.out)
    rw [hq0] at wr1 EX y5 MA OA R2
    clear r1 o1 g1 m1 f1 r2 gs mA oA AD1 hq HDB
    subst hq0
    go_wp2_with fail
    refine EX.out.mono ?_
    rintro e w2 ⟨rfl, g2, r3⟩
    have HF := Lib.hid ((HD.out (.returned (.int .i64 z)) w2).2 ⟨v1, rfl, .inr ⟨by have := HQ.out; have := HZ.out; omega, r3⟩, OA.out.kept g2 (by cases hv : v1.ownBlock with | none => exact .inl rfl | some k => exact .inr (fun e => G1.out (hv.trans e))), G1.out, MA.out.trans (Mod.grown (S := FX g v) g2 (fun k hk => by injection hk with hk; exact .inl hk.symm)) (fun i hi => .inl hi), F1.out⟩)
    clear g2 r3
    go_wp2_with fail
    exact HF.out
  · have hq1 : ¬ (q : Int) = 0 := by omega
    have HF := Lib.hid ((HD.out (.returned (.int .i64 z)) (w1.setCell ⟨g, 5, none⟩ (.int .i64 q))).2 ⟨v1, rfl, .inl ⟨(by have := HQ.out; have := HZ.out; omega), (show lf - n = q by have := HQ.out; have := HZ.out; omega) ▸ R2.out⟩, OA.out, G1.out, MA.out, F1.out⟩)
    clear r1 o1 g1 m1 f1 r2 gs mA oA AD1 hq HDB
    go_wp2_with fail
    exact HF.out
end
end Go.Proofs.YtjhameebehkdjaaGreatDoor
