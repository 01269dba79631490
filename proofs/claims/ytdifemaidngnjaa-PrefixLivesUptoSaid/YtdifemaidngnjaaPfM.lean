/-
  The landed Encode of a frame; a buffer's add, takeAll.
-/
import Derived.Test.YtdifemaidngnjaaPfL
namespace Go.Proofs.Ytdifemaidngnjaa
open Go.RowKit
set_option linter.unusedVariables false
set_option maxRecDepth 100000

set_option maxHeartbeats 1000000 in
theorem encL_any (A : Option Addr) (b : Bs) (c : Nat) (w : World) (hb : Sl w A c b) : Calls Try.prog 16 #[.slice A b.length c] w (EncF w b) := by
  have HD : Hid (∀ e w', EncF w b e w' ↔ (Below w.heap.size w w' ∧ ((65535 < b.length ∧ e = .returned (.tuple #[.slice none 0 0, .int .i64 1])) ∨ (b.length ≤ 65535 ∧ ∃ v, e = .returned (.tuple #[v, .int .i64 0]) ∧ OwnB w' w.heap.size v (encP b))))) := Lib.hid (fun _ _ => Iff.rfl)
  obtain ⟨n, hn⟩ : ∃ n, n = b.length := ⟨_, rfl⟩
  by_cases hl : 65535 < b.length
  · have HF := Lib.hid ((HD.out (.returned (.tuple #[.slice none 0 0, .int .i64 1])) w).2 ⟨Below.refl _ _, .inl ⟨hl, rfl⟩⟩)
    rw [← hn]
    rw [← hn] at hl
    have hl' : (65535 : Int) < (n : Int) := by omega
    generalize EncF w b = Q at *
    clear hn hb HD hl
    go_enter Try.func16, Try.ntmps16
    go_wp2_with fail
    exact HF.out
  · have hl' : ¬ (65535 : Int) < (n : Int) := by omega
    have hn0 : (0 : Int) ≤ (n : Int) := by omega
    have hn1 : (n : Int) ≤ 65535 := by omega
    have HN := Lib.hid hn
    have HL := Lib.hid hl
    obtain ⟨m, hm⟩ : ∃ m, m = n + 2 := ⟨_, rfl⟩
    have wr0 : IntKind.i64.wrap (2 + (n : Int)) = (m : Int) := by rw [IntWalk.i64_in _ (by omega)]; omega
    have wr1 : IntKind.u8.wrap ((n : Int) / 256) = (n : Int) / 256 := IntWalk.u8_in _ (by omega)
    have wr2 : IntKind.u8.wrap (n : Int) = (n : Int) % 256 := by simp [IntKind.wrap, IntKind.bits, IntKind.signed]
    obtain ⟨i0, hi, hz0, hz1, hz2⟩ := info_parts info_u8
    obtain ⟨M, hM⟩ : ∃ M, M = madeCells (Value.int .u8 0).cells (((m : Nat) : Int).toNat * i0.size) := ⟨_, rfl⟩
    have hMs : M.size = m * 1 := by rw [hM, size_madeCells, hz1]; simp
    have hmk : ∀ W : World, (Instr.makeSlice 26 (.int .i64 0) (.int .i64 (m : Int))).run Try.prog W = .ok (.slice (some ⟨W.heap.size, 0, none⟩) 0 m) (W.alloc (.cells M 5)) := fun W => by
      have h := run_make (P := Try.prog) W 26 5 i0 (.int .u8 0) Try.underlying26 hi hz0 .i64 .i64 0 (m : Int) (by omega) (by omega) (by rw [hz2]; omega) (by omega)
      rw [← hM] at h
      simpa using h
    have o0 : OwnB (w.alloc (.cells M 5)) w.heap.size (.slice (some ⟨w.heap.size, 0, none⟩) 0 m) [] := OwnB.of (l := []) (World.ownsRow_made w M m (Nat.le_refl _) (by unfold maxLen; omega) hMs) rfl
    have b0 : Below w.heap.size w (w.alloc (.cells M 5)) := Below.alloc (Below.refl _ _) (Nat.le_refl _) _
    have HH : Hid (#[Value.int .u8 ((n : Int) / 256), .int .u8 ((n : Int) % 256)] = (([UInt8.ofNat (n / 256), UInt8.ofNat (n % 256)] : Bs).map byteV).toArray) := Lib.hid (by simp [byteV]; omega)
    have b1 := Below.alloc (o := .cells #[Value.int .u8 ((n : Int) / 256), .int .u8 ((n : Int) % 256)] 5) b0 (by simp)
    have O1 := Lib.hid (o0.alloc (.cells #[Value.int .u8 ((n : Int) / 256), .int .u8 ((n : Int) % 256)] 5))
    have S1 : Hid (Sl ((w.alloc (.cells M 5)).alloc (.cells #[Value.int .u8 ((n : Int) / 256), .int .u8 ((n : Int) % 256)] 5)) (some ⟨w.heap.size + 1, 0, none⟩) 2 [UInt8.ofNat (n / 256), UInt8.ofNat (n % 256)]) := Lib.hid (by
      have := Sl.made (w := w.alloc (.cells M 5)) (t := 5) (l := [UInt8.ofNat (n / 256), UInt8.ofNat (n % 256)]) HH.out (by simp)
      simpa using this)
    have B1 := Lib.hid b1
    have HB := Lib.hid hb
    have E : Hid (encP b = [UInt8.ofNat (n / 256), UInt8.ofNat (n % 256)] ++ b) := Lib.hid (by rw [encP, hn]; rfl)
    rw [← hn]
    generalize EncF w b = Q at *
    clear hb hn hl hM hMs hm o0 b0 b1 HH
    go_enter Try.func16, Try.ntmps16
    go_wp2_with (first
      | (at_builtin; refine wpList_append_bys rfl (.tmp 12) (.tmp 20) rfl w.heap.size _ [] rfl O1.out _ 2 2 [UInt8.ofNat (n / 256), UInt8.ofNat (n % 256)] rfl rfl S1.out.bys (fun h => by cases h) (by simp) (by simp; omega) ?_)
      | fail)
    intro v1 w1 o1 g1 _
    have b2 : Below w.heap.size w w1 := B1.out.grown g1 (by simp; omega) (fun k hk => by simp [Value.ownBlock] at hk; omega)
    have sz : w.heap.size ≤ w1.heap.size := b2.size
    obtain ⟨A1, c1, rfl, -⟩ := o1.bysN
    have O2 := Lib.hid o1
    have B2 := Lib.hid b2
    have HB2 := Lib.hid (HB.out.on b2)
    have HX : Hid (([UInt8.ofNat (n / 256), UInt8.ofNat (n % 256)] : Bs).length + b.length ≤ 140737488355328) := Lib.hid (by rw [← HN.out]; simp; omega)
    clear o1 g1 b2 S1 O1 HB B1
    go_wp2_with (first
      | (at_builtin; refine wpList_append_bys rfl (.tmp 22) (.tmp 23) rfl w.heap.size _ [UInt8.ofNat (n / 256), UInt8.ofNat (n % 256)] rfl O2.out A c n b rfl HN.out HB2.out.bys HB2.out.nil HX.out sz ?_)
      | fail)
    intro v2 w2 o2 g2 _
    have b3 : Below w.heap.size w w2 := B2.out.grown g2 sz (fun k hk => (O2.out.lt k hk).1)
    have HF := Lib.hid ((HD.out (.returned (.tuple #[v2, .int .i64 0])) w2).2 ⟨b3, .inr ⟨by have := HL.out; omega, v2, rfl, by rw [E.out]; exact o2⟩⟩)
    clear o2 g2 b3
    go_wp2_with fail
    exact HF.out

/-- What add leaves. -/
def AddP (w : World) (g : Nat) (v : Value) (x : Bs) (e : Ending) (w' : World) : Prop := ∃ v', e = .returned (.tuple #[]) ∧ PL w' g v' x ∧ Mod (FL g v) w w' ∧ ∀ k, v'.ownBlock = some k → v.ownBlock = some k ∨ w.heap.size ≤ k
set_option maxHeartbeats 1000000 in
theorem add_any (g : Nat) (v : Value) (x d : Bs) (A : Option Addr) (c : Nat) (w : World) (h : PL w g v x) (hd : Sl w A c d) (hl : x.length + d.length ≤ 140737488355328) : Calls Try.prog 28 #[.pointer (some ⟨g, 0, none⟩), .slice A d.length c] w (AddP w g v (x ++ d)) := by
  obtain ⟨y, hy⟩ : ∃ y, y = x ++ d := ⟨_, rfl⟩
  rw [← hy]
  have HY := Lib.hid hy
  have HD : Hid (∀ e w', AddP w g v y e w' ↔ ∃ v', e = .returned (.tuple #[]) ∧ PL w' g v' y ∧ Mod (FL g v) w w' ∧ ∀ k, v'.ownBlock = some k → v.ownBlock = some k ∨ w.heap.size ≤ k) := Lib.hid (fun _ _ => Iff.rfl)
  generalize AddP w g v y = Q at *
  have c0 := (cell_of_row _ g 0 _ _ _ h.1).trans rfl
  obtain ⟨n, hn⟩ : ∃ n, n = d.length := ⟨_, rfl⟩
  rw [← hn]
  have HN := Lib.hid hn
  have H := Lib.hid h
  have HDD := Lib.hid hd
  have HL := Lib.hid hl
  have hv : ∃ A c, v = .slice A x.length c := by obtain ⟨A, c, h, -⟩ := h.2.1.bysN; exact ⟨A, c, h⟩
  obtain ⟨A0, k0, rfl⟩ := hv
  obtain ⟨m, hm⟩ : ∃ m, m = x.length := ⟨_, rfl⟩
  rw [← hm] at c0 H HD
  have HX : Hid (x.length + d.length ≤ 140737488355328) := Lib.hid hl
  clear h hd hn hl HL hm hy
  go_enter Try.func28, Try.ntmps28
  go_wp2_with (first
    | (at_builtin; refine wpList_append_bys rfl (.tmp 8) (.tmp 9) rfl 0 _ x rfl H.out.2.1 A c n d rfl HN.out HDD.out.bys HDD.out.nil HX.out (Nat.zero_le _) ?_)
    | fail)
  intro v1 w1 o1 g1 f1
  rw [← HY.out] at o1
  have glt := (Array.getElem?_eq_some_iff.1 H.out.1).1
  have r1 := (g1.block g glt (fun e => H.out.2.2 e.symm)).trans H.out.1
  have there : w1.cell? ⟨g, 0, none⟩ = some (.slice A0 m k0) := (cell_of_row _ g 0 _ _ _ r1).trans rfl
  have fz : w1.frozen? ⟨g, 0, none⟩ = false := frozen_of_row _ _ 0 _ _ r1
  have r2 := row_set (w := w1) (g := g) (i := 0) v1 r1
  have gs : w1.grownBy (w1.setCell ⟨g, 0, none⟩ v1) (some g) := by
    have := grownBy_setCells g [v1] 0 w1
    simpa [World.setCells] using this
  have hv1 : v1.ownBlock ≠ some g := fun e => by
    rcases f1 g e with h | h
    · exact H.out.2.2 h
    · omega
  have hM : Mod (FL g (.slice A0 m k0)) w (w1.setCell ⟨g, 0, none⟩ v1) := (Mod.grown (S := FL g (.slice A0 m k0)) g1 (fun k hk => .inr hk)).trans (Mod.grown (S := FL g (.slice A0 m k0)) gs (fun k hk => by injection hk with hk; exact .inl hk.symm)) (fun i hi => .inl hi)
  have HF := Lib.hid ((HD.out (.returned (.tuple #[])) (w1.setCell ⟨g, 0, none⟩ v1)).2 ⟨v1, rfl, ⟨r2, o1.kept gs (by cases hv : v1.ownBlock with | none => exact .inl rfl | some k => exact .inr (fun e => hv1 (hv.trans e))), hv1⟩, hM, f1⟩)
  obtain ⟨A1, k1, rfl, -⟩ := o1.bysN
  clear o1 g1 f1 r1 r2 gs hv1 hM H HD HDD HX
  go_wp2_with fail
  go_end0
  exact HF.out
set_option maxHeartbeats 1000000 in
theorem takeAll_any (g : Nat) (v : Value) (x : Bs) (w : World) (h : PL w g v x) : Calls Try.prog 29 #[.pointer (some ⟨g, 0, none⟩)] w fun e w' => e = .returned v ∧ PL w' g (.slice none 0 0) [] ∧ w.grownBy w' (some g) := by
  have c0 := (cell_of_row _ g 0 _ _ _ h.1).trans rfl
  have fz : w.frozen? ⟨g, 0, none⟩ = false := frozen_of_row _ _ 0 _ _ h.1
  have r2 := row_set (w := w) (g := g) (i := 0) (.slice none 0 0) h.1
  have gs : w.grownBy (w.setCell ⟨g, 0, none⟩ (.slice none 0 0)) (some g) := by
    have := grownBy_setCells g [.slice none 0 0] 0 w
    simpa [World.setCells] using this
  obtain ⟨A, c, rfl, -⟩ := h.2.1.bysN
  have HF : Hid (PL (w.setCell ⟨g, 0, none⟩ (.slice none 0 0)) g (.slice none 0 0) [] ∧ w.grownBy (w.setCell ⟨g, 0, none⟩ (.slice none 0 0)) (some g)) := Lib.hid ⟨⟨r2, .inl ⟨rfl, rfl⟩, by simp [Value.ownBlock]⟩, gs⟩
  generalize x.length = m at *
  clear h r2 gs
  go_enter Try.func29, Try.ntmps29
  go_wp2_with fail
  go_ret
  exact ⟨rfl, HF.out⟩
end Go.Proofs.Ytdifemaidngnjaa
