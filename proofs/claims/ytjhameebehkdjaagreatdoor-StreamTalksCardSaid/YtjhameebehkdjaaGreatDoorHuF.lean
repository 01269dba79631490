/-
  The landed take.
  The landed take: its walk.
  The landed next.
-/
import Derived.Test.YtjhameebehkdjaaGreatDoorHuE
import Derived.Deep.RegionHeld3
import Derived.Outline
import Derived.Deep.RegionWith
namespace Go.Proofs.YtjhameebehkdjaaGreatDoor
open Go.RowKit Go.Shelf
set_option linter.unusedVariables false
set_option maxRecDepth 100000

/-- A body that is whole. -/
def FullR (w : World) (F : Nat → Prop) (g : Nat) (k : Bool) (d : Bs) : Prop := CntR w F g k d 0 ∨ ∃ s, ChkR w F g k s ∧ s.body = d ∧ d.length ≤ 65535
theorem FullR.row {w : World} {F : Nat → Prop} {g : Nat} {k : Bool} {d : Bs} (h : FullR w F g k d) : F g ∧ ∃ bv, RRow w g false (.slice none 0 0) bv k := by
  rcases h with ⟨g2, v, r, c, n2, ne, hF⟩ | ⟨s, ⟨p, F2, r, c, n2, hF⟩, -⟩
  · exact ⟨(hF g).2 (.inl rfl), _, r⟩
  · exact ⟨(hF g).2 (.inl rfl), _, r⟩
/-- What take answers. -/
def TakeHQ (w : World) (F : Nat → Prop) (g : Nat) (s : Hs) (b : Bs) (e : Ending) (w' : World) : Prop := Mod F w w' ∧ ∃ (n : Nat) (wh : Bool) (er : Nat), e = .returned (.tuple #[.int .i64 n, .bool wh, .int .i64 er]) ∧
  ((er = 130 ∧ goH s b = badH ∧ F g ∧ ∃ hv bv k, RRow w' g false hv bv k) ∨
  (er = 0 ∧ wh = false ∧ n = b.length ∧ ∃ s' F', goH s b = (s', [], false) ∧ s' ≠ .dead ∧ LHs w' F' g s' ∧ HsOk s' ∧ ∀ j, F' j → F j ∨ w.heap.size ≤ j) ∨
  (er = 0 ∧ wh = true ∧ n ≤ b.length ∧ ∃ k d F', goH s b = thenH (nextH k d) (goH (nextH k d).1 (b.drop n)) ∧ FullR w' F' g k d ∧ ∀ j, F' j → F j ∨ w.heap.size ≤ j))
/-- The body's feed, of a told length: behind it. -/
def FedP (w : World) (F : Nat → Prop) (g : Nat) (k : Bool) (z : Tk) (a m : Nat) (x : Bs) (e : Ending) (w' : World) : Prop := Mod F w w' ∧ ∃ (n : Nat) (wh : Bool) (er : Nat), e = .returned (.tuple #[.int .i64 n, .bool wh, .int .i64 er]) ∧ n ≤ 9223372036854775807 ∧
  ((er ≠ 0 ∧ z = badH ∧ F g ∧ ∃ hv bv k, RRow w' g false hv bv k) ∨
  (er = 0 ∧ wh = false ∧ n = x.length ∧ ∃ s' F', z = (s', [], false) ∧ s' ≠ .dead ∧ LHs w' F' g s' ∧ HsOk s' ∧ ∀ j, F' j → F j ∨ w.heap.size ≤ j) ∨
  (er = 0 ∧ wh = true ∧ n ≤ x.length ∧ ∃ d F', z = thenH (nextH k d) (goH (nextH k d).1 (x.drop n)) ∧ FullR w' F' g k d ∧ ∀ j, F' j → F j ∨ w.heap.size ≤ j))
theorem fed_cnt {w : World} {F : Nat → Prop} {g : Nat} {k : Bool} {d : Bs} {n : Nat} {A : Option Addr} {x : Bs} {c : Nat} (h : CntR w F g k d n) (hn : d.length + n ≤ 65535) (hb : Sl w A c x) :
    ∃ g2, RRow w g false (.slice none 0 0) (.iface 154 (.pointer (some ⟨g2, 0, none⟩))) k ∧ Calls Tryz.prog 161 #[.pointer (some ⟨g2, 0, none⟩), .slice A x.length c] w (FedP w F g k (if n = 0 then thenH (nextH k d) (goH (nextH k d).1 x) else goH (.cnt k d n) x) 0 0 x) := by
  obtain ⟨g2, v, r, cn, n2, ne, hF⟩ := h
  refine ⟨g2, r, (countedFeed_any g2 v d n A x c w cn hb hn).mono ?_⟩
  rintro e w' ⟨v', rfl, c', hM, hv'⟩
  have hFX : ∀ i, FX g2 v i → F i := fun i hi => by
    rcases hi with rfl | hi
    · exact (hF _).2 (.inr (.inl rfl))
    · exact (hF i).2 (.inr (.inr hi))
  have hgX : ¬ FX g2 v g := fun e => by
    rcases e with e | e
    · exact n2 e.symm
    · exact ne e
  have r' := hM.row r hgX
  have ne' : v'.ownBlock ≠ some g := fun e => by
    rcases hv' g e with q | q
    · exact ne q
    · have := r.lt; omega
  have hFF : ∀ j, (j = g ∨ j = g2 ∨ v'.ownBlock = some j) → F j ∨ w.heap.size ≤ j := fun j hj => by
    rcases hj with e | e | e
    · exact .inl ((hF j).2 (.inl e))
    · exact .inl ((hF j).2 (.inr (.inl e)))
    · rcases hv' j e with q | q
      · exact .inl ((hF j).2 (.inr (.inr q)))
      · exact .inr q
  have C' : CntR w' (fun j => j = g ∨ j = g2 ∨ v'.ownBlock = some j) g k (d ++ x.take n) (n - x.length) := ⟨g2, v', r', c', n2, ne', fun _ => Iff.rfl⟩
  have C0 : n ≤ x.length → CntR w' (fun j => j = g ∨ j = g2 ∨ v'.ownBlock = some j) g k (d ++ x.take n) 0 := fun h => by
    have e0 : n - x.length = 0 := by omega
    rw [e0] at C'
    exact C'
  have hxm : x.length ≤ 9223372036854775807 := Nat.le_trans hb.le hb.max
  refine ⟨hM.wide hFX, min n x.length, decide (n ≤ x.length), 0, rfl, by omega, .inr ?_⟩
  by_cases hle : n ≤ x.length
  · refine .inr ⟨rfl, by simpa using hle, by omega, d ++ x.take n, _, ?_, .inl (C0 hle), hFF⟩
    rw [Nat.min_eq_left hle]
    by_cases h0 : n = 0
    · subst h0; simp
    · rw [if_neg h0, go_cnt x k d n (by omega), if_neg (by omega)]
  · refine .inl ⟨rfl, by simpa using hle, by omega, .cnt k (d ++ x.take n) (n - x.length), _, ?_, (by simp), C', ⟨(fun h e => by cases e), (fun k' d' n' e => by injection e with e1 e2 e3; subst e2 e3; simp; omega), (fun k' c' e => by cases e)⟩, hFF⟩
    rw [if_neg (by omega), go_cnt x k d n (by omega), if_pos (by omega), List.take_of_length_le (by omega)]
theorem fed_chk {w : World} {F : Nat → Prop} {g : Nat} {k : Bool} {s : Ck} {A : Option Addr} {x : Bs} {c : Nat} (h : ChkR w F g k s) (hw : s.whole = false) (hf : s.fault = 0) (hb : Sl w A c x) (hA : x ≠ [] → Off F A) :
    ∃ gp, RRow w g false (.slice none 0 0) (.iface 152 (.pointer (some ⟨gp, 0, none⟩))) k ∧ Calls Tryz.prog 150 #[.pointer (some ⟨gp, 0, none⟩), .slice A x.length c] w (FedP w F g k (goH (.chk k s) x) 0 0 x) := by
  obtain ⟨p, F2, r, cr, n2, hF⟩ := h
  have cr0 := cr
  obtain ⟨gp, vp, rfl, hx⟩ := cr0
  have hok : CkOk s := hx.2.1
  have HF := landC.feed cr hb (fun hne p hp e => hA hne p hp ((hF _).2 (.inr e)))
  refine ⟨gp, r, HF.mono ?_⟩
  rintro e w' ⟨F', rfl, cr', hM, hF'⟩
  have r' := hM.row r n2
  have n2' : ¬ F' g := fun e => by
    rcases hF' g e with q | q
    · exact n2 q
    · have := r.lt; omega
  have hFF : ∀ j, (j = g ∨ F' j) → F j ∨ w.heap.size ≤ j := fun j hj => by
    rcases hj with e | e
    · exact .inl ((hF j).2 (.inl e))
    · rcases hF' j e with q | q
      · exact .inl ((hF j).2 (.inr q))
      · exact .inr q
  have C' : ChkR w' (fun j => j = g ∨ F' j) g k (feedC s x).2 := ⟨_, F', r', cr', n2', fun _ => Iff.rfl⟩
  obtain ⟨hgo, hle⟩ := go_chk (k := k) (b := x) hw hf
  have hok' := feedC_ok2 x hok
  have hxm : x.length ≤ 9223372036854775807 := Nat.le_trans hb.le hb.max
  have hn0 : (feedC s x).1.2.2 ≠ 0 → (feedC s x).1.1 = 0 := fun h => by
    unfold feedC at h ⊢
    rw [if_pos hf] at h ⊢
    exact goC_err0 x 0 s h
  refine ⟨hM.wide (fun i hi => (hF i).2 (.inr hi)), (feedC s x).1.1, (feedC s x).1.2.1, (feedC s x).1.2.2, rfl, ?_, ?_⟩
  · by_cases he : (feedC s x).1.2.2 = 0
    · have := hle he; omega
    · rw [hn0 he]; omega
  by_cases he : (feedC s x).1.2.2 = 0
  · right
    by_cases hwh : (feedC s x).1.2.1 = true
    · refine .inr ⟨he, hwh, hle he, (feedC s x).2.body, _, ?_, .inr ⟨_, C', rfl, ?_⟩, hFF⟩
      · rw [hgo]
        unfold chkH
        rw [if_neg (by simpa using he), if_pos hwh]
      · have := hok'.fits; have := hok'.most; omega
    · have hwf : (feedC s x).1.2.1 = false := by simpa using hwh
      obtain ⟨m1, m2, m3⟩ := feedC_more hf he hwf
      refine .inl ⟨he, hwf, m3, .chk k (feedC s x).2, _, ?_, (by simp), C', ⟨(fun h e => by cases e), (fun k' d' n' e => by cases e), (fun k' c' e => by injection e with e1 e2; subst e2; exact ⟨m1, m2, hok'⟩)⟩, hFF⟩
      rw [hgo]
      unfold chkH
      rw [if_neg (by simpa using he), if_neg (by simp [hwf])]
  · refine .inl ⟨he, ?_, (hF g).2 (.inl rfl), _, _, _, r'⟩
    rw [hgo]
    unfold chkH
    rw [if_pos he]
end Go.Proofs.YtjhameebehkdjaaGreatDoor
namespace Go.Proofs.YtjhameebehkdjaaGreatDoor
open Go.RowKit Go.Shelf
set_option linter.unusedVariables false
set_option maxRecDepth 100000

theorem FedP.fin {W w' : World} {F : Nat → Prop} {g : Nat} {k : Bool} {z : Tk} {x : Bs} {e : Ending} {w : World} {F0 : Nat → Prop} {s : Hs} {b : Bs} {a : Nat} (h : FedP W F g k z 0 0 x e w') (hm : Mod F0 w W) (hf : ∀ j, F j → F0 j ∨ w.heap.size ≤ j) (hz : goH s b = z) (hx : x = b.drop a) (ha : a ≤ b.length) (hg : F0 g) :
    ∃ (n : Nat) (wh : Bool) (er : Nat), e = .returned (.tuple #[.int .i64 n, .bool wh, .int .i64 er]) ∧ (n ≤ 9223372036854775807) ∧ (er = 0 → a + n ≤ b.length) ∧ (er ≠ 0 → TakeHQ w F0 g s b (.returned (.tuple #[.int .i64 (0 : Nat), .bool false, .int .i64 (130 : Nat)])) w') ∧ (er = 0 → TakeHQ w F0 g s b (.returned (.tuple #[.int .i64 (a + n : Nat), .bool wh, .int .i64 (0 : Nat)])) w') := by
  obtain ⟨hM, n, wh, er, he, hn, hc⟩ := h
  have hMM := hm.trans hM hf
  have hsz := hm.size
  have hFF : ∀ {P : Nat → Prop}, (∀ j, P j → F j ∨ W.heap.size ≤ j) → ∀ j, P j → F0 j ∨ w.heap.size ≤ j := fun hp j hj => by
    rcases hp j hj with q | q
    · exact hf j q
    · exact .inr (by omega)
  have hxl : x.length = b.length - a := by rw [hx, List.length_drop]
  refine ⟨n, wh, er, he, hn, fun h0 => ?_, fun h0 => ?_, fun h0 => ?_⟩
  · rcases hc with ⟨q, _⟩ | ⟨_, _, q, _⟩ | ⟨_, _, q, _⟩ <;> omega
  · rcases hc with ⟨_, q, _, hr⟩ | ⟨q, _⟩ | ⟨q, _⟩
    · exact ⟨hMM, 0, false, 130, rfl, .inl ⟨rfl, by rw [hz, q], hg, hr⟩⟩
    · exact absurd q h0
    · exact absurd q h0
  · rcases hc with ⟨q, _⟩ | ⟨_, q1, q2, s', F', q3, q4, q5, q6, q7⟩ | ⟨_, q1, q2, d, F', q3, q4, q5⟩
    · exact absurd h0 q
    · exact ⟨hMM, a + n, wh, 0, rfl, .inr (.inl ⟨rfl, q1, by omega, s', F', by rw [hz, q3], q4, q5, q6, hFF q7⟩)⟩
    · refine ⟨hMM, a + n, wh, 0, rfl, .inr (.inr ⟨rfl, q1, by omega, k, d, F', ?_, q4, hFF q5⟩)⟩
      rw [hz, q3, hx, List.drop_drop, Nat.add_comm]
set_option maxHeartbeats 4000000 in
set_option maxRecDepth 100000 in
theorem take_cnt (g : Nat) (F : Nat → Prop) (k : Bool) (d : Bs) (n : Nat) (A : Option Addr) (b : Bs) (c : Nat) (w : World) (h : CntR w F g k d n) (hn : d.length + n ≤ 65535) (h0 : 0 < n) (hb : Sl w A c b) :
    Calls Tryz.prog 95 #[.pointer (some ⟨g, 0, none⟩), .slice A b.length c] w (TakeHQ w F g (.cnt k d n) b) := by
  have hd : CntR w.drew F g k d n := h.mod (S := fun _ => False) (Mod.below (Below.drew (Below.refl _ _))) (fun _ _ h => h)
  have hbd : Sl w.drew A c b := hb.on (Below.drew (Below.refl _ _))
  obtain ⟨A', hsl, hb', _⟩ := hbd.rest 0 0 (Nat.zero_le _) rfl
  rw [List.drop_zero] at hsl hb'
  obtain ⟨g2, r, fd⟩ := fed_cnt hd hn hb'
  have hFg : F g := by obtain ⟨g3, v, r, cn, n2, ne, hF⟩ := h; exact (hF g).2 (.inl rfl)
  rw [if_neg (show ¬ n = 0 by omega)] at fd
  have FIN : Hid (∀ e w', FedP w.drew F g k (goH (.cnt k d n) b) 0 0 b e w' → ∃ (n' : Nat) (wh : Bool) (er : Nat), e = .returned (.tuple #[.int .i64 n', .bool wh, .int .i64 er]) ∧ (n' ≤ 9223372036854775807) ∧ (er = 0 → 0 + n' ≤ b.length) ∧ (er ≠ 0 → TakeHQ w F g (.cnt k d n) b (.returned (.tuple #[.int .i64 (0 : Nat), .bool false, .int .i64 (130 : Nat)])) w') ∧ (er = 0 → TakeHQ w F g (.cnt k d n) b (.returned (.tuple #[.int .i64 (0 + n' : Nat), .bool wh, .int .i64 (0 : Nat)])) w')) := Lib.hid (fun e w' q => FedP.fin q (Mod.below (Below.drew (Below.refl _ _))) (fun j hj => .inl hj) rfl rfl (Nat.zero_le _) hFg)
  have FEED := Lib.hid fd
  generalize FedP w.drew F g k (goH (.cnt k d n) b) 0 0 b = QF at *
  generalize TakeHQ w F g (.cnt k d n) b = Q at *
  have r0 : RRow w g false (.slice none 0 0) (.iface 154 (.pointer (some ⟨g2, 0, none⟩))) k := r
  have x3 := (cell_of_row _ g 3 _ _ _ r0).trans (show _ = some (Value.iface 154 (.pointer (some ⟨g2, 0, none⟩))) from rfl)
  have hbl : b.length ≤ 9223372036854775807 := Nat.le_trans hb.le hb.max
  generalize b.length = m at *
  rw [Nat.sub_zero] at FEED hsl
  clear h hn h0 hb hd hbd hb' r fd hFg r0
  go_enter Tryz.func95, Tryz.ntmps95
  go_wp2_with fail
  go_region_with (first | (go_at_call 161; (with_reducible refine FEED.out.mono ?_); intro e w4 hq; obtain ⟨n4, wh, er, rfl, q1, q2, q3, q4⟩ := FIN.out e w4 hq; clear hq))
  have HQ1 := Lib.hid q2
  have HQ2 := Lib.hid q3
  have HQ3 := Lib.hid q4
  clear q2 q3 q4 FIN FEED x3 hsl
  rcases Nat.eq_zero_or_pos er with rfl | hpos
  · have hle := HQ1.out rfl
    have HQ := Lib.hid (HQ3.out rfl)
    rw [Nat.zero_add] at HQ
    have e0 : (((0 : Nat) : Int) != 0) = false := rfl
    clear HQ1 HQ2 HQ3
    go_wp2_with fail
    exact HQ.out
  · have e0 : ((er : Int) != 0) = true := by rw [bne_iff_ne]; omega
    have HQ := Lib.hid (HQ2.out (by omega))
    clear HQ1 HQ2 HQ3
    go_wp2_with fail
    exact HQ.out
set_option maxHeartbeats 4000000 in
set_option maxRecDepth 100000 in
theorem take_chk (g : Nat) (F : Nat → Prop) (k : Bool) (s : Ck) (A : Option Addr) (b : Bs) (c : Nat) (w : World) (h : ChkR w F g k s) (hw : s.whole = false) (hf : s.fault = 0) (hb : Sl w A c b) (hA : b ≠ [] → Off F A) :
    Calls Tryz.prog 95 #[.pointer (some ⟨g, 0, none⟩), .slice A b.length c] w (TakeHQ w F g (.chk k s) b) := by
  have hd : ChkR w.drew F g k s := h.mod (S := fun _ => False) (Mod.below (Below.drew (Below.refl _ _))) (fun _ _ h => h)
  have hbd : Sl w.drew A c b := hb.on (Below.drew (Below.refl _ _))
  obtain ⟨A', hsl, hb', hpl⟩ := hbd.rest 0 0 (Nat.zero_le _) rfl
  rw [List.drop_zero] at hsl hb'
  obtain ⟨gp, r, fd⟩ := fed_chk hd hw hf hb' (fun hne p hp => by
    obtain ⟨a, ha, e⟩ := hpl p hp
    rw [e]
    exact hA hne a ha)
  have hFg : F g := by obtain ⟨p, F2, r, cr, n2, hF⟩ := h; exact (hF g).2 (.inl rfl)
  have FIN : Hid (∀ e w', FedP w.drew F g k (goH (.chk k s) b) 0 0 b e w' → ∃ (n' : Nat) (wh : Bool) (er : Nat), e = .returned (.tuple #[.int .i64 n', .bool wh, .int .i64 er]) ∧ (n' ≤ 9223372036854775807) ∧ (er = 0 → 0 + n' ≤ b.length) ∧ (er ≠ 0 → TakeHQ w F g (.chk k s) b (.returned (.tuple #[.int .i64 (0 : Nat), .bool false, .int .i64 (130 : Nat)])) w') ∧ (er = 0 → TakeHQ w F g (.chk k s) b (.returned (.tuple #[.int .i64 (0 + n' : Nat), .bool wh, .int .i64 (0 : Nat)])) w')) := Lib.hid (fun e w' q => FedP.fin q (Mod.below (Below.drew (Below.refl _ _))) (fun j hj => .inl hj) rfl rfl (Nat.zero_le _) hFg)
  have FEED := Lib.hid fd
  generalize FedP w.drew F g k (goH (.chk k s) b) 0 0 b = QF at *
  generalize TakeHQ w F g (.chk k s) b = Q at *
  have r0 : RRow w g false (.slice none 0 0) (.iface 152 (.pointer (some ⟨gp, 0, none⟩))) k := r
  have x3 := (cell_of_row _ g 3 _ _ _ r0).trans (show _ = some (Value.iface 152 (.pointer (some ⟨gp, 0, none⟩))) from rfl)
  have hbl : b.length ≤ 9223372036854775807 := Nat.le_trans hb.le hb.max
  generalize b.length = m at *
  rw [Nat.sub_zero] at FEED hsl
  clear h hw hf hb hd hbd hb' r fd hFg r0 hA hpl
  go_enter Tryz.func95, Tryz.ntmps95
  go_wp2_with fail
  go_region_with (first | (go_at_call 150; (with_reducible refine FEED.out.mono ?_); intro e w4 hq; obtain ⟨n4, wh, er, rfl, q1, q2, q3, q4⟩ := FIN.out e w4 hq; clear hq))
  have HQ1 := Lib.hid q2
  have HQ2 := Lib.hid q3
  have HQ3 := Lib.hid q4
  clear q2 q3 q4 FIN FEED x3 hsl
  rcases Nat.eq_zero_or_pos er with rfl | hpos
  · have hle := HQ1.out rfl
    have HQ := Lib.hid (HQ3.out rfl)
    rw [Nat.zero_add] at HQ
    have e0 : (((0 : Nat) : Int) != 0) = false := rfl
    clear HQ1 HQ2 HQ3
    go_wp2_with fail
    exact HQ.out
  · have e0 : ((er : Int) != 0) = true := by rw [bne_iff_ne]; omega
    have HQ := Lib.hid (HQ2.out (by omega))
    clear HQ1 HQ2 HQ3
    go_wp2_with fail
    exact HQ.out
set_option maxHeartbeats 4000000 in
set_option maxRecDepth 100000 in
theorem take_hd (g : Nat) (F : Nat → Prop) (h : Bs) (A : Option Addr) (b : Bs) (c : Nat) (w : World) (hr : HdR w F g h) (hl : h.length < 2000) (hok : ∃ L p cr, HdOk h L p cr) (hb : Sl w A c b) (hA : b ≠ [] → Off F A) (hM : MaxL w) (hMF : ¬ F (Tryz.lays146_ren.g 1)) :
    Calls Tryz.prog 95 #[.pointer (some ⟨g, 0, none⟩), .slice A b.length c] w (TakeHQ w F g (.hd h) b) := by
  have TH := Lib.hid (takeHead_any g F h A b c w hr hl hok hb hA hM hMF)
  have hFg : F g := by obtain ⟨v, k, r, o, ne, hF⟩ := hr; exact (hF g).2 (.inl rfl)
  have FG := Lib.hid hFg
  have HB : Hid (∀ (W : World), Mod F w W → Sl W A c b) := Lib.hid (fun W k => ⟨fun hl => (hb.bys.mod k (hA (fun e => by rw [e] at hl; simp at hl))) hl, hb.le, hb.max, hb.nil⟩)
  have HAA : Hid (∀ (F2 : Nat → Prop), (∀ j, F2 j → F j ∨ w.heap.size ≤ j) → b ≠ [] → Off F2 A) := Lib.hid (fun F2 h2 hne p hp e => by
    rcases h2 _ e with q | q
    · exact hA hne p hp q
    · have := hb.inside p hp (List.length_pos_iff.2 hne); omega)
  have hbl : b.length ≤ 9223372036854775807 := Nat.le_trans hb.le hb.max
  have HL := Lib.hid hbl
  have TP : Hid (∀ e w', TakeHP w F g h b e w' → TakeHP w F g h b e w') := Lib.hid (fun _ _ h => h)
  obtain ⟨v, k0, r, o, ne, hF⟩ := hr
  have x30 := (cell_of_row _ g 3 _ _ _ r).trans (show _ = some Value.nilIface from rfl)
  clear hl hok hb hA hM hMF hFg r o ne hF hbl
  have HD : Hid (∀ e w', TakeHQ w F g (.hd h) b e w' ↔ TakeHQ w F g (.hd h) b e w') := Lib.hid (fun _ _ => Iff.rfl)
  go_enter Tryz.func95, Tryz.ntmps95
  go_wp2_with fail
  refine TH.out.mono ?_
  clear x30 TH
  intro e w1 hq
  obtain ⟨hM, n1, ok, rfl, hcase⟩ := hq
  rcases hcase with ⟨rfl, hgo, hv, bv, kk, hrr⟩ | ⟨h', F2, rfl, hn1, hgo, hc, hF2, hl', hok'⟩ | ⟨k, F2, rfl, hn1, hgo, hc, hF2⟩ | ⟨k, m1, F2, rfl, hn1, hm1, hgo, hc, hF2⟩
  · have HQ : Hid (TakeHQ w F g (.hd h) b (.returned (.tuple #[.int .i64 (0 : Nat), .bool false, .int .i64 (130 : Nat)])) w1) := Lib.hid ⟨hM, 0, false, 130, rfl, .inl ⟨rfl, hgo, FG.out, hv, bv, kk, hrr⟩⟩
    generalize TakeHQ w F g (.hd h) b = Q at *
    clear hM hgo hrr HB HAA TP FG HD
    go_wp2_with fail
    exact HQ.out
  · have HQ : Hid (TakeHQ w F g (.hd h) b (.returned (.tuple #[.int .i64 n1, .bool false, .int .i64 (0 : Nat)])) w1) := Lib.hid ⟨hM, n1, false, 0, rfl, .inr (.inl ⟨rfl, rfl, hn1, .hd h', F2, hgo, (by simp), hc, ⟨(fun x e => by injection e with e; subst e; exact ⟨hl', hok'⟩), (fun k' d' n' e => by cases e), (fun k' c' e => by cases e)⟩, hF2⟩)⟩
    obtain ⟨v, k1, r, o, ne, hFF⟩ := hc
    have x3 := (cell_of_row _ g 3 _ _ _ r).trans (show _ = some Value.nilIface from rfl)
    generalize TakeHQ w F g (.hd h) b = Q at *
    clear hM hgo HB HAA TP FG HD r o ne hFF hF2 hl' hok' hn1
    go_wp2_with fail
    exact HQ.out
  · skip
    have hd := hc.mod (S := fun _ => False) (Mod.below (Below.drew (Below.refl _ _))) (fun _ _ h => h)
    have hnb : n1 ≤ b.length := hn1
    have hM1 : Mod F w w1.drew := hM.drew
    have hbd : Sl w1.drew A c b := HB.out _ hM1
    obtain ⟨A', hsl, hb', hpl⟩ := hbd.rest n1 n1 hnb rfl
    obtain ⟨x, hx⟩ : ∃ x, x = b.drop n1 := ⟨_, rfl⟩
    rw [← hx] at hsl hb' hgo
    obtain ⟨gp, r, fd⟩ := fed_chk hd rfl rfl hb' (fun hne p hp => by
      obtain ⟨a, ha, e⟩ := hpl p hp
      rw [e]
      exact HAA.out F2 hF2 (fun e => hne (by rw [hx, e]; simp)) a ha)
    have hz : goH (.hd h) b = goH (.chk k (newC 65535)) x := hgo
    have FIN : Hid (∀ e w', FedP w1.drew F2 g k (goH (.chk k (newC 65535)) x) 0 0 x e w' → ∃ (n' : Nat) (wh : Bool) (er : Nat), e = .returned (.tuple #[.int .i64 n', .bool wh, .int .i64 er]) ∧ (n' ≤ 9223372036854775807) ∧ (er = 0 → n1 + n' ≤ b.length) ∧ (er ≠ 0 → TakeHQ w F g (.hd h) b (.returned (.tuple #[.int .i64 (0 : Nat), .bool false, .int .i64 (130 : Nat)])) w') ∧ (er = 0 → TakeHQ w F g (.hd h) b (.returned (.tuple #[.int .i64 (n1 + n' : Nat), .bool wh, .int .i64 (0 : Nat)])) w')) := Lib.hid (fun e w' q => FedP.fin q hM1 hF2 hz hx hnb FG.out)
    have FEED := Lib.hid fd
    generalize FedP w1.drew F2 g k (goH (.chk k (newC 65535)) x) 0 0 x = QF at *
    generalize TakeHQ w F g (.hd h) b = Q at *
    have r0 : RRow w1 g false (.slice none 0 0) (.iface 152 (.pointer (some ⟨gp, 0, none⟩))) k := r
    have x3 := (cell_of_row _ g 3 _ _ _ r0).trans (show _ = some (Value.iface 152 (.pointer (some ⟨gp, 0, none⟩))) from rfl)
    have hbl := HL.out
    have hn1' : (n1 : Int) ≤ (b.length : Int) := by omega
    generalize b.length = m at *
    generalize x.length = xl at *
    clear hd hbd hb' r fd r0 hpl hz hgo hn1 hM hM1 hF2 hc hx
    go_wp2_with fail
    go_region_with (first | (go_at_call 150; (with_reducible refine FEED.out.mono ?_); intro e w4 hq; obtain ⟨n4, wh, er, rfl, q1, q2, q3, q4⟩ := FIN.out e w4 hq; clear hq))
    have HQ1 := Lib.hid q2
    have HQ2 := Lib.hid q3
    have HQ3 := Lib.hid q4
    clear q2 q3 q4 FIN FEED x3 hsl
    rcases Nat.eq_zero_or_pos er with rfl | hpos
    · have hle := HQ1.out rfl
      have HQ := Lib.hid (HQ3.out rfl)
      have hc1 : (n1 : Int) + (n4 : Int) = ((n1 + n4 : Nat) : Int) := by omega
      have hw1 : (n1 : Int) + (n4 : Int) ≤ 9223372036854775807 := by omega
      rw [← hc1] at HQ
      clear hc1
      have e0 : (((0 : Nat) : Int) != 0) = false := rfl
      clear HQ1 HQ2 HQ3
      go_wp2_with fail
      exact HQ.out
    · have e0 : ((er : Int) != 0) = true := by rw [bne_iff_ne]; omega
      have HQ := Lib.hid (HQ2.out (by omega))
      clear HQ1 HQ2 HQ3
      go_wp2_with fail
      exact HQ.out
  · skip
    have hd := hc.mod (S := fun _ => False) (Mod.below (Below.drew (Below.refl _ _))) (fun _ _ h => h)
    have hnb : n1 ≤ b.length := hn1
    have hM1 : Mod F w w1.drew := hM.drew
    have hbd : Sl w1.drew A c b := HB.out _ hM1
    obtain ⟨A', hsl, hb', hpl⟩ := hbd.rest n1 n1 hnb rfl
    obtain ⟨x, hx⟩ : ∃ x, x = b.drop n1 := ⟨_, rfl⟩
    rw [← hx] at hsl hb' hgo
    obtain ⟨g2, r, fd⟩ := fed_cnt hd (by simpa using hm1) hb'
    have hz : goH (.hd h) b = if m1 = 0 then thenH (nextH k []) (goH (nextH k []).1 x) else goH (.cnt k [] m1) x := by rw [hgo]; unfold behindH; by_cases h0 : m1 = 0 <;> simp [h0, thenH_eq]
    have FIN : Hid (∀ e w', FedP w1.drew F2 g k (if m1 = 0 then thenH (nextH k []) (goH (nextH k []).1 x) else goH (.cnt k [] m1) x) 0 0 x e w' → ∃ (n' : Nat) (wh : Bool) (er : Nat), e = .returned (.tuple #[.int .i64 n', .bool wh, .int .i64 er]) ∧ (n' ≤ 9223372036854775807) ∧ (er = 0 → n1 + n' ≤ b.length) ∧ (er ≠ 0 → TakeHQ w F g (.hd h) b (.returned (.tuple #[.int .i64 (0 : Nat), .bool false, .int .i64 (130 : Nat)])) w') ∧ (er = 0 → TakeHQ w F g (.hd h) b (.returned (.tuple #[.int .i64 (n1 + n' : Nat), .bool wh, .int .i64 (0 : Nat)])) w')) := Lib.hid (fun e w' q => FedP.fin q hM1 hF2 hz hx hnb FG.out)
    have FEED := Lib.hid fd
    generalize FedP w1.drew F2 g k (if m1 = 0 then thenH (nextH k []) (goH (nextH k []).1 x) else goH (.cnt k [] m1) x) 0 0 x = QF at *
    generalize TakeHQ w F g (.hd h) b = Q at *
    have r0 : RRow w1 g false (.slice none 0 0) (.iface 154 (.pointer (some ⟨g2, 0, none⟩))) k := r
    have x3 := (cell_of_row _ g 3 _ _ _ r0).trans (show _ = some (Value.iface 154 (.pointer (some ⟨g2, 0, none⟩))) from rfl)
    have hbl := HL.out
    have hn1' : (n1 : Int) ≤ (b.length : Int) := by omega
    generalize b.length = m at *
    generalize x.length = xl at *
    clear hd hbd hb' r fd r0 hpl hz hgo hn1 hM hM1 hF2 hc hx
    go_wp2_with fail
    go_region_with (first | (go_at_call 161; (with_reducible refine FEED.out.mono ?_); intro e w4 hq; obtain ⟨n4, wh, er, rfl, q1, q2, q3, q4⟩ := FIN.out e w4 hq; clear hq))
    have HQ1 := Lib.hid q2
    have HQ2 := Lib.hid q3
    have HQ3 := Lib.hid q4
    clear q2 q3 q4 FIN FEED x3 hsl
    rcases Nat.eq_zero_or_pos er with rfl | hpos
    · have hle := HQ1.out rfl
      have HQ := Lib.hid (HQ3.out rfl)
      have hc1 : (n1 : Int) + (n4 : Int) = ((n1 + n4 : Nat) : Int) := by omega
      have hw1 : (n1 : Int) + (n4 : Int) ≤ 9223372036854775807 := by omega
      rw [← hc1] at HQ
      clear hc1
      have e0 : (((0 : Nat) : Int) != 0) = false := rfl
      clear HQ1 HQ2 HQ3
      go_wp2_with fail
      exact HQ.out
    · have e0 : ((er : Int) != 0) = true := by rw [bne_iff_ne]; omega
      have HQ := Lib.hid (HQ2.out (by omega))
      clear HQ1 HQ2 HQ3
      go_wp2_with fail
      exact HQ.out
end Go.Proofs.YtjhameebehkdjaaGreatDoor
namespace Go.Proofs.YtjhameebehkdjaaGreatDoor
open Go.RowKit Go.Shelf
set_option linter.unusedVariables false
set_option maxRecDepth 100000

theorem countedBody_any (g : Nat) (v : Value) (d : Bs) (n : Nat) (w : World) (h : Cnt w g v d n) : Calls Tryz.prog 160 #[.pointer (some ⟨g, 0, none⟩)] w fun e w' => e = .returned v ∧ w' = w := by
  have c0 := (cell_of_row _ g 0 _ _ _ h.row).trans (show _ = some v from rfl)
  obtain ⟨A, c, rfl, -⟩ := h.own.bysN
  clear h
  go_enter Tryz.func160, Tryz.ntmps160
  go_wp2_with fail
  go_ret
  exact ⟨rfl, rfl⟩
/-- What Body answers, whichever body it is. -/
def BodyHP (w : World) (F : Nat → Prop) (g : Nat) (d : Bs) (e : Ending) (w' : World) : Prop := ∃ A c, e = .returned (.slice A d.length c) ∧ OwnB w' 0 (.slice A d.length c) d ∧ Below w.heap.size w w' ∧ ∀ j, (Value.slice A d.length c).ownBlock = some j → (F j ∧ j ≠ g) ∨ w.heap.size ≤ j
/-- What next answers. -/
def NextP (w : World) (F : Nat → Prop) (g : Nat) (k : Bool) (d : Bs) (e : Ending) (w' : World) : Prop := ∃ A c F', e = .returned (.agg #[.string (bs reqL), .slice A d.length c, .bool k]) ∧ OwnB w' 0 (.slice A d.length c) d ∧ Mod (fun j => j = g) w w' ∧ (∀ j, (Value.slice A d.length c).ownBlock = some j → (F j ∧ j ≠ g) ∨ w.heap.size ≤ j) ∧ LHs w' F' g (nextH k d).1 ∧ ∀ j, F' j ↔ j = g
theorem full_body {w : World} {F : Nat → Prop} {g : Nat} {k : Bool} {d : Bs} (h : FullR w F g k d) : ∃ (T : TypeId) (fB : FuncId) (gb : Nat), RRow w g false (.slice none 0 0) (.iface T (.pointer (some ⟨gb, 0, none⟩))) k ∧
    ((T = 154 ∧ fB = 160) ∨ (T = 152 ∧ fB = 149)) ∧ ∀ W, Below w.heap.size w W → Calls Tryz.prog fB #[.pointer (some ⟨gb, 0, none⟩)] W (BodyHP W F g d) := by
  rcases h with ⟨g2, v, r, c, n2, ne, hF⟩ | ⟨s, ⟨p, F2, r, c, n2, hF⟩, hs, hd⟩
  · refine ⟨_, _, g2, r, .inl ⟨rfl, rfl⟩, fun W k => ?_⟩
    have c' := c.mod (S := fun _ => False) (Mod.below k) (fun h => h) (fun _ _ h => h)
    refine (countedBody_any g2 v d 0 W c').mono ?_
    rintro e w' ⟨rfl, rfl⟩
    obtain ⟨A, cc, hv, -⟩ := c'.own.bysN
    subst hv
    exact ⟨A, cc, rfl, c'.own, Below.refl _ _, fun j hj => .inl ⟨(hF j).2 (.inr (.inr hj)), fun e => ne (e ▸ hj)⟩⟩
  · obtain ⟨gp, vp, hp, hx⟩ := id c
    subst hp
    refine ⟨_, _, gp, r, .inr ⟨rfl, rfl⟩, fun W k => ?_⟩
    refine (landC.body (landC.on c k)).mono ?_
    rintro e w' ⟨v, rfl, o, kk⟩
    rw [hs] at o
    obtain ⟨A, cc, hv, -⟩ := o.bysN
    subst hv
    exact ⟨A, cc, rfl, o.mono (Nat.zero_le _), kk, fun j hj => .inr (o.lt j hj).1⟩
theorem info_rq : (Tryz.prog.info? 139).map (·.size) = some 3 := by kernel_rfl
set_option maxHeartbeats 4000000 in
set_option maxRecDepth 100000 in
theorem next_any (g : Nat) (F : Nat → Prop) (k : Bool) (d : Bs) (w : World) (h : FullR w F g k d) : Calls Tryz.prog 97 #[.pointer (some ⟨g, 0, none⟩)] w (NextP w F g k d) := by
  have hlt : ∀ j, F j → j < w.heap.size := by
    rcases h with h | ⟨s, h, -, -⟩
    · exact LHs.lt (s := .cnt k d 0) h
    · exact LHs.lt (s := .chk k s) h
  obtain ⟨T, fB, gb, r, hT, hB⟩ := full_body h
  obtain ⟨W1, hW1⟩ : ∃ W1, W1 = w.alloc (.cells #[.string ⟨#[]⟩, .slice none 0 0, .bool false] 139) := ⟨_, rfl⟩
  have k1 : Below w.heap.size w W1 := by rw [hW1]; exact Below.alloc (Below.refl _ _) (Nat.le_refl _) _
  have z1 : W1.heap.size = w.heap.size + 1 := by rw [hW1]; simp
  have q1 : W1.heap[w.heap.size]? = some (.cells #[.string ⟨#[]⟩, .slice none 0 0, .bool false] 139 (0, 0)) := by rw [hW1]; exact row_new _ rfl
  have BD : Hid (∀ W', Below W1.heap.size W1 W' → Calls Tryz.prog fB #[.pointer (some ⟨gb, 0, none⟩)] W' fun e w' => ∃ A c, e = .returned (.slice A d.length c) ∧ OwnB w' 0 (.slice A d.length c) d ∧ Below W'.heap.size W' w' ∧ ∀ j, (Value.slice A d.length c).ownBlock = some j → (F j ∧ j ≠ g ∧ j < w.heap.size) ∨ W'.heap.size ≤ j) := Lib.hid (fun W' kk => (hB W' (k1.trans (kk.mono k1.size))).mono (fun e w' ⟨A, c, h1, h2, h3, h4⟩ => ⟨A, c, h1, h2, h3, fun j hj => by
    rcases h4 j hj with q | q
    · exact .inl ⟨q.1, q.2, hlt j q.1⟩
    · exact .inr q⟩))
  have glt : g < w.heap.size := r.lt
  have PP : Hid (∀ W' : World, W1.heap.size ≤ W'.heap.size → ∀ v : Value, (∀ j, v.ownBlock = some j → (F j ∧ j ≠ g ∧ j < w.heap.size) ∨ W'.heap.size ≤ j) → ∀ j, v.ownBlock = some j → ((F j ∧ j ≠ g) ∨ w.heap.size ≤ j) ∧ j ≠ g ∧ j ≠ w.heap.size) := Lib.hid (fun W' hs v h4 j hj => by
    rcases h4 j hj with q | q
    · exact ⟨.inl ⟨q.1, q.2.1⟩, q.2.1, by omega⟩
    · exact ⟨.inr (by omega), by omega, by omega⟩)
  have NN : Hid (∀ v : Value, (∀ j, v.ownBlock = some j → (F j ∧ j ≠ g ∧ j < w.heap.size) ∨ (W1.alloc (.cells #[.string ⟨#[]⟩, .slice none 0 0, .bool false] 139)).drew.heap.size ≤ j) → ∀ j, v.ownBlock = some j → j ≠ W1.heap.size) := Lib.hid (fun v h4 j hj => by
    have hz : (W1.alloc (.cells #[.string ⟨#[]⟩, .slice none 0 0, .bool false] 139)).drew.heap.size = W1.heap.size + 1 := by show (W1.alloc _).heap.size = _; simp
    rcases h4 j hj with q | q <;> omega)
  have r1 := r.on k1
  have x3 := (cell_of_row _ g 3 _ _ _ r1).trans (show _ = some (Value.iface T (.pointer (some ⟨gb, 0, none⟩))) from rfl)
  have x4 := (cell_of_row _ g 4 _ _ _ r1).trans (show _ = some (Value.bool k) from rfl)
  have HW1 := Lib.hid hW1
  have Q1 := Lib.hid q1
  have R1 := Lib.hid r1
  have K1 := Lib.hid k1
  have Z1 := Lib.hid z1
  have GLT := Lib.hid glt
  clear h hB hW1 k1 z1 q1 r r1 hlt glt
  rcases hT with ⟨rfl, rfl⟩ | ⟨rfl, rfl⟩
  · go_enter Tryz.func97, Tryz.ntmps97
    go_wp2_with fail
    rw [← HW1.out]
    have F3 : ∀ w', Below W1.heap.size W1 w' → w'.cell? ⟨g, 3, none⟩ = some (.iface 154 (.pointer (some ⟨gb, 0, none⟩))) := fun w' kk => cell_on x3 kk
    have F4 : ∀ w', Below W1.heap.size W1 w' → w'.cell? ⟨g, 4, none⟩ = some (.bool k) := fun w' kk => cell_on x4 kk
    have set3 : ∀ (w4 : World) (a b c : Value), Below W1.heap.size W1 w4 → Below W1.heap.size W1 (((w4.setCell ⟨W1.heap.size, 0, none⟩ a).setCell ⟨W1.heap.size, 1, none⟩ b).setCell ⟨W1.heap.size, 2, none⟩ c) := fun w4 a b c kk => ((kk.setCell (Nat.le_refl _) _).setCell (Nat.le_refl _) _).setCell (Nat.le_refl _) _
    have kd : Below W1.heap.size W1 W1.drew := Below.drew (Below.refl _ _)
    have kd2 : Below W1.heap.size W1 (W1.alloc (.cells #[.string ⟨#[]⟩, .slice none 0 0, .bool false] 139)).drew := Below.drew (Below.alloc (Below.refl _ _) (Nat.le_refl _) _)
    have YQ : Hid (∀ w4, Below (W1.alloc (.cells #[.string ⟨#[]⟩, .slice none 0 0, .bool false] 139)).drew.heap.size (W1.alloc (.cells #[.string ⟨#[]⟩, .slice none 0 0, .bool false] 139)).drew w4 → w4.heap[W1.heap.size]? = some (.cells #[.string ⟨#[]⟩, .slice none 0 0, .bool false] 139 (0, 0)) ∧ Below W1.heap.size W1 w4) := Lib.hid (fun w4 kk => by
      have q : (W1.alloc (.cells #[.string ⟨#[]⟩, .slice none 0 0, .bool false] 139)).drew.heap[W1.heap.size]? = some (.cells #[.string ⟨#[]⟩, .slice none 0 0, .bool false] 139 (0, 0)) := row_new (w := W1) _ rfl
      exact ⟨(kk.block _ (Array.getElem?_eq_some_iff.1 q).1).trans q, kd2.trans (kk.mono kd2.size)⟩)
    go_region_held3 (fun w' => Below W1.heap.size W1 w')
      (first | assumption | exact Below.drew (by assumption) | exact Below.alloc (by assumption) (Below.size (by assumption)) _ | exact Below.alloc (Below.drew (by assumption)) (Below.size (by assumption)) _ | exact set3 _ _ _ _ (by assumption))
      (first
        | (go_at_call 160; (with_reducible refine (BD.out _ kd).mono ?_); rintro e w4 ⟨A, c, rfl, o4, k4, p4⟩; have kw4 : Below W1.heap.size W1 w4 := ⟨k4.os, k4.tape, k4.output, k4.size, k4.block⟩; have O4 := Lib.hid o4; have P4 := Lib.hid (PP.out _ (show W1.heap.size ≤ W1.drew.heap.size from Nat.le_refl _) _ p4); clear o4 p4 k4)
        | (go_at_call 160; (with_reducible refine (BD.out _ kd2).mono ?_); rintro e w4 ⟨A, c, rfl, o4, k4, p4⟩; obtain ⟨qr4, kw4⟩ := YQ.out w4 k4; have O4 := Lib.hid o4; have P4 := Lib.hid (PP.out _ kd2.size _ p4); have N4 := Lib.hid (NN.out _ p4); have y0 := (cell_of_row _ _ 0 _ _ _ qr4).trans (show _ = some (Value.string ⟨#[]⟩) from rfl); have y1 := (cell_of_row _ _ 1 _ _ _ qr4).trans (show _ = some (Value.slice none 0 0) from rfl); have y2 := (cell_of_row _ _ 2 _ _ _ qr4).trans (show _ = some (Value.bool false) from rfl); have yf := fun j => frozen_of_row _ W1.heap.size j _ _ qr4; clear o4 p4 k4))
    · obtain ⟨W5, hW5⟩ : ∃ W5, W5 = w4.alloc (.cells #[.string ⟨#[80, 79, 83, 84, 32, 47, 100, 110, 115, 45, 113, 117, 101, 114, 121, 32, 72, 84, 84, 80, 47, 49, 46, 49]⟩, .slice A d.length c, .bool k] 139) := ⟨_, rfl⟩
      have b5 : Below w4.heap.size w4 W5 := by rw [hW5]; exact Below.alloc (Below.refl _ _) (Nat.le_refl _) _
      have r5 : W5.heap[w4.heap.size]? = some (.cells #[.string ⟨#[80, 79, 83, 84, 32, 47, 100, 110, 115, 45, 113, 117, 101, 114, 121, 32, 72, 84, 84, 80, 47, 49, 46, 49]⟩, .slice A d.length c, .bool k] 139 (0, 0)) := by rw [hW5]; exact row_new _ rfl
      have o5 := O4.out.below b5 (Nat.le_refl _)
      have k5 := kw4.trans (b5.mono kw4.size)
      have q5 : W1.heap.size ≤ w4.heap.size := kw4.size
      rw [← hW5]
      clear hW5 b5 kw4
      have t5 := (k5.block _ (by have := Z1.out; omega)).trans Q1.out
      have R5 := R1.out.on k5
      have x2 := (cell_of_row _ _ 2 _ _ _ r5).trans (show _ = some (Value.bool k) from rfl)
      have RN := Lib.hid (renewH_any g _ _ _ _ W5 (!k) R5)
      have CC : Hid (∀ w6, W5.grownBy w6 (some g) → RRow w6 g (!k) (.slice none 0 0) .nilIface false → w6.heap[w.heap.size]? = some (.cells #[.string ⟨#[]⟩, .slice none 0 0, .bool false] 139 (0, 0)) ∧ w6.cell? ⟨w4.heap.size, 0, none⟩ = some (.string ⟨#[80, 79, 83, 84, 32, 47, 100, 110, 115, 45, 113, 117, 101, 114, 121, 32, 72, 84, 84, 80, 47, 49, 46, 49]⟩) ∧ w6.cell? ⟨w4.heap.size, 1, none⟩ = some (.slice A d.length c) ∧ w6.cell? ⟨w4.heap.size, 2, none⟩ = some (.bool k) ∧
          NextP w F g k d (.returned (.agg #[.string ⟨#[80, 79, 83, 84, 32, 47, 100, 110, 115, 45, 113, 117, 101, 114, 121, 32, 72, 84, 84, 80, 47, 49, 46, 49]⟩, .slice A d.length c, .bool k])) (w6.setRow w.heap.size #[.string ⟨#[80, 79, 83, 84, 32, 47, 100, 110, 115, 45, 113, 117, 101, 114, 121, 32, 72, 84, 84, 80, 47, 49, 46, 49]⟩, .slice A d.length c, .bool k])) := Lib.hid (fun w6 g6 r6 => by
        have ne1 : w.heap.size ≠ g := by have := GLT.out; omega
        have ne2 : w4.heap.size ≠ g := by have := GLT.out; have := Z1.out; omega
        have rq := (g6.block _ (Array.getElem?_eq_some_iff.1 r5).1 (by simpa using ne2)).trans r5
        have rt := (g6.block _ (Array.getElem?_eq_some_iff.1 t5).1 (by simpa using ne1)).trans t5
        have gs := grownBy_setRow (w := w6) (g := w.heap.size) #[.string ⟨#[80, 79, 83, 84, 32, 47, 100, 110, 115, 45, 113, 117, 101, 114, 121, 32, 72, 84, 84, 80, 47, 49, 46, 49]⟩, .slice A d.length c, .bool k]
        have o6 := o5.kept g6 (by
          cases hv : (Value.slice A d.length c).ownBlock with
          | none => exact .inl rfl
          | some j => right; intro e; injection e with e; exact (P4.out j hv).2.1 e)
        have o7 := o6.kept gs (by
          cases hv : (Value.slice A d.length c).ownBlock with
          | none => exact .inl rfl
          | some j => right; intro e; injection e with e; exact (P4.out j hv).2.2 e)
        have r7 : RRow (w6.setRow w.heap.size #[.string ⟨#[80, 79, 83, 84, 32, 47, 100, 110, 115, 45, 113, 117, 101, 114, 121, 32, 72, 84, 84, 80, 47, 49, 46, 49]⟩, .slice A d.length c, .bool k]) g (!k) (.slice none 0 0) .nilIface false := (gs.block _ r6.lt (by simpa using ne1.symm)).trans r6
        have M7 : Mod (fun j => j = g) w (w6.setRow w.heap.size #[.string ⟨#[80, 79, 83, 84, 32, 47, 100, 110, 115, 45, 113, 117, 101, 114, 121, 32, 72, 84, 84, 80, 47, 49, 46, 49]⟩, .slice A d.length c, .bool k]) := ((Mod.below (K1.out.trans (k5.mono K1.out.size))).trans (Mod.grown (S := fun j => j = g) g6 (fun j hj => by injection hj with hj; exact hj.symm)) (fun i hi => .inl hi)).trans (Mod.grown (S := fun j => j = w.heap.size) gs (fun j hj => by injection hj with hj; exact hj.symm)) (fun i hi => .inr (by omega))
        refine ⟨rt, (cell_of_row _ _ 0 _ _ _ rq).trans rfl, (cell_of_row _ _ 1 _ _ _ rq).trans rfl, (cell_of_row _ _ 2 _ _ _ rq).trans rfl, A, c, fun j => j = g, rfl, o7, M7, fun j hj => (P4.out j hj).1, ?_, fun _ => Iff.rfl⟩
        cases k with
        | true => exact ⟨_, _, r7, .inl ⟨rfl, rfl⟩, by simp [Value.ownBlock], fun j => by simp [Value.ownBlock]⟩
        | false => exact ⟨_, _, _, r7, fun _ => Iff.rfl⟩)
      have IR : Hid ((Tryz.prog.info? 139).map (·.size) = some (#[.string ⟨#[80, 79, 83, 84, 32, 47, 100, 110, 115, 45, 113, 117, 101, 114, 121, 32, 72, 84, 84, 80, 47, 49, 46, 49]⟩, .slice A d.length c, .bool k] : Array Value).size) := Lib.hid info_rq
      have OR : Hid ((#[.string ⟨#[80, 79, 83, 84, 32, 47, 100, 110, 115, 45, 113, 117, 101, 114, 121, 32, 72, 84, 84, 80, 47, 49, 46, 49]⟩, .slice A d.length c, .bool k] : Array Value).all (·.oneCell') = true) := Lib.hid (by simp [Value.oneCell'])
      clear t5 R5 r5 o5 k5 q5 F3 F4 set3 kd kd2 x3 x4
      generalize NextP w F g k d = Q at *
      go_wp2_with fail
      refine RN.out.mono ?_
      rintro e w6 ⟨rfl, g6, r6⟩
      obtain ⟨rt, c0, c1, c2, hN⟩ := CC.out w6 g6 r6
      have RT := Lib.hid rt
      have HN := Lib.hid hN
      clear g6 r6 hN CC rt x2 RN
      go_wp2_with (first
        | (refine wpList_store_row rfl 139 (.tmp 2) (.tmp 19) rfl w.heap.size #[.string ⟨#[80, 79, 83, 84, 32, 47, 100, 110, 115, 45, 113, 117, 101, 114, 121, 32, 72, 84, 84, 80, 47, 49, 46, 49]⟩, .slice A d.length c, .bool k] rfl rfl 139 _ RT.out IR.out rfl OR.out ?_)
        | fail)
      have rF := setRow_heap _ _ _ #[.string ⟨#[80, 79, 83, 84, 32, 47, 100, 110, 115, 45, 113, 117, 101, 114, 121, 32, 72, 84, 84, 80, 47, 49, 46, 49]⟩, .slice A d.length c, .bool k] _ _ RT.out
      refine bodyPost_ret (v := .agg #[.string ⟨#[80, 79, 83, 84, 32, 47, 100, 110, 115, 45, 113, 117, 101, 114, 121, 32, 72, 84, 84, 80, 47, 49, 46, 49]⟩, .slice A d.length c, .bool k]) (results_cell_row (by rfl) _ _ w.heap.size 139 #[.string ⟨#[80, 79, 83, 84, 32, 47, 100, 110, 115, 45, 113, 117, 101, 114, 121, 32, 72, 84, 84, 80, 47, 49, 46, 49]⟩, .slice A d.length c, .bool k] (0, 0) _ rfl rF Tryz.underlying139 rfl IR.out) rfl ?_
      exact HN.out
    · obtain ⟨W5, hW5⟩ : ∃ W5, W5 = ((w4.setCell ⟨W1.heap.size, 0, none⟩ (.string ⟨#[80, 79, 83, 84, 32, 47, 100, 110, 115, 45, 113, 117, 101, 114, 121, 32, 72, 84, 84, 80, 47, 49, 46, 49]⟩)).setCell ⟨W1.heap.size, 1, none⟩ (.slice A d.length c)).setCell ⟨W1.heap.size, 2, none⟩ (.bool k) := ⟨_, rfl⟩
      have r5 : W5.heap[W1.heap.size]? = some (.cells #[.string ⟨#[80, 79, 83, 84, 32, 47, 100, 110, 115, 45, 113, 117, 101, 114, 121, 32, 72, 84, 84, 80, 47, 49, 46, 49]⟩, .slice A d.length c, .bool k] 139 (0, 0)) := by
        rw [hW5]
        exact row_set (i := 2) _ (row_set (i := 1) _ (row_set (i := 0) _ qr4))
      have g5 : w4.grownBy W5 (some W1.heap.size) := by
        rw [hW5]
        exact grown_trans (grown_setG _ 0 _ _) (grown_trans (grown_setG _ 1 _ _) (grown_setG _ 2 _ _) (fun k hk => .inl hk)) (fun k hk => .inl hk)
      have o5 := O4.out.kept g5 (by
        cases hv : (Value.slice A d.length c).ownBlock with
        | none => exact .inl rfl
        | some j =>
          right
          intro e
          injection e with e
          exact N4.out j hv e)
      have k5 : Below W1.heap.size W1 W5 := by rw [hW5]; exact set3 _ _ _ _ kw4
      have q5 : W1.heap.size ≤ W1.heap.size := Nat.le_refl _
      rw [← hW5]
      clear hW5 g5 kw4 y0 y1 y2 yf qr4
      have t5 := (k5.block _ (by have := Z1.out; omega)).trans Q1.out
      have R5 := R1.out.on k5
      have x2 := (cell_of_row _ _ 2 _ _ _ r5).trans (show _ = some (Value.bool k) from rfl)
      have RN := Lib.hid (renewH_any g _ _ _ _ W5 (!k) R5)
      have CC : Hid (∀ w6, W5.grownBy w6 (some g) → RRow w6 g (!k) (.slice none 0 0) .nilIface false → w6.heap[w.heap.size]? = some (.cells #[.string ⟨#[]⟩, .slice none 0 0, .bool false] 139 (0, 0)) ∧ w6.cell? ⟨W1.heap.size, 0, none⟩ = some (.string ⟨#[80, 79, 83, 84, 32, 47, 100, 110, 115, 45, 113, 117, 101, 114, 121, 32, 72, 84, 84, 80, 47, 49, 46, 49]⟩) ∧ w6.cell? ⟨W1.heap.size, 1, none⟩ = some (.slice A d.length c) ∧ w6.cell? ⟨W1.heap.size, 2, none⟩ = some (.bool k) ∧
          NextP w F g k d (.returned (.agg #[.string ⟨#[80, 79, 83, 84, 32, 47, 100, 110, 115, 45, 113, 117, 101, 114, 121, 32, 72, 84, 84, 80, 47, 49, 46, 49]⟩, .slice A d.length c, .bool k])) (w6.setRow w.heap.size #[.string ⟨#[80, 79, 83, 84, 32, 47, 100, 110, 115, 45, 113, 117, 101, 114, 121, 32, 72, 84, 84, 80, 47, 49, 46, 49]⟩, .slice A d.length c, .bool k])) := Lib.hid (fun w6 g6 r6 => by
        have ne1 : w.heap.size ≠ g := by have := GLT.out; omega
        have ne2 : W1.heap.size ≠ g := by have := GLT.out; have := Z1.out; omega
        have rq := (g6.block _ (Array.getElem?_eq_some_iff.1 r5).1 (by simpa using ne2)).trans r5
        have rt := (g6.block _ (Array.getElem?_eq_some_iff.1 t5).1 (by simpa using ne1)).trans t5
        have gs := grownBy_setRow (w := w6) (g := w.heap.size) #[.string ⟨#[80, 79, 83, 84, 32, 47, 100, 110, 115, 45, 113, 117, 101, 114, 121, 32, 72, 84, 84, 80, 47, 49, 46, 49]⟩, .slice A d.length c, .bool k]
        have o6 := o5.kept g6 (by
          cases hv : (Value.slice A d.length c).ownBlock with
          | none => exact .inl rfl
          | some j => right; intro e; injection e with e; exact (P4.out j hv).2.1 e)
        have o7 := o6.kept gs (by
          cases hv : (Value.slice A d.length c).ownBlock with
          | none => exact .inl rfl
          | some j => right; intro e; injection e with e; exact (P4.out j hv).2.2 e)
        have r7 : RRow (w6.setRow w.heap.size #[.string ⟨#[80, 79, 83, 84, 32, 47, 100, 110, 115, 45, 113, 117, 101, 114, 121, 32, 72, 84, 84, 80, 47, 49, 46, 49]⟩, .slice A d.length c, .bool k]) g (!k) (.slice none 0 0) .nilIface false := (gs.block _ r6.lt (by simpa using ne1.symm)).trans r6
        have M7 : Mod (fun j => j = g) w (w6.setRow w.heap.size #[.string ⟨#[80, 79, 83, 84, 32, 47, 100, 110, 115, 45, 113, 117, 101, 114, 121, 32, 72, 84, 84, 80, 47, 49, 46, 49]⟩, .slice A d.length c, .bool k]) := ((Mod.below (K1.out.trans (k5.mono K1.out.size))).trans (Mod.grown (S := fun j => j = g) g6 (fun j hj => by injection hj with hj; exact hj.symm)) (fun i hi => .inl hi)).trans (Mod.grown (S := fun j => j = w.heap.size) gs (fun j hj => by injection hj with hj; exact hj.symm)) (fun i hi => .inr (by omega))
        refine ⟨rt, (cell_of_row _ _ 0 _ _ _ rq).trans rfl, (cell_of_row _ _ 1 _ _ _ rq).trans rfl, (cell_of_row _ _ 2 _ _ _ rq).trans rfl, A, c, fun j => j = g, rfl, o7, M7, fun j hj => (P4.out j hj).1, ?_, fun _ => Iff.rfl⟩
        cases k with
        | true => exact ⟨_, _, r7, .inl ⟨rfl, rfl⟩, by simp [Value.ownBlock], fun j => by simp [Value.ownBlock]⟩
        | false => exact ⟨_, _, _, r7, fun _ => Iff.rfl⟩)
      have IR : Hid ((Tryz.prog.info? 139).map (·.size) = some (#[.string ⟨#[80, 79, 83, 84, 32, 47, 100, 110, 115, 45, 113, 117, 101, 114, 121, 32, 72, 84, 84, 80, 47, 49, 46, 49]⟩, .slice A d.length c, .bool k] : Array Value).size) := Lib.hid info_rq
      have OR : Hid ((#[.string ⟨#[80, 79, 83, 84, 32, 47, 100, 110, 115, 45, 113, 117, 101, 114, 121, 32, 72, 84, 84, 80, 47, 49, 46, 49]⟩, .slice A d.length c, .bool k] : Array Value).all (·.oneCell') = true) := Lib.hid (by simp [Value.oneCell'])
      clear t5 R5 r5 o5 k5 q5 F3 F4 set3 kd kd2 x3 x4
      generalize NextP w F g k d = Q at *
      go_wp2_with fail
      refine RN.out.mono ?_
      rintro e w6 ⟨rfl, g6, r6⟩
      obtain ⟨rt, c0, c1, c2, hN⟩ := CC.out w6 g6 r6
      have RT := Lib.hid rt
      have HN := Lib.hid hN
      clear g6 r6 hN CC rt x2 RN
      go_wp2_with (first
        | (refine wpList_store_row rfl 139 (.tmp 2) (.tmp 19) rfl w.heap.size #[.string ⟨#[80, 79, 83, 84, 32, 47, 100, 110, 115, 45, 113, 117, 101, 114, 121, 32, 72, 84, 84, 80, 47, 49, 46, 49]⟩, .slice A d.length c, .bool k] rfl rfl 139 _ RT.out IR.out rfl OR.out ?_)
        | fail)
      have rF := setRow_heap _ _ _ #[.string ⟨#[80, 79, 83, 84, 32, 47, 100, 110, 115, 45, 113, 117, 101, 114, 121, 32, 72, 84, 84, 80, 47, 49, 46, 49]⟩, .slice A d.length c, .bool k] _ _ RT.out
      refine bodyPost_ret (v := .agg #[.string ⟨#[80, 79, 83, 84, 32, 47, 100, 110, 115, 45, 113, 117, 101, 114, 121, 32, 72, 84, 84, 80, 47, 49, 46, 49]⟩, .slice A d.length c, .bool k]) (results_cell_row (by rfl) _ _ w.heap.size 139 #[.string ⟨#[80, 79, 83, 84, 32, 47, 100, 110, 115, 45, 113, 117, 101, 114, 121, 32, 72, 84, 84, 80, 47, 49, 46, 49]⟩, .slice A d.length c, .bool k] (0, 0) _ rfl rF Tryz.underlying139 rfl IR.out) rfl ?_
      exact HN.out
  · go_enter Tryz.func97, Tryz.ntmps97
    go_wp2_with fail
    rw [← HW1.out]
    have F3 : ∀ w', Below W1.heap.size W1 w' → w'.cell? ⟨g, 3, none⟩ = some (.iface 152 (.pointer (some ⟨gb, 0, none⟩))) := fun w' kk => cell_on x3 kk
    have F4 : ∀ w', Below W1.heap.size W1 w' → w'.cell? ⟨g, 4, none⟩ = some (.bool k) := fun w' kk => cell_on x4 kk
    have set3 : ∀ (w4 : World) (a b c : Value), Below W1.heap.size W1 w4 → Below W1.heap.size W1 (((w4.setCell ⟨W1.heap.size, 0, none⟩ a).setCell ⟨W1.heap.size, 1, none⟩ b).setCell ⟨W1.heap.size, 2, none⟩ c) := fun w4 a b c kk => ((kk.setCell (Nat.le_refl _) _).setCell (Nat.le_refl _) _).setCell (Nat.le_refl _) _
    have kd : Below W1.heap.size W1 W1.drew := Below.drew (Below.refl _ _)
    have kd2 : Below W1.heap.size W1 (W1.alloc (.cells #[.string ⟨#[]⟩, .slice none 0 0, .bool false] 139)).drew := Below.drew (Below.alloc (Below.refl _ _) (Nat.le_refl _) _)
    have YQ : Hid (∀ w4, Below (W1.alloc (.cells #[.string ⟨#[]⟩, .slice none 0 0, .bool false] 139)).drew.heap.size (W1.alloc (.cells #[.string ⟨#[]⟩, .slice none 0 0, .bool false] 139)).drew w4 → w4.heap[W1.heap.size]? = some (.cells #[.string ⟨#[]⟩, .slice none 0 0, .bool false] 139 (0, 0)) ∧ Below W1.heap.size W1 w4) := Lib.hid (fun w4 kk => by
      have q : (W1.alloc (.cells #[.string ⟨#[]⟩, .slice none 0 0, .bool false] 139)).drew.heap[W1.heap.size]? = some (.cells #[.string ⟨#[]⟩, .slice none 0 0, .bool false] 139 (0, 0)) := row_new (w := W1) _ rfl
      exact ⟨(kk.block _ (Array.getElem?_eq_some_iff.1 q).1).trans q, kd2.trans (kk.mono kd2.size)⟩)
    go_region_held3 (fun w' => Below W1.heap.size W1 w')
      (first | assumption | exact Below.drew (by assumption) | exact Below.alloc (by assumption) (Below.size (by assumption)) _ | exact Below.alloc (Below.drew (by assumption)) (Below.size (by assumption)) _ | exact set3 _ _ _ _ (by assumption))
      (first
        | (go_at_call 149; (with_reducible refine (BD.out _ kd).mono ?_); rintro e w4 ⟨A, c, rfl, o4, k4, p4⟩; have kw4 : Below W1.heap.size W1 w4 := ⟨k4.os, k4.tape, k4.output, k4.size, k4.block⟩; have O4 := Lib.hid o4; have P4 := Lib.hid (PP.out _ (show W1.heap.size ≤ W1.drew.heap.size from Nat.le_refl _) _ p4); clear o4 p4 k4)
        | (go_at_call 149; (with_reducible refine (BD.out _ kd2).mono ?_); rintro e w4 ⟨A, c, rfl, o4, k4, p4⟩; obtain ⟨qr4, kw4⟩ := YQ.out w4 k4; have O4 := Lib.hid o4; have P4 := Lib.hid (PP.out _ kd2.size _ p4); have N4 := Lib.hid (NN.out _ p4); have y0 := (cell_of_row _ _ 0 _ _ _ qr4).trans (show _ = some (Value.string ⟨#[]⟩) from rfl); have y1 := (cell_of_row _ _ 1 _ _ _ qr4).trans (show _ = some (Value.slice none 0 0) from rfl); have y2 := (cell_of_row _ _ 2 _ _ _ qr4).trans (show _ = some (Value.bool false) from rfl); have yf := fun j => frozen_of_row _ W1.heap.size j _ _ qr4; clear o4 p4 k4))
    · obtain ⟨W5, hW5⟩ : ∃ W5, W5 = w4.alloc (.cells #[.string ⟨#[80, 79, 83, 84, 32, 47, 100, 110, 115, 45, 113, 117, 101, 114, 121, 32, 72, 84, 84, 80, 47, 49, 46, 49]⟩, .slice A d.length c, .bool k] 139) := ⟨_, rfl⟩
      have b5 : Below w4.heap.size w4 W5 := by rw [hW5]; exact Below.alloc (Below.refl _ _) (Nat.le_refl _) _
      have r5 : W5.heap[w4.heap.size]? = some (.cells #[.string ⟨#[80, 79, 83, 84, 32, 47, 100, 110, 115, 45, 113, 117, 101, 114, 121, 32, 72, 84, 84, 80, 47, 49, 46, 49]⟩, .slice A d.length c, .bool k] 139 (0, 0)) := by rw [hW5]; exact row_new _ rfl
      have o5 := O4.out.below b5 (Nat.le_refl _)
      have k5 := kw4.trans (b5.mono kw4.size)
      have q5 : W1.heap.size ≤ w4.heap.size := kw4.size
      rw [← hW5]
      clear hW5 b5 kw4
      have t5 := (k5.block _ (by have := Z1.out; omega)).trans Q1.out
      have R5 := R1.out.on k5
      have x2 := (cell_of_row _ _ 2 _ _ _ r5).trans (show _ = some (Value.bool k) from rfl)
      have RN := Lib.hid (renewH_any g _ _ _ _ W5 (!k) R5)
      have CC : Hid (∀ w6, W5.grownBy w6 (some g) → RRow w6 g (!k) (.slice none 0 0) .nilIface false → w6.heap[w.heap.size]? = some (.cells #[.string ⟨#[]⟩, .slice none 0 0, .bool false] 139 (0, 0)) ∧ w6.cell? ⟨w4.heap.size, 0, none⟩ = some (.string ⟨#[80, 79, 83, 84, 32, 47, 100, 110, 115, 45, 113, 117, 101, 114, 121, 32, 72, 84, 84, 80, 47, 49, 46, 49]⟩) ∧ w6.cell? ⟨w4.heap.size, 1, none⟩ = some (.slice A d.length c) ∧ w6.cell? ⟨w4.heap.size, 2, none⟩ = some (.bool k) ∧
          NextP w F g k d (.returned (.agg #[.string ⟨#[80, 79, 83, 84, 32, 47, 100, 110, 115, 45, 113, 117, 101, 114, 121, 32, 72, 84, 84, 80, 47, 49, 46, 49]⟩, .slice A d.length c, .bool k])) (w6.setRow w.heap.size #[.string ⟨#[80, 79, 83, 84, 32, 47, 100, 110, 115, 45, 113, 117, 101, 114, 121, 32, 72, 84, 84, 80, 47, 49, 46, 49]⟩, .slice A d.length c, .bool k])) := Lib.hid (fun w6 g6 r6 => by
        have ne1 : w.heap.size ≠ g := by have := GLT.out; omega
        have ne2 : w4.heap.size ≠ g := by have := GLT.out; have := Z1.out; omega
        have rq := (g6.block _ (Array.getElem?_eq_some_iff.1 r5).1 (by simpa using ne2)).trans r5
        have rt := (g6.block _ (Array.getElem?_eq_some_iff.1 t5).1 (by simpa using ne1)).trans t5
        have gs := grownBy_setRow (w := w6) (g := w.heap.size) #[.string ⟨#[80, 79, 83, 84, 32, 47, 100, 110, 115, 45, 113, 117, 101, 114, 121, 32, 72, 84, 84, 80, 47, 49, 46, 49]⟩, .slice A d.length c, .bool k]
        have o6 := o5.kept g6 (by
          cases hv : (Value.slice A d.length c).ownBlock with
          | none => exact .inl rfl
          | some j => right; intro e; injection e with e; exact (P4.out j hv).2.1 e)
        have o7 := o6.kept gs (by
          cases hv : (Value.slice A d.length c).ownBlock with
          | none => exact .inl rfl
          | some j => right; intro e; injection e with e; exact (P4.out j hv).2.2 e)
        have r7 : RRow (w6.setRow w.heap.size #[.string ⟨#[80, 79, 83, 84, 32, 47, 100, 110, 115, 45, 113, 117, 101, 114, 121, 32, 72, 84, 84, 80, 47, 49, 46, 49]⟩, .slice A d.length c, .bool k]) g (!k) (.slice none 0 0) .nilIface false := (gs.block _ r6.lt (by simpa using ne1.symm)).trans r6
        have M7 : Mod (fun j => j = g) w (w6.setRow w.heap.size #[.string ⟨#[80, 79, 83, 84, 32, 47, 100, 110, 115, 45, 113, 117, 101, 114, 121, 32, 72, 84, 84, 80, 47, 49, 46, 49]⟩, .slice A d.length c, .bool k]) := ((Mod.below (K1.out.trans (k5.mono K1.out.size))).trans (Mod.grown (S := fun j => j = g) g6 (fun j hj => by injection hj with hj; exact hj.symm)) (fun i hi => .inl hi)).trans (Mod.grown (S := fun j => j = w.heap.size) gs (fun j hj => by injection hj with hj; exact hj.symm)) (fun i hi => .inr (by omega))
        refine ⟨rt, (cell_of_row _ _ 0 _ _ _ rq).trans rfl, (cell_of_row _ _ 1 _ _ _ rq).trans rfl, (cell_of_row _ _ 2 _ _ _ rq).trans rfl, A, c, fun j => j = g, rfl, o7, M7, fun j hj => (P4.out j hj).1, ?_, fun _ => Iff.rfl⟩
        cases k with
        | true => exact ⟨_, _, r7, .inl ⟨rfl, rfl⟩, by simp [Value.ownBlock], fun j => by simp [Value.ownBlock]⟩
        | false => exact ⟨_, _, _, r7, fun _ => Iff.rfl⟩)
      have IR : Hid ((Tryz.prog.info? 139).map (·.size) = some (#[.string ⟨#[80, 79, 83, 84, 32, 47, 100, 110, 115, 45, 113, 117, 101, 114, 121, 32, 72, 84, 84, 80, 47, 49, 46, 49]⟩, .slice A d.length c, .bool k] : Array Value).size) := Lib.hid info_rq
      have OR : Hid ((#[.string ⟨#[80, 79, 83, 84, 32, 47, 100, 110, 115, 45, 113, 117, 101, 114, 121, 32, 72, 84, 84, 80, 47, 49, 46, 49]⟩, .slice A d.length c, .bool k] : Array Value).all (·.oneCell') = true) := Lib.hid (by simp [Value.oneCell'])
      clear t5 R5 r5 o5 k5 q5 F3 F4 set3 kd kd2 x3 x4
      generalize NextP w F g k d = Q at *
      go_wp2_with fail
      refine RN.out.mono ?_
      rintro e w6 ⟨rfl, g6, r6⟩
      obtain ⟨rt, c0, c1, c2, hN⟩ := CC.out w6 g6 r6
      have RT := Lib.hid rt
      have HN := Lib.hid hN
      clear g6 r6 hN CC rt x2 RN
      go_wp2_with (first
        | (refine wpList_store_row rfl 139 (.tmp 2) (.tmp 19) rfl w.heap.size #[.string ⟨#[80, 79, 83, 84, 32, 47, 100, 110, 115, 45, 113, 117, 101, 114, 121, 32, 72, 84, 84, 80, 47, 49, 46, 49]⟩, .slice A d.length c, .bool k] rfl rfl 139 _ RT.out IR.out rfl OR.out ?_)
        | fail)
      have rF := setRow_heap _ _ _ #[.string ⟨#[80, 79, 83, 84, 32, 47, 100, 110, 115, 45, 113, 117, 101, 114, 121, 32, 72, 84, 84, 80, 47, 49, 46, 49]⟩, .slice A d.length c, .bool k] _ _ RT.out
      refine bodyPost_ret (v := .agg #[.string ⟨#[80, 79, 83, 84, 32, 47, 100, 110, 115, 45, 113, 117, 101, 114, 121, 32, 72, 84, 84, 80, 47, 49, 46, 49]⟩, .slice A d.length c, .bool k]) (results_cell_row (by rfl) _ _ w.heap.size 139 #[.string ⟨#[80, 79, 83, 84, 32, 47, 100, 110, 115, 45, 113, 117, 101, 114, 121, 32, 72, 84, 84, 80, 47, 49, 46, 49]⟩, .slice A d.length c, .bool k] (0, 0) _ rfl rF Tryz.underlying139 rfl IR.out) rfl ?_
      exact HN.out
    · obtain ⟨W5, hW5⟩ : ∃ W5, W5 = ((w4.setCell ⟨W1.heap.size, 0, none⟩ (.string ⟨#[80, 79, 83, 84, 32, 47, 100, 110, 115, 45, 113, 117, 101, 114, 121, 32, 72, 84, 84, 80, 47, 49, 46, 49]⟩)).setCell ⟨W1.heap.size, 1, none⟩ (.slice A d.length c)).setCell ⟨W1.heap.size, 2, none⟩ (.bool k) := ⟨_, rfl⟩
      have r5 : W5.heap[W1.heap.size]? = some (.cells #[.string ⟨#[80, 79, 83, 84, 32, 47, 100, 110, 115, 45, 113, 117, 101, 114, 121, 32, 72, 84, 84, 80, 47, 49, 46, 49]⟩, .slice A d.length c, .bool k] 139 (0, 0)) := by
        rw [hW5]
        exact row_set (i := 2) _ (row_set (i := 1) _ (row_set (i := 0) _ qr4))
      have g5 : w4.grownBy W5 (some W1.heap.size) := by
        rw [hW5]
        exact grown_trans (grown_setG _ 0 _ _) (grown_trans (grown_setG _ 1 _ _) (grown_setG _ 2 _ _) (fun k hk => .inl hk)) (fun k hk => .inl hk)
      have o5 := O4.out.kept g5 (by
        cases hv : (Value.slice A d.length c).ownBlock with
        | none => exact .inl rfl
        | some j =>
          right
          intro e
          injection e with e
          exact N4.out j hv e)
      have k5 : Below W1.heap.size W1 W5 := by rw [hW5]; exact set3 _ _ _ _ kw4
      have q5 : W1.heap.size ≤ W1.heap.size := Nat.le_refl _
      rw [← hW5]
      clear hW5 g5 kw4 y0 y1 y2 yf qr4
      have t5 := (k5.block _ (by have := Z1.out; omega)).trans Q1.out
      have R5 := R1.out.on k5
      have x2 := (cell_of_row _ _ 2 _ _ _ r5).trans (show _ = some (Value.bool k) from rfl)
      have RN := Lib.hid (renewH_any g _ _ _ _ W5 (!k) R5)
      have CC : Hid (∀ w6, W5.grownBy w6 (some g) → RRow w6 g (!k) (.slice none 0 0) .nilIface false → w6.heap[w.heap.size]? = some (.cells #[.string ⟨#[]⟩, .slice none 0 0, .bool false] 139 (0, 0)) ∧ w6.cell? ⟨W1.heap.size, 0, none⟩ = some (.string ⟨#[80, 79, 83, 84, 32, 47, 100, 110, 115, 45, 113, 117, 101, 114, 121, 32, 72, 84, 84, 80, 47, 49, 46, 49]⟩) ∧ w6.cell? ⟨W1.heap.size, 1, none⟩ = some (.slice A d.length c) ∧ w6.cell? ⟨W1.heap.size, 2, none⟩ = some (.bool k) ∧
          NextP w F g k d (.returned (.agg #[.string ⟨#[80, 79, 83, 84, 32, 47, 100, 110, 115, 45, 113, 117, 101, 114, 121, 32, 72, 84, 84, 80, 47, 49, 46, 49]⟩, .slice A d.length c, .bool k])) (w6.setRow w.heap.size #[.string ⟨#[80, 79, 83, 84, 32, 47, 100, 110, 115, 45, 113, 117, 101, 114, 121, 32, 72, 84, 84, 80, 47, 49, 46, 49]⟩, .slice A d.length c, .bool k])) := Lib.hid (fun w6 g6 r6 => by
        have ne1 : w.heap.size ≠ g := by have := GLT.out; omega
        have ne2 : W1.heap.size ≠ g := by have := GLT.out; have := Z1.out; omega
        have rq := (g6.block _ (Array.getElem?_eq_some_iff.1 r5).1 (by simpa using ne2)).trans r5
        have rt := (g6.block _ (Array.getElem?_eq_some_iff.1 t5).1 (by simpa using ne1)).trans t5
        have gs := grownBy_setRow (w := w6) (g := w.heap.size) #[.string ⟨#[80, 79, 83, 84, 32, 47, 100, 110, 115, 45, 113, 117, 101, 114, 121, 32, 72, 84, 84, 80, 47, 49, 46, 49]⟩, .slice A d.length c, .bool k]
        have o6 := o5.kept g6 (by
          cases hv : (Value.slice A d.length c).ownBlock with
          | none => exact .inl rfl
          | some j => right; intro e; injection e with e; exact (P4.out j hv).2.1 e)
        have o7 := o6.kept gs (by
          cases hv : (Value.slice A d.length c).ownBlock with
          | none => exact .inl rfl
          | some j => right; intro e; injection e with e; exact (P4.out j hv).2.2 e)
        have r7 : RRow (w6.setRow w.heap.size #[.string ⟨#[80, 79, 83, 84, 32, 47, 100, 110, 115, 45, 113, 117, 101, 114, 121, 32, 72, 84, 84, 80, 47, 49, 46, 49]⟩, .slice A d.length c, .bool k]) g (!k) (.slice none 0 0) .nilIface false := (gs.block _ r6.lt (by simpa using ne1.symm)).trans r6
        have M7 : Mod (fun j => j = g) w (w6.setRow w.heap.size #[.string ⟨#[80, 79, 83, 84, 32, 47, 100, 110, 115, 45, 113, 117, 101, 114, 121, 32, 72, 84, 84, 80, 47, 49, 46, 49]⟩, .slice A d.length c, .bool k]) := ((Mod.below (K1.out.trans (k5.mono K1.out.size))).trans (Mod.grown (S := fun j => j = g) g6 (fun j hj => by injection hj with hj; exact hj.symm)) (fun i hi => .inl hi)).trans (Mod.grown (S := fun j => j = w.heap.size) gs (fun j hj => by injection hj with hj; exact hj.symm)) (fun i hi => .inr (by omega))
        refine ⟨rt, (cell_of_row _ _ 0 _ _ _ rq).trans rfl, (cell_of_row _ _ 1 _ _ _ rq).trans rfl, (cell_of_row _ _ 2 _ _ _ rq).trans rfl, A, c, fun j => j = g, rfl, o7, M7, fun j hj => (P4.out j hj).1, ?_, fun _ => Iff.rfl⟩
        cases k with
        | true => exact ⟨_, _, r7, .inl ⟨rfl, rfl⟩, by simp [Value.ownBlock], fun j => by simp [Value.ownBlock]⟩
        | false => exact ⟨_, _, _, r7, fun _ => Iff.rfl⟩)
      have IR : Hid ((Tryz.prog.info? 139).map (·.size) = some (#[.string ⟨#[80, 79, 83, 84, 32, 47, 100, 110, 115, 45, 113, 117, 101, 114, 121, 32, 72, 84, 84, 80, 47, 49, 46, 49]⟩, .slice A d.length c, .bool k] : Array Value).size) := Lib.hid info_rq
      have OR : Hid ((#[.string ⟨#[80, 79, 83, 84, 32, 47, 100, 110, 115, 45, 113, 117, 101, 114, 121, 32, 72, 84, 84, 80, 47, 49, 46, 49]⟩, .slice A d.length c, .bool k] : Array Value).all (·.oneCell') = true) := Lib.hid (by simp [Value.oneCell'])
      clear t5 R5 r5 o5 k5 q5 F3 F4 set3 kd kd2 x3 x4
      generalize NextP w F g k d = Q at *
      go_wp2_with fail
      refine RN.out.mono ?_
      rintro e w6 ⟨rfl, g6, r6⟩
      obtain ⟨rt, c0, c1, c2, hN⟩ := CC.out w6 g6 r6
      have RT := Lib.hid rt
      have HN := Lib.hid hN
      clear g6 r6 hN CC rt x2 RN
      go_wp2_with (first
        | (refine wpList_store_row rfl 139 (.tmp 2) (.tmp 19) rfl w.heap.size #[.string ⟨#[80, 79, 83, 84, 32, 47, 100, 110, 115, 45, 113, 117, 101, 114, 121, 32, 72, 84, 84, 80, 47, 49, 46, 49]⟩, .slice A d.length c, .bool k] rfl rfl 139 _ RT.out IR.out rfl OR.out ?_)
        | fail)
      have rF := setRow_heap _ _ _ #[.string ⟨#[80, 79, 83, 84, 32, 47, 100, 110, 115, 45, 113, 117, 101, 114, 121, 32, 72, 84, 84, 80, 47, 49, 46, 49]⟩, .slice A d.length c, .bool k] _ _ RT.out
      refine bodyPost_ret (v := .agg #[.string ⟨#[80, 79, 83, 84, 32, 47, 100, 110, 115, 45, 113, 117, 101, 114, 121, 32, 72, 84, 84, 80, 47, 49, 46, 49]⟩, .slice A d.length c, .bool k]) (results_cell_row (by rfl) _ _ w.heap.size 139 #[.string ⟨#[80, 79, 83, 84, 32, 47, 100, 110, 115, 45, 113, 117, 101, 114, 121, 32, 72, 84, 84, 80, 47, 49, 46, 49]⟩, .slice A d.length c, .bool k] (0, 0) _ rfl rF Tryz.underlying139 rfl IR.out) rfl ?_
      exact HN.out
end Go.Proofs.YtjhameebehkdjaaGreatDoor
