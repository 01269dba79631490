/-
  The landed endHead.
  The landed takeHead.
  The landed takeHead: its walk.
-/
import Derived.Test.YtjhameebehkdjaaGreatDoorHuD
import Derived.Outline
import Derived.Test.YtjhameebehkdjaaGreatDoorQy
namespace Go.Proofs.YtjhameebehkdjaaGreatDoor
open Go.RowKit Go.Shelf
set_option linter.unusedVariables false
set_option maxRecDepth 100000

/-- What endHead answers, of what the head says. -/
def EndHP (w : World) (g : Nat) (r : Option (Bool × Option Nat)) (e : Ending) (w' : World) : Prop :=
  Mod (fun j => j = g) w w' ∧ ((r = none ∧ e = .returned (.bool false) ∧ ∃ hv bv k, RRow w' g false hv bv k) ∨
  (∃ k F, r = some (k, none) ∧ e = .returned (.bool true) ∧ ChkR w' F g k (newC 65535) ∧ ∀ j, F j → j = g ∨ w.heap.size ≤ j) ∨
  (∃ k n F, r = some (k, some n) ∧ e = .returned (.bool true) ∧ CntR w' F g k [] n ∧ ∀ j, F j → j = g ∨ w.heap.size ≤ j))
theorem RRow.set {w : World} {g : Nat} {en k en' k' : Bool} {hv bv hv' bv' : Value} (r : RRow w g en hv bv k) (i : Nat) (u : Value) (e : (rcells en hv bv k).setIfInBounds i u = rcells en' hv' bv' k') : RRow (w.setCell ⟨g, i, none⟩ u) g en' hv' bv' k' := by
  have := row_set (w := w) (g := g) (i := i) u r
  rw [e] at this
  exact this
set_option maxHeartbeats 4000000 in
set_option maxRecDepth 100000 in
theorem endHead_any (g : Nat) (v : Value) (k0 : Bool) (h : Bs) (L : List Bs) (w : World) (hr : RRow w g false v .nilIface k0) (ho : OwnB w 0 v h) (hne : v.ownBlock ≠ some g) (hh : h = catL L ++ [13, 10]) (hl : h.length ≤ 2000) (hok : ∀ l ∈ L, okLine l) (hM : MaxL w) :
    Calls Tryz.prog 101 #[.pointer (some ⟨g, 0, none⟩)] w (EndHP w g (readL L)) := by
  have RH := Lib.hid (readHead_any L w hM (by rw [← hh]; exact hl) hok)
  rw [← hh] at RH
  obtain ⟨A, c, rfl, hs⟩ := ho.bysN
  have cv := fun W (k : Below w.heap.size w W) => string_bys A h c W (hs.on k).bys
  have cv0 := cv w (Below.refl _ _)
  have HR := Lib.hid hr
  have glt := hr.lt
  have c2 := (cell_of_row _ g 2 _ _ _ hr).trans (show _ = some (Value.slice A h.length c) from rfl)
  have HD : Hid (∀ e w', EndHP w g (readL L) e w' ↔ (Mod (fun j => j = g) w w' ∧ ((readL L = none ∧ e = .returned (.bool false) ∧ ∃ hv bv k, RRow w' g false hv bv k) ∨
  (∃ k F, readL L = some (k, none) ∧ e = .returned (.bool true) ∧ ChkR w' F g k (newC 65535) ∧ ∀ j, F j → j = g ∨ w.heap.size ≤ j) ∨
  (∃ k n F, readL L = some (k, some n) ∧ e = .returned (.bool true) ∧ CntR w' F g k [] n ∧ ∀ j, F j → j = g ∨ w.heap.size ≤ j)))) := Lib.hid (fun _ _ => Iff.rfl)
  generalize EndHP w g (readL L) = Q at *
  have RP : Hid (∀ e w', ReadP w L e w' → ∃ (h : Hd) (ok : Bool), e = .returned (.tuple #[.agg #[.int .i64 h.types, .int .i64 h.lengths, .int .i64 h.conns, .int .i64 h.size, .bool h.chunked, .bool h.closes], .bool ok]) ∧ Below w.heap.size w w' ∧ readL L = if ok then some (!h.closes, if h.chunked then none else some h.size) else none) := Lib.hid (fun _ _ h => h)
  generalize ReadP w L = QR at *
  generalize readL L = R at *
  generalize h.length = n at *
  clear cv hr ho hne hs hh hl hok hM
  go_enter Tryz.func101, Tryz.ntmps101
  go_wp2_with fail
  refine RH.out.mono ?_
  intro e w1 hq
  obtain ⟨h', ok, rfl, k1, hR⟩ := RP.out e w1 hq
  have r1 := HR.out.on k1
  have k2 : Below w1.heap.size w1 (w1.alloc (.cells #[.int .i64 h'.types, .int .i64 h'.lengths, .int .i64 h'.conns, .int .i64 h'.size, .bool h'.chunked, .bool h'.closes] 149)) := Below.alloc (Below.refl _ _) (Nat.le_refl _) _
  obtain ⟨W2, hW2⟩ : ∃ W2, W2 = w1.alloc (.cells #[.int .i64 h'.types, .int .i64 h'.lengths, .int .i64 h'.conns, .int .i64 h'.size, .bool h'.chunked, .bool h'.closes] 149) := ⟨_, rfl⟩
  have b3 : W2.heap[w1.heap.size]? = some (.cells #[.int .i64 h'.types, .int .i64 h'.lengths, .int .i64 h'.conns, .int .i64 h'.size, .bool h'.chunked, .bool h'.closes] 149 (0, 0)) := by rw [hW2]; exact row_new _ rfl
  rw [← hW2] at k2
  have r2 := r1.on k2
  have KK := k1.trans (k2.mono k1.size)
  cases ok with
  | false =>
    have HQ := Lib.hid ((HD.out (.returned (.bool false)) W2).2 ⟨Mod.below KK, .inl ⟨hR, rfl, _, _, _, r2⟩⟩)
    have HW := Lib.hid hW2
    clear hR hW2 b3 r1 r2 k1 k2 KK HD RP hq RH
    go_wp2_with fail
    rw [← HW.out]
    exact HQ.out
  | true =>
    have hR' : R = some (!h'.closes, if h'.chunked then none else some h'.size) := hR
    have d3 := (cell_of_row _ _ 3 _ _ _ b3).trans (show _ = some (Value.int .i64 h'.size) from rfl)
    have d4 := (cell_of_row _ _ 4 _ _ _ b3).trans (show _ = some (Value.bool h'.chunked) from rfl)
    have d5 := (cell_of_row _ _ 5 _ _ _ b3).trans (show _ = some (Value.bool h'.closes) from rfl)
    have e2 := (cell_of_row _ g 2 _ _ _ r2).trans (show _ = some (Value.slice A n c) from rfl)
    have e4 := (cell_of_row _ g 4 _ _ _ r2).trans (show _ = some (Value.bool k0) from rfl)
    have fz := fun j => frozen_of_row _ g j _ _ r2
    have gne : g ≠ w1.heap.size := by have := r1.lt; omega
    have gne' : w1.heap.size ≠ g := fun e => gne e.symm
    have HW := Lib.hid hW2
    clear hR hW2
    go_wp2_with fail
    rw [← HW.out]
    go_region
    obtain ⟨W3, hW3⟩ : ∃ W3, W3 = ((W2.setCell ⟨g, 2, none⟩ (.slice none 0 0)).setCell ⟨g, 4, none⟩ (.bool !h'.closes)).drew := ⟨_, rfl⟩
    rw [← hW3]
    have s1 := r2.set (en' := false) (hv' := .slice none 0 0) (bv' := .nilIface) (k' := k0) 2 (.slice none 0 0) (by simp [rcells])
    have r3 : RRow W3 g false (.slice none 0 0) .nilIface (!h'.closes) := by
      rw [hW3]
      exact s1.set 4 (.bool !h'.closes) (by simp [rcells])
    have g3 : W2.grownBy W3 (some g) := by
      rw [hW3]
      exact grown_trans (grown_setG g 2 _ W2) (grown_trans (grown_setG g 4 _ _) (grown_of_below (Below.drew (Below.refl _ _)) (some g)) (fun k hk => .inl hk)) (fun k hk => .inl hk)
    have keep : ∀ i x, W2.cell? ⟨w1.heap.size, i, none⟩ = some x → W3.cell? ⟨w1.heap.size, i, none⟩ = some x := fun i x hx => by
      rw [World.cell?_of_block (a := ⟨w1.heap.size, i, none⟩) (g3.block _ (World.block_lt_of_cell? W2 _ hx) (by simpa using gne'))]
      exact hx
    have d3 := keep 3 _ d3
    have d4 := keep 4 _ d4
    have M3 : Mod (fun j => j = g) w W3 := (Mod.below KK).trans (Mod.grown (S := fun j => j = g) g3 (fun k hk => by injection hk with hk; exact hk.symm)) (fun i hi => .inl hi)
    have MM := Lib.hid M3
    have R3 := Lib.hid r3
    clear hW3 s1 g3 keep e2 e4 fz d5 r2 r1 b3 k1 k2 KK hq RP RH HR M3 r3 c2 cv0 HW
    cases hc : h'.chunked with
    | true =>
      rw [hc] at d4 hR'
      have N := Lib.hid (landC.new 65535 W3 (by omega) (by omega))
      clear d3
      go_wp2_with fail
      refine N.out.mono ?_
      rintro e w4 ⟨p, F, rfl, hC, k4, hF⟩
      obtain ⟨gp, vp, rfl, hx⟩ := hC
      have hC : LandC w4 F (.pointer (some ⟨gp, 0, none⟩)) (newC 65535) := ⟨gp, vp, rfl, hx⟩
      have r4 := R3.out.on k4
      have glt3 := R3.out.lt
      have c3 := (cell_of_row _ g 3 _ _ _ r4).trans (show _ = some Value.nilIface from rfl)
      have fz := frozen_of_row _ g 3 _ _ r4
      have r5 : RRow (w4.setCell ⟨g, 3, none⟩ (.iface 152 (.pointer (some ⟨gp, 0, none⟩)))) g false (.slice none 0 0) (.iface 152 (.pointer (some ⟨gp, 0, none⟩))) (!h'.closes) := r4.set 3 _ (by simp [rcells])
      have g5 := grown_setG g 3 (.iface 152 (.pointer (some ⟨gp, 0, none⟩))) w4
      have hFg : ¬ F g := fun e => by have := hF g e; omega
      have hC5 : LandC (w4.setCell ⟨g, 3, none⟩ (.iface 152 (.pointer (some ⟨gp, 0, none⟩)))) F (.pointer (some ⟨gp, 0, none⟩)) (newC 65535) := landC.mod hC (Mod.grown (S := fun j => j = g) g5 (fun k hk => by injection hk with hk; exact hk.symm)) (fun i hi e => by subst e; exact hFg hi)
      have M5 : Mod (fun j => j = g) w (w4.setCell ⟨g, 3, none⟩ (.iface 152 (.pointer (some ⟨gp, 0, none⟩)))) := (MM.out.then k4).trans (Mod.grown (S := fun j => j = g) g5 (fun k hk => by injection hk with hk; exact hk.symm)) (fun i hi => .inl hi)
      have HQ := Lib.hid ((HD.out (.returned (.bool true)) _).2 ⟨M5, .inr (.inl ⟨!h'.closes, fun j => j = g ∨ F j, hR', rfl, ⟨_, F, r5, hC5, hFg, fun _ => Iff.rfl⟩, fun j hj => by
        rcases hj with h | h
        · exact .inl h
        · have := hF j h; have := MM.out.size; exact .inr (by omega)⟩)⟩)
      clear hC hx hC5 M5 hFg g5 r5 r4 k4 hF N HD MM R3 d4 hR'
      go_wp2_with fail
      exact HQ.out
    | false =>
      rw [hc] at d4 hR'
      have glt3 := R3.out.lt
      obtain ⟨W4, hW4⟩ : ∃ W4, W4 = W3.setCell ⟨g, 3, none⟩ (.iface 154 (.pointer (some ⟨W3.heap.size, 0, none⟩))) := ⟨_, rfl⟩
      have c3 := (cell_of_row _ g 3 _ _ _ R3.out).trans (show _ = some Value.nilIface from rfl)
      have fz := frozen_of_row _ g 3 _ _ R3.out
      have r4 : RRow W4 g false (.slice none 0 0) (.iface 154 (.pointer (some ⟨W3.heap.size, 0, none⟩))) (!h'.closes) := by rw [hW4]; exact R3.out.set 3 _ (by simp [rcells])
      have g4 := grown_setG g 3 (.iface 154 (.pointer (some ⟨W3.heap.size, 0, none⟩))) W3
      rw [← hW4] at g4
      have z4 : W4.heap.size = W3.heap.size := by rw [hW4]; simp
      have k5 : Below W4.heap.size W4 (W4.alloc (.cells #[.slice none 0 0, .int .i64 h'.size] 156)) := Below.alloc (Below.refl _ _) (Nat.le_refl _) _
      have r5 := r4.on k5
      have c5 : CRow (W4.alloc (.cells #[.slice none 0 0, .int .i64 h'.size] 156)) W3.heap.size (.slice none 0 0) h'.size := row_new _ z4.symm
      have M5 : Mod (fun j => j = g) w (W4.alloc (.cells #[.slice none 0 0, .int .i64 h'.size] 156)) := (MM.out.trans (Mod.grown (S := fun j => j = g) g4 (fun k hk => by injection hk with hk; exact hk.symm)) (fun i hi => .inl hi)).then k5
      have HQ := Lib.hid ((HD.out (.returned (.bool true)) _).2 ⟨M5, .inr (.inr ⟨!h'.closes, h'.size, fun j => j = g ∨ j = W3.heap.size ∨ (Value.slice none 0 0).ownBlock = some j, hR', rfl, ⟨W3.heap.size, .slice none 0 0, r5, ⟨c5, .inl ⟨rfl, rfl⟩, by simp [Value.ownBlock]⟩, by omega, by simp [Value.ownBlock], fun _ => Iff.rfl⟩, fun j hj => by
        rcases hj with h | h | h
        · exact .inl h
        · have := MM.out.size; exact .inr (by omega)
        · simp [Value.ownBlock] at h⟩)⟩)
      rw [hW4] at HQ
      clear c5 M5 g4 r5 r4 k5 z4 HD MM R3 hR' hW4
      go_wp2_with fail
      exact HQ.out
end Go.Proofs.YtjhameebehkdjaaGreatDoor
namespace Go.Proofs.YtjhameebehkdjaaGreatDoor
open Go.RowKit Go.Shelf
set_option linter.unusedVariables false
set_option maxRecDepth 100000

/-- What takeHead answers. -/
def TakeHP (w : World) (F : Nat → Prop) (g : Nat) (h b : Bs) (e : Ending) (w' : World) : Prop := Mod F w w' ∧ ∃ (n : Nat) (ok : Bool), e = .returned (.tuple #[.int .i64 n, .bool ok]) ∧
  ((ok = false ∧ goH (.hd h) b = badH ∧ ∃ hv bv k, RRow w' g false hv bv k) ∨
  (∃ h' F', ok = true ∧ n = b.length ∧ goH (.hd h) b = (.hd h', [], false) ∧ HdR w' F' g h' ∧ (∀ j, F' j → F j ∨ w.heap.size ≤ j) ∧ h'.length < 2000 ∧ ∃ L p cr, HdOk h' L p cr) ∨
  (∃ k F', ok = true ∧ n ≤ b.length ∧ goH (.hd h) b = goH (.chk k (newC 65535)) (b.drop n) ∧ ChkR w' F' g k (newC 65535) ∧ ∀ j, F' j → F j ∨ w.heap.size ≤ j) ∨
  (∃ k m F', ok = true ∧ n ≤ b.length ∧ m ≤ 65535 ∧ goH (.hd h) b = thenH (behindH (some (k, some m))) (goH (behindH (some (k, some m))).1 (b.drop n)) ∧ CntR w' F' g k [] m ∧ ∀ j, F' j → F j ∨ w.heap.size ≤ j))
theorem stepH_bad {h : Bs} {c : UInt8} (b : Bs) (hf : fitH h c = false) : goH (.hd h) (c :: b) = badH := by
  rw [goH]
  have : stepH (.hd h) c = badH := by simp [stepH, hf]
  rw [this]
  exact bad_then _ b rfl badH
theorem stepH_more {h : Bs} {c : UInt8} (b : Bs) (hf : fitH h c = true) (he : endH (h ++ [c]) = false) (hl : h.length + 1 ≠ 2000) : goH (.hd h) (c :: b) = goH (.hd (h ++ [c])) b := by
  rw [goH]
  have : stepH (.hd h) c = (.hd (h ++ [c]), [], false) := by simp [stepH, hf, he, hl]
  rw [this, thenH_eq]
theorem stepH_long {h : Bs} {c : UInt8} (b : Bs) (hf : fitH h c = true) (he : endH (h ++ [c]) = false) (hl : h.length + 1 = 2000) : goH (.hd h) (c :: b) = badH := by
  rw [goH]
  have : stepH (.hd h) c = badH := by simp [stepH, hf, he, hl]
  rw [this]
  exact bad_then _ b rfl badH
theorem stepH_end {h : Bs} {c : UInt8} {L : List Bs} (b : Bs) (hf : fitH h c = true) (he : endH (h ++ [c]) = true) (hL : h ++ [c] = catL L ++ [13, 10]) (hok : ∀ l ∈ L, okLine l) : goH (.hd h) (c :: b) = thenH (behindH (readL L)) (goH (behindH (readL L)).1 b) := by
  rw [goH]
  have hr : readH (h ++ [c]) = readL L := by unfold readH; rw [hL, linesH_cat L hok]
  have : stepH (.hd h) c = behindH (readL L) := by simp [stepH, hf, he, hr]
  rw [this]
theorem say_le {F : List (Bs × Bs)} {k : Bool} {n : Nat} (h : sayH F = some (k, some n)) : n ≤ 65535 := by
  unfold sayH at h
  split at h
  · split at h
    · split at h <;> cases h
    · rename_i v hv _
      cases hn : numH v with
      | none => rw [hn] at h; cases h
      | some m =>
        rw [hn] at h
        injection h with h
        injection h with h1 h2
        injection h2 with h2
        subst h2
        rw [numH_cap] at hn
        unfold capN at hn
        split at hn
        · split at hn
          · injection hn with hn; omega
          · cases hn
        · cases hn
    · cases h
  · cases h
theorem readL_le {L : List Bs} {k : Bool} {n : Nat} (h : readL L = some (k, some n)) : n ≤ 65535 := by
  unfold readL at h
  split at h
  · cases h
  · split at h
    · cases hm : List.mapM fieldH _ with
      | none => rw [hm] at h; cases h
      | some F => rw [hm] at h; exact say_le h
    · cases h
end Go.Proofs.YtjhameebehkdjaaGreatDoor
namespace Go.Proofs.YtjhameebehkdjaaGreatDoor
open Go.RowKit Go.Shelf
set_option linter.unusedVariables false
set_option maxRecDepth 100000

/-- What holds at a round's head. -/
structure TkR (w wr : World) (F F' : Nat → Prop) (g : Nat) (h h' : Bs) (b : Bs) (k : Nat) : Prop where
  rd : HdR wr F' g h'
  mod : Mod F w wr
  fr : ∀ j, F' j → F j ∨ w.heap.size ≤ j
  go : goH (.hd h) b = goH (.hd h') (b.drop k)
  len : h'.length < 2000
  ok : ∃ L p cr, HdOk h' L p cr
set_option maxHeartbeats 4000000 in
set_option maxRecDepth 100000 in
theorem takeHead_any (g : Nat) (F : Nat → Prop) (h : Bs) (A : Option Addr) (b : Bs) (c : Nat) (w : World) (hr : HdR w F g h) (hl : h.length < 2000) (hok : ∃ L p cr, HdOk h L p cr) (hb : Sl w A c b) (hA : b ≠ [] → Off F A) (hM : MaxL w) (hMF : ¬ F (Tryz.lays146_ren.g 1)) :
    Calls Tryz.prog 98 #[.pointer (some ⟨g, 0, none⟩), .slice A b.length c] w (TakeHP w F g h b) := by
  have T0 : TkR w w F F g h h b 0 := ⟨hr, Mod.refl _ _, fun j hj => .inl hj, rfl, hl, hok⟩
  have HT0 := Lib.hid T0
  have HB := Lib.hid hb
  have HA := Lib.hid hA
  have HM := Lib.hid hM
  have HMF := Lib.hid hMF
  have HD : Hid (∀ e w', (Mod F w w' ∧ ∃ (n : Nat) (ok : Bool), e = .returned (.tuple #[.int .i64 n, .bool ok]) ∧
  ((ok = false ∧ goH (.hd h) b = badH ∧ ∃ hv bv k, RRow w' g false hv bv k) ∨
  (∃ h' F', ok = true ∧ n = b.length ∧ goH (.hd h) b = (.hd h', [], false) ∧ HdR w' F' g h' ∧ (∀ j, F' j → F j ∨ w.heap.size ≤ j) ∧ h'.length < 2000 ∧ ∃ L p cr, HdOk h' L p cr) ∨
  (∃ k F', ok = true ∧ n ≤ b.length ∧ goH (.hd h) b = goH (.chk k (newC 65535)) (b.drop n) ∧ ChkR w' F' g k (newC 65535) ∧ ∀ j, F' j → F j ∨ w.heap.size ≤ j) ∨
  (∃ k m F', ok = true ∧ n ≤ b.length ∧ m ≤ 65535 ∧ goH (.hd h) b = thenH (behindH (some (k, some m))) (goH (behindH (some (k, some m))).1 (b.drop n)) ∧ CntR w' F' g k [] m ∧ ∀ j, F' j → F j ∨ w.heap.size ≤ j))) → TakeHP w F g h b e w') := Lib.hid (fun _ _ h => h)
  generalize TakeHP w F g h b = Q at *
  obtain ⟨n, hn⟩ : ∃ n, n = b.length := ⟨_, rfl⟩
  have hnm : n ≤ 9223372036854775807 := by rw [hn]; exact Nat.le_trans hb.le hb.max
  have HN := Lib.hid hn
  rw [← hn] at HD ⊢
  clear hr hl hok hb hA hM hMF T0 hn
  go_enter Tryz.func98, Tryz.ntmps98
  go_wp2_with fail
  go_loopw [10] (fun i wr => ∃ (k : Nat) (h' : Bs) (F' : Nat → Prop), i = .int .i64 k ∧ k ≤ n ∧ TkR w wr F F' g h h' b k) (fun i _ => n - (intOf i).toNat)
  case atStart => exact ⟨0, h, F, rfl, by omega, HT0.out⟩
  case round =>
    clear HT0
    obtain ⟨k, h', F', rfl, hk, hT⟩ := hrel
    have T := Lib.hid hT
    by_cases hlt : k < n
    · have hkb : k < b.length := by have := HN.out; omega
      have hbne : b ≠ [] := fun e => by rw [e] at hkb; simp at hkb
      obtain ⟨gb, ob, rfl, hcb⟩ := (HB.out.bys.mod hT.mod (HA.out hbne)) (by omega)
      have cb := hcb k hkb
      obtain ⟨cc, hcc⟩ : ∃ cc, cc = b[k] := ⟨_, rfl⟩
      rw [← hcc] at cb
      have cb' : wr.cell? ⟨gb, ob + k, none⟩ = some (.int .u8 (cc.toNat : Int)) := cb
      have hdrop : b.drop k = cc :: b.drop (k + 1) := by rw [hcc]; exact List.drop_eq_getElem_cons hkb
      obtain ⟨v, k0, r, o, ne, hF'⟩ := hT.rd
      obtain ⟨Av, cv, rfl, hsv⟩ := o.bysN
      have x2 := (cell_of_row _ g 2 _ _ _ r).trans (show _ = some (Value.slice Av h'.length cv) from rfl)
      have FT := Lib.hid (fits_any Av h' cv cc wr hsv)
      have hlt' : (k : Int) < (n : Int) := by omega
      have HGO : Hid (goH (.hd h) b = goH (.hd h') (cc :: b.drop (k + 1))) := Lib.hid (by rw [hT.go, hdrop])
      have OO := Lib.hid o
      have RR := Lib.hid r
      have NE := Lib.hid ne
      have FF := Lib.hid hF'
      obtain ⟨hl1, hhl⟩ : ∃ m, m = h'.length := ⟨_, rfl⟩
      have HHL := Lib.hid hhl
      rw [← hhl] at x2 FT OO RR NE FF
      have HKB := Lib.hid hkb
      clear hT hbne hcb cb hcc hdrop r o ne hF' hsv hhl hkb
      by_cases hf : fitH h' cc = true
      · rw [hf] at FT
        have HF := Lib.hid hf
        clear hf
        go_wp2_with fail
        refine FT.out.mono ?_
        rintro e w1 ⟨rfl, k1⟩
        have r1 := RR.out.on k1
        have o1 := OO.out.below k1 (Nat.le_refl _)
        have x2 := (cell_of_row _ g 2 _ _ _ r1).trans (show _ = some (Value.slice Av hl1 cv) from rfl)
        have W1n := Lib.hid k1
        have k2 : Below w1.heap.size w1 (w1.alloc (.cells #[.int .u8 (cc.toNat : Int)] 5)) := Below.alloc (Below.refl _ _) (Nat.le_refl _) _
        have r2 := Lib.hid (r1.on k2)
        have o2 := Lib.hid (o1.below k2 (Nat.le_refl _))
        have s1 : Sl (w1.alloc (.cells #[.int .u8 (cc.toNat : Int)] 5)) (some ⟨w1.heap.size, 0, none⟩) 1 [cc] := Sl.made (l := [cc]) rfl (by simp)
        have S1 := Lib.hid s1
        have K2 := Lib.hid k2
        have glt : g < (w1.alloc (.cells #[.int .u8 (cc.toNat : Int)] 5)).heap.size := (r1.on k2).lt
        have glt1 := r1.lt
        clear cb' r1 o1 k1 k2 s1 FT
        go_wp2_with (first
          | (at_builtin; refine wpList_append_bys rfl (.tmp 26) (.tmp 28) rfl 0 _ h' rfl o2.out (some ⟨w1.heap.size, 0, none⟩) 1 1 [cc] rfl rfl S1.out.bys (fun h => by cases h) (by have := T.out.len; simp; omega) (Nat.zero_le _) ?_)
          | fail)
        intro v3 w3 o3 g3 f3
        have r3 := (g3.block g glt (fun e => NE.out e.symm)).trans r2.out
        have there : w3.cell? ⟨g, 2, none⟩ = some (.slice Av hl1 cv) := (cell_of_row _ g 2 _ _ _ r3).trans rfl
        have fz : w3.frozen? ⟨g, 2, none⟩ = false := frozen_of_row _ _ 2 _ _ r3
        have r4 : RRow (w3.setCell ⟨g, 2, none⟩ v3) g false v3 .nilIface k0 := RRow.set (w := w3) (g := g) (en := false) (hv := .slice Av hl1 cv) (bv := .nilIface) (k := k0) r3 2 v3 (by simp [rcells])
        have gs := grown_setG g 2 v3 w3
        have hv3 : v3.ownBlock ≠ some g := fun e => by
          rcases f3 g e with q | q
          · exact NE.out q
          · omega
        have o4 := o3.kept gs (by cases hv : v3.ownBlock with | none => exact .inl rfl | some k => exact .inr (fun e => hv3 (hv.trans e)))
        have M4 : Mod F' wr (w3.setCell ⟨g, 2, none⟩ v3) := (((Mod.below (S := F') W1n.out).then K2.out).trans (Mod.grown (S := F') g3 (fun j hj => (FF.out j).2 (.inr hj))) (fun i hi => .inl hi)).trans (Mod.grown (S := F') gs (fun j hj => by injection hj with hj; exact (FF.out j).2 (.inl hj.symm))) (fun i hi => .inl hi)
        have M5 : Mod F w (w3.setCell ⟨g, 2, none⟩ v3) := T.out.mod.trans M4 T.out.fr
        have f5 : ∀ j, (j = g ∨ v3.ownBlock = some j) → F j ∨ w.heap.size ≤ j := fun j hj => by
          rcases hj with e | e
          · exact T.out.fr j ((FF.out j).2 (.inl e))
          · rcases f3 j e with q | q
            · exact T.out.fr j ((FF.out j).2 (.inr q))
            · right
              have s1 := T.out.mod.size
              have s2 := W1n.out.size
              have s3 := K2.out.size
              omega
        obtain ⟨A3, c3, rfl, hs3⟩ := o3.bysN
        obtain ⟨h2, hh2⟩ : ∃ h2, h2 = h' ++ [cc] := ⟨_, rfl⟩
        rw [← hh2] at o3 o4 hs3 r4 gs hv3 M4 M5 f5
        rw [← hh2]
        obtain ⟨W4, hW4⟩ : ∃ W4, W4 = w3.setCell ⟨g, 2, none⟩ (.slice A3 h2.length c3) := ⟨_, rfl⟩
        rw [← hW4] at o4 r4 M4 M5
        have hs4 := o4.bysN
        obtain ⟨A4, c4, hve, hs4⟩ := hs4
        injection hve with e1 e2 e3
        subst e1 e3
        have IH := Lib.hid (isHead_any A3 h2 c3 W4 hs4)
        have x4 := (cell_of_row _ g 2 _ _ _ r4).trans (show _ = some (Value.slice A3 h2.length c3) from rfl)
        have R4 := Lib.hid r4
        have O4 := Lib.hid o4
        have MM5 := Lib.hid M5
        have FF5 := Lib.hid f5
        have NE3 := Lib.hid hv3
        have HW4 := Lib.hid hW4
        have HH2 := Lib.hid hh2
        clear o3 g3 f3 r3 r4 gs hv3 o4 M4 M5 f5 hs3 hs4 K2 W1n r2 o2 S1 hW4 hh2 x2 NE FF OO RR e2
        clear glt glt1
        go_wp2_with fail
        rw [← HW4.out]
        obtain ⟨L, p, cr, hdok⟩ := T.out.ok
        have hstep := hdok.step HF.out
        have hl2 : h2.length = h'.length + 1 := by rw [HH2.out]; simp
        have hlen := T.out.len
        cases hend : endH h2 with
        | true =>
          rw [hend] at IH
          have hLL : h2 = catL L ++ [13, 10] := by
            rcases hstep with ⟨_, _, _, _, h⟩ | ⟨_, _, _, h, _⟩ | ⟨_, _, h, _⟩ | ⟨_, _, h, _⟩
            · rw [HH2.out]; exact h
            · rw [← HH2.out, hend] at h; cases h
            · rw [← HH2.out, hend] at h; cases h
            · rw [← HH2.out, hend] at h; cases h
          have hLok : ∀ l ∈ L, okLine l := fun l hl => (hdok.lines l hl).1
          have HEND : Hid (goH (.hd h) b = thenH (behindH (readL L)) (goH (behindH (readL L)).1 (b.drop (k + 1)))) := Lib.hid (by
            rw [HGO.out]
            exact stepH_end _ HF.out (by rw [← HH2.out]; exact hend) (by rw [← HH2.out]; exact hLL) hLok)
          have HLE : Hid (∀ k n, readL L = some (k, some n) → n ≤ 65535) := Lib.hid (fun k n e => readL_le e)
          have EH := Lib.hid (fun w5 (k5 : Below W4.heap.size W4 w5) => endHead_any g _ k0 h2 L w5 (R4.out.on k5) (O4.out.below k5 (Nat.le_refl _)) NE3.out hLL (by omega) hLok (HM.out.mod (MM5.out.then k5) HMF.out))
          have HEP : Hid (∀ w5 e w', Below W4.heap.size W4 w5 → EndHP w5 g (readL L) e w' → ∃ x : Bool, e = .returned (.bool x) ∧ Q (.returned (.tuple #[.int .i64 ((k + 1 : Nat) : Int), .bool x])) w') := Lib.hid (fun w5 e w' k5 ⟨hm, hx⟩ => by
            have hMM : Mod F w w' := (MM5.out.then k5).trans hm (fun i hi => FF5.out i (.inl hi))
            have hsz := (MM5.out.then k5).size
            have hgF : ∀ {P : Nat → Prop}, (∀ j, P j → j = g ∨ w5.heap.size ≤ j) → ∀ j, P j → F j ∨ w.heap.size ≤ j := fun hp j hj => by
              rcases hp j hj with e | e
              · exact FF5.out j (.inl e)
              · exact .inr (by omega)
            have hkn : k + 1 ≤ n := by omega
            rcases hx with ⟨hn, rfl, hv, bv, kk, hrr⟩ | ⟨kk, F2, hn, rfl, hc, hF2⟩ | ⟨kk, m, F2, hn, rfl, hc, hF2⟩
            · refine ⟨false, rfl, HD.out _ _ ⟨hMM, k + 1, false, rfl, .inl ⟨rfl, ?_, hv, bv, kk, hrr⟩⟩⟩
              rw [HEND.out, hn]
              exact bad_then _ _ rfl badH
            · refine ⟨true, rfl, HD.out _ _ ⟨hMM, k + 1, true, rfl, .inr (.inr (.inl ⟨kk, F2, rfl, hkn, ?_, hc, hgF hF2⟩))⟩⟩
              rw [HEND.out, hn]
              exact thenH_eq _ _
            · refine ⟨true, rfl, HD.out _ _ ⟨hMM, k + 1, true, rfl, .inr (.inr (.inr ⟨kk, m, F2, rfl, hkn, HLE.out kk m hn, ?_, hc, hgF hF2⟩))⟩⟩
              rw [HEND.out, hn])
          generalize readL L = RL at *
          clear hstep hdok hLL hLok hend hl2 hlen HD HGO HEND HLE T R4 O4 MM5 FF5 NE3 HF HH2 HB HA
          refine IH.out.mono ?_
          rintro e w5 ⟨rfl, k5⟩
          have E5 := Lib.hid (EH.out w5 k5)
          have P5 := Lib.hid (fun e w' h => HEP.out w5 e w' k5 h)
          clear k5 EH HEP IH x4
          go_wp2_with fail
          refine E5.out.mono ?_
          intro e w6 hq
          obtain ⟨x, rfl, hQ⟩ := P5.out e w6 hq
          have HQ := Lib.hid hQ
          clear hQ hq P5 E5
          go_wp2_with fail
          exact HQ.out
        | false =>
          rw [hend] at IH
          by_cases h2000 : h2.length = 2000
          · have e1 : ((h2.length : Int) == 2000) = true := by rw [h2000]; rfl
            have HQ := Lib.hid (fun w5 (k5 : Below W4.heap.size W4 w5) => HD.out (.returned (.tuple #[.int .i64 (0 : Nat), .bool false])) w5 ⟨MM5.out.then k5, 0, false, rfl, .inl ⟨rfl, by rw [HGO.out]; exact stepH_long _ HF.out (by rw [← HH2.out]; exact hend) (by omega), _, _, _, R4.out.on k5⟩⟩)
            have C5 := Lib.hid (fun w5 (k5 : Below W4.heap.size W4 w5) => cell_on x4 k5)
            obtain ⟨l2, hl2'⟩ : ∃ l2, l2 = h2.length := ⟨_, rfl⟩
            rw [← hl2'] at e1 IH C5 ⊢
            clear hstep hdok hend hl2 hlen HD HGO T R4 O4 MM5 FF5 NE3 HF HH2 HB HA h2000 hl2'
            refine IH.out.mono ?_
            rintro e w5 ⟨rfl, k5⟩
            have c5 := C5.out w5 k5
            have H5 := Lib.hid (HQ.out w5 k5)
            clear k5 C5 HQ IH x4
            go_wp2_with fail
            exact H5.out
          · have e1 : ((h2.length : Int) == 2000) = false := by rw [beq_eq_false_iff_ne]; omega
            have hok2 : ∃ L p cr, HdOk h2 L p cr := by
              rcases hstep with ⟨_, _, _, h, _⟩ | ⟨_, _, _, _, h⟩ | ⟨_, _, _, h⟩ | ⟨_, _, _, h⟩
              · rw [← HH2.out, hend] at h; cases h
              all_goals (rw [← HH2.out] at h; exact ⟨_, _, _, h⟩)
            have HT2 := Lib.hid (fun w5 (k5 : Below W4.heap.size W4 w5) => (show TkR w w5 F (fun j => j = g ∨ (Value.slice A3 h2.length c3).ownBlock = some j) g h h2 b (k + 1) from
              ⟨⟨_, k0, R4.out.on k5, O4.out.below k5 (Nat.le_refl _), NE3.out, fun _ => Iff.rfl⟩, MM5.out.then k5, FF5.out, by
                rw [HGO.out, HH2.out]
                exact stepH_more _ HF.out (by rw [← HH2.out]; exact hend) (by omega), by omega, hok2⟩))
            have C5 := Lib.hid (fun w5 (k5 : Below W4.heap.size W4 w5) => cell_on x4 k5)
            obtain ⟨l2, hl2'⟩ : ∃ l2, l2 = h2.length := ⟨_, rfl⟩
            rw [← hl2'] at e1 IH C5 HT2 ⊢
            clear hstep hdok hend hl2 hlen HD HGO T R4 O4 MM5 FF5 NE3 HF HB HA h2000 hl2' hok2
            refine IH.out.mono ?_
            rintro e w5 ⟨rfl, k5⟩
            have c5 := C5.out w5 k5
            have H5 := Lib.hid (HT2.out w5 k5)
            clear k5 C5 HT2 IH x4 HH2
            go_wp2_with fail
            go_roundw
            case rel => exact ⟨k + 1, h2, _, by go_num, by omega, H5.out⟩
            case measure => simp [intOf]; omega
      · have hf' : fitH h' cc = false := by simpa using hf
        rw [hf'] at FT
        have HQ := Lib.hid (fun w1 (k1 : Below wr.heap.size wr w1) => HD.out (.returned (.tuple #[.int .i64 (0 : Nat), .bool false])) w1 ⟨T.out.mod.then k1, 0, false, rfl, .inl ⟨rfl, by rw [HGO.out]; exact stepH_bad _ hf', _, _, _, RR.out.on k1⟩⟩)
        clear hf hf' HD HGO
        go_wp2_with fail
        refine FT.out.mono ?_
        rintro e w1 ⟨rfl, k1⟩
        have HG := Lib.hid (HQ.out w1 k1)
        clear k1 HQ FT
        go_wp2_with fail
        exact HG.out
    · obtain rfl : k = n := by omega
      have HQ := Lib.hid (HD.out (.returned (.tuple #[.int .i64 k, .bool true])) wr ⟨hT.mod, k, true, rfl, .inr (.inl ⟨h', F', rfl, rfl, by rw [hT.go, HN.out, List.drop_length]; rfl, hT.rd, hT.fr, hT.len, hT.ok⟩)⟩)
      clear hT T HD
      go_wp2_with fail
      exact HQ.out
end Go.Proofs.YtjhameebehkdjaaGreatDoor
