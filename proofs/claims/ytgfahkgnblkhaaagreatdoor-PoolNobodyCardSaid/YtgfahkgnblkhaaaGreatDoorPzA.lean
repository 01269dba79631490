/-
  Frames with their length ahead: plain bytes.
  Lists of texts the same: slices.EqualFunc with bytes.Equal.
  The document's Encode of a frame; texts the same; bytes spoiled.
  The landed prefix's New and Encode alone (as in PfL, PfM, where the whole reader is).
  The landed pool: a question alone as a message; a ticket; a question's copy; an open question.
-/
import Derived.Test.YtgfahkgnblkhaaaGreatDoorNmL
import Derived.Test.YtgfahkgnblkhaaaGreatDoorEc
import Derived.Test.YtgfahkgnblkhaaaGreatDoorMo
import Derived.Test.YtgfahkgnblkhaaaGreatDoorSl
import Derived.Test.YtgfahkgnblkhaaaGreatDoorEnN
import Derived.Test.YtgfahkgnblkhaaaGreatDoorHdB
import Derived.Test.YtgfahkgnblkhaaaGreatDoorWmE
import Derived.Deep.RegionLaw
import Derived.Deep.RegionHeld3
import Derived.Test.YtgfahkgnblkhaaaGreatDoorNmD
import Derived.Deep.MidRow
namespace Go.Proofs.YtgfahkgnblkhaaaGreatDoor
open Go.RowKit
set_option linter.unusedVariables false
set_option maxRecDepth 100000

/-- The first frame of bytes, and what stands behind it. -/
def fr : Bs → Option (Bs × Bs)
  | h :: l :: t => if t.length < h.toNat * 256 + l.toNat then none else some (t.take (h.toNat * 256 + l.toNat), t.drop (h.toNat * 256 + l.toNat))
  | _ => none
def frF : Nat → Bs → List Bs × Bs
  | 0, x => ([], x)
  | f + 1, x => match fr x with
    | none => ([], x)
    | some (a, r) => (a :: (frF f r).1, (frF f r).2)
/-- The whole frames of bytes, and what is left. -/
def feedP (x : Bs) : List Bs × Bs := frF x.length x
theorem fr_len {x a r : Bs} (h : fr x = some (a, r)) : r.length < x.length := by
  match x, h with
  | h0 :: l0 :: t, h =>
    simp only [fr] at h
    split at h
    · cases h
    · injection h with h
      injection h with h1 h2
      rw [← h2]
      simp
      omega
theorem frF_fuel : ∀ (f g : Nat) (x : Bs), x.length ≤ f → x.length ≤ g → frF f x = frF g x
  | 0, 0, _, _, _ => rfl
  | 0, g + 1, x, h, _ => by
    have : x = [] := List.length_eq_zero_iff.1 (by omega)
    subst this
    rfl
  | f + 1, 0, x, _, h => by
    have : x = [] := List.length_eq_zero_iff.1 (by omega)
    subst this
    rfl
  | f + 1, g + 1, x, hf, hg => by
    unfold frF
    cases h : fr x with
    | none => rfl
    | some p =>
      obtain ⟨a, r⟩ := p
      have hl := fr_len h
      simp only
      rw [frF_fuel f g r (by omega) (by omega)]
theorem feed_none {x : Bs} (h : fr x = none) : feedP x = ([], x) := by
  unfold feedP
  cases hx : x.length with
  | zero => rfl
  | succ n => simp only [frF, h]
theorem feed_some {x a r : Bs} (h : fr x = some (a, r)) : feedP x = (a :: (feedP r).1, (feedP r).2) := by
  have hl := fr_len h
  unfold feedP
  cases hx : x.length with
  | zero => omega
  | succ n =>
    simp only [frF, h]
    rw [frF_fuel n r.length r (by omega) (Nat.le_refl _)]
theorem fr_none_iff {x : Bs} (h2 : 2 ≤ x.length) : ∃ h l t, x = h :: l :: t := by
  match x, h2 with
  | h :: l :: t, _ => exact ⟨h, l, t, rfl⟩
theorem fr_short {x : Bs} (h : x.length < 2) : fr x = none := by
  match x, h with
  | [], _ => rfl
  | [_], _ => rfl
theorem fr_app {x a r : Bs} (y : Bs) (h : fr x = some (a, r)) : fr (x ++ y) = some (a, r ++ y) := by
  match x, h with
  | h0 :: l0 :: t, h =>
    simp only [fr] at h
    split at h
    · cases h
    · rename_i hn
      injection h with h
      injection h with h1 h2
      subst h1 h2
      simp only [List.cons_append, fr]
      rw [if_neg (by simp; omega), List.take_append_of_le_length (by omega), List.drop_append_of_le_length (by omega)]
/-- How bytes are cut plays no part. -/
theorem feed_app : ∀ (n : Nat) (x y : Bs), x.length ≤ n → feedP (x ++ y) = ((feedP x).1 ++ (feedP ((feedP x).2 ++ y)).1, (feedP ((feedP x).2 ++ y)).2)
  | n, x, y, hn => by
    cases h : fr x with
    | none => rw [feed_none h]; simp
    | some p =>
      obtain ⟨a, r⟩ := p
      have hl := fr_len h
      rw [feed_some h, feed_some (fr_app y h)]
      match n, hn with
      | 0, hn => omega
      | n + 1, hn =>
        rw [feed_app n r y (by omega)]
        simp
theorem feed_cut (x y : Bs) : feedP (x ++ y) = ((feedP x).1 ++ (feedP ((feedP x).2 ++ y)).1, (feedP ((feedP x).2 ++ y)).2) := feed_app _ x y (Nat.le_refl _)
def encP (b : Bs) : Bs := UInt8.ofNat (b.length / 256) :: UInt8.ofNat (b.length % 256) :: b
theorem fr_enc {b : Bs} (h : b.length ≤ 65535) (t : Bs) : fr (encP b ++ t) = some (b, t) := by
  have h1 : (UInt8.ofNat (b.length / 256)).toNat = b.length / 256 := by simp; omega
  have h2 : (UInt8.ofNat (b.length % 256)).toNat = b.length % 256 := by simp
  simp only [encP, List.cons_append, fr, h1, h2]
  rw [show b.length / 256 * 256 + b.length % 256 = b.length by omega]
  rw [if_neg (by simp)]
  simp
theorem feed_encs : ∀ (L : List Bs), (∀ b ∈ L, b.length ≤ 65535) → ∀ t, feedP ((L.map encP).flatten ++ t) = (L ++ (feedP t).1, (feedP t).2)
  | [], _, t => by simp
  | b :: L, h, t => by
    have e : ((b :: L).map encP).flatten ++ t = encP b ++ ((L.map encP).flatten ++ t) := by simp
    rw [e, feed_some (fr_enc (h b (by simp)) _), feed_encs L (fun x hx => h x (by simp [hx])) t]
    simp
theorem fr_begin {b : Bs} (h : b.length ≤ 65535) {n : Nat} (hn : n < (encP b).length) : fr ((encP b).take n) = none := by
  have h1 : (UInt8.ofNat (b.length / 256)).toNat = b.length / 256 := by simp; omega
  have h2 : (UInt8.ofNat (b.length % 256)).toNat = b.length % 256 := by simp
  match n, hn with
  | 0, _ => rfl
  | 1, _ => rfl
  | n + 2, hn =>
    simp only [encP, List.length_cons] at hn
    simp only [encP, List.take_succ_cons, fr, h1, h2]
    rw [if_pos (by simp; omega)]
end Go.Proofs.YtgfahkgnblkhaaaGreatDoor
namespace Go.Proofs.YtgfahkgnblkhaaaGreatDoor
open Go.RowKit
set_option linter.unusedVariables false
set_option maxRecDepth 100000

end Go.Proofs.YtgfahkgnblkhaaaGreatDoor
namespace Go.Proofs.YtgfahkgnblkhaaaGreatDoor
open Go.RowKit
set_option linter.unusedVariables false
set_option maxRecDepth 100000

/-- What Encode answers. -/
def EncF (w : World) (b : Bs) (e : Ending) (w' : World) : Prop := Below w.heap.size w w' ∧ ((65535 < b.length ∧ e = .returned (.tuple #[.slice none 0 0, .int .i64 1])) ∨ (b.length ≤ 65535 ∧ ∃ v, e = .returned (.tuple #[v, .int .i64 0]) ∧ OwnB w' w.heap.size v (encP b)))
end Go.Proofs.YtgfahkgnblkhaaaGreatDoor
namespace Go.Proofs.YtgfahkgnblkhaaaGreatDoor
open Go.RowKit
set_option linter.unusedVariables false
set_option maxRecDepth 100000

/-- The reader at block g. -/
def PL (w : World) (g : Nat) (v : Value) (x : Bs) : Prop := w.heap[g]? = some (.cells #[v, .bool true] 130 (0, 0)) ∧ OwnB w 0 v x ∧ v.ownBlock ≠ some g
def FL (g : Nat) (v : Value) : Nat → Prop := fun k => k = g ∨ v.ownBlock = some k
theorem PL.below {w w1 : World} {g : Nat} {v : Value} {x : Bs} (h : PL w g v x) (k : Below w.heap.size w w1) : PL w1 g v x := ⟨(k.block g (Array.getElem?_eq_some_iff.1 h.1).1).trans h.1, h.2.1.below k (Nat.le_refl _), h.2.2⟩
set_option maxHeartbeats 400000 in
theorem newP_any (w : World) : Calls Tryz.prog 75 #[] w fun e w' => ∃ g, e = .returned (.pointer (some ⟨g, 0, none⟩)) ∧ PL w' g (.slice none 0 0) [] ∧ Below w.heap.size w w' ∧ w.heap.size ≤ g := by
  have b : Below w.heap.size w (w.alloc (.cells #[.slice none 0 0, .bool true] 130)) := Below.alloc (Below.refl _ _) (Nat.le_refl _) _
  have r : (w.alloc (.cells #[.slice none 0 0, .bool true] 130)).heap[w.heap.size]? = some (.cells #[.slice none 0 0, .bool true] 130 (0, 0)) := row_new _ rfl
  go_enter Tryz.func75, Tryz.ntmps75
  go_wp2_with fail
  go_ret
  exact ⟨_, rfl, ⟨r, .inl ⟨rfl, rfl⟩, by simp [Value.ownBlock]⟩, b, Nat.le_refl _⟩
set_option maxHeartbeats 1000000 in
theorem encLP_any (A : Option Addr) (b : Bs) (c : Nat) (w : World) (hb : Sl w A c b) : Calls Tryz.prog 49 #[.slice A b.length c] w (EncF w b) := by
  have HD : Hid (∀ e w', EncF w b e w' ↔ (Below w.heap.size w w' ∧ ((65535 < b.length ∧ e = .returned (.tuple #[.slice none 0 0, .int .i64 1])) ∨ (b.length ≤ 65535 ∧ ∃ v, e = .returned (.tuple #[v, .int .i64 0]) ∧ OwnB w' w.heap.size v (encP b))))) := Lib.hid (fun _ _ => Iff.rfl)
  obtain ⟨n, hn⟩ : ∃ n, n = b.length := ⟨_, rfl⟩
  by_cases hl : 65535 < b.length
  · have HF := Lib.hid ((HD.out (.returned (.tuple #[.slice none 0 0, .int .i64 1])) w).2 ⟨Below.refl _ _, .inl ⟨hl, rfl⟩⟩)
    rw [← hn]
    rw [← hn] at hl
    have hl' : (65535 : Int) < (n : Int) := by omega
    generalize EncF w b = Q at *
    clear hn hb HD hl
    go_enter Tryz.func49, Tryz.ntmps49
    go_wp2_with fail
    exact HF.out
  · have hl' : ¬ (65535 : Int) < (n : Int) := by omega
    have hn0 : (0 : Int) ≤ (n : Int) := by omega
    have hn1 : (n : Int) ≤ 65535 := by omega
    have HN := Lib.hid hn
    have HL := Lib.hid hl
    obtain ⟨m, hm⟩ : ∃ m, m = n + 2 := ⟨_, rfl⟩
    have wr0 : IntKind.i64.wrap (2 + (n : Int)) = (m : Int) := by rw [IntWalk.i64_in _ (by omega)]; omega
    have wr1 : IntKind.u8.wrap ((n : Int) / 256) = (n : Int) / 256 := IntWalk.u8_in _ (by omega)
    have wr2 : IntKind.u8.wrap (n : Int) = (n : Int) % 256 := by simp [IntKind.wrap, IntKind.bits, IntKind.signed]
    obtain ⟨i0, hi, hz0, hz1, hz2⟩ := info_parts info_u8
    obtain ⟨M, hM⟩ : ∃ M, M = madeCells (Value.int .u8 0).cells (((m : Nat) : Int).toNat * i0.size) := ⟨_, rfl⟩
    have hMs : M.size = m * 1 := by rw [hM, size_madeCells, hz1]; simp
    have hmk : ∀ W : World, (Instr.makeSlice 30 (.int .i64 0) (.int .i64 (m : Int))).run Tryz.prog W = .ok (.slice (some ⟨W.heap.size, 0, none⟩) 0 m) (W.alloc (.cells M 5)) := fun W => by
      have h := run_make (P := Tryz.prog) W 30 5 i0 (.int .u8 0) Tryz.underlying30 hi hz0 .i64 .i64 0 (m : Int) (by omega) (by omega) (by rw [hz2]; omega) (by omega)
      rw [← hM] at h
      simpa using h
    have o0 : OwnB (w.alloc (.cells M 5)) w.heap.size (.slice (some ⟨w.heap.size, 0, none⟩) 0 m) [] := OwnB.of (l := []) (World.ownsRow_made w M m (Nat.le_refl _) (by unfold maxLen; omega) hMs) rfl
    have b0 : Below w.heap.size w (w.alloc (.cells M 5)) := Below.alloc (Below.refl _ _) (Nat.le_refl _) _
    have HH : Hid (#[Value.int .u8 ((n : Int) / 256), .int .u8 ((n : Int) % 256)] = (([UInt8.ofNat (n / 256), UInt8.ofNat (n % 256)] : Bs).map byteV).toArray) := Lib.hid (by simp [byteV]; omega)
    have b1 := Below.alloc (o := .cells #[Value.int .u8 ((n : Int) / 256), .int .u8 ((n : Int) % 256)] 5) b0 (by simp)
    have O1 := Lib.hid (o0.alloc (.cells #[Value.int .u8 ((n : Int) / 256), .int .u8 ((n : Int) % 256)] 5))
    have S1 : Hid (Sl ((w.alloc (.cells M 5)).alloc (.cells #[Value.int .u8 ((n : Int) / 256), .int .u8 ((n : Int) % 256)] 5)) (some ⟨w.heap.size + 1, 0, none⟩) 2 [UInt8.ofNat (n / 256), UInt8.ofNat (n % 256)]) := Lib.hid (by
      have := Sl.made (w := w.alloc (.cells M 5)) (t := 5) (l := [UInt8.ofNat (n / 256), UInt8.ofNat (n % 256)]) HH.out (by simp)
      simpa using this)
    have B1 := Lib.hid b1
    have HB := Lib.hid hb
    have E : Hid (encP b = [UInt8.ofNat (n / 256), UInt8.ofNat (n % 256)] ++ b) := Lib.hid (by rw [encP, hn]; rfl)
    rw [← hn]
    generalize EncF w b = Q at *
    clear hb hn hl hM hMs hm o0 b0 b1 HH
    go_enter Tryz.func49, Tryz.ntmps49
    go_wp2_with (first
      | (at_builtin; refine wpList_append_bys rfl (.tmp 12) (.tmp 20) rfl w.heap.size _ [] rfl O1.out _ 2 2 [UInt8.ofNat (n / 256), UInt8.ofNat (n % 256)] rfl rfl S1.out.bys (fun h => by cases h) (by simp) (by simp; omega) ?_)
      | fail)
    intro v1 w1 o1 g1 _
    have b2 : Below w.heap.size w w1 := B1.out.grown g1 (by simp; omega) (fun k hk => by simp [Value.ownBlock] at hk; omega)
    have sz : w.heap.size ≤ w1.heap.size := b2.size
    obtain ⟨A1, c1, rfl, -⟩ := o1.bysN
    have O2 := Lib.hid o1
    have B2 := Lib.hid b2
    have HB2 := Lib.hid (HB.out.on b2)
    have HX : Hid (([UInt8.ofNat (n / 256), UInt8.ofNat (n % 256)] : Bs).length + b.length ≤ 140737488355328) := Lib.hid (by rw [← HN.out]; simp; omega)
    clear o1 g1 b2 S1 O1 HB B1
    go_wp2_with (first
      | (at_builtin; refine wpList_append_bys rfl (.tmp 22) (.tmp 23) rfl w.heap.size _ [UInt8.ofNat (n / 256), UInt8.ofNat (n % 256)] rfl O2.out A c n b rfl HN.out HB2.out.bys HB2.out.nil HX.out sz ?_)
      | fail)
    intro v2 w2 o2 g2 _
    have b3 : Below w.heap.size w w2 := B2.out.grown g2 sz (fun k hk => (O2.out.lt k hk).1)
    have HF := Lib.hid ((HD.out (.returned (.tuple #[v2, .int .i64 0])) w2).2 ⟨b3, .inr ⟨by have := HL.out; omega, v2, rfl, by rw [E.out]; exact o2⟩⟩)
    clear o2 g2 b3
    go_wp2_with fail
    exact HF.out

end Go.Proofs.YtgfahkgnblkhaaaGreatDoor
namespace Go.Proofs.YtgfahkgnblkhaaaGreatDoor
open Go.RowKit Go.Maps
set_option linter.unusedVariables false
set_option maxRecDepth 100000

def qMsg (id : Int) (q : Qu) : Msg := ⟨⟨id, false, 0, false, false, false, false, 0⟩, [q], [], [], []⟩
def qMV (g : Nat) : MV := ⟨some ⟨g, 0, none⟩, none, none, none, 1, 0, 0, 0⟩
/-- Asked as cells. -/
def asL (tk cn id ad : Int) (q : Qu) : List Value := [.int .i64 tk, .int .i64 cn, .int .i64 id, .int .i64 ad, .string (bs q.n), .int .i64 q.t, .int .i64 q.c]
/-- A ticket as cells. -/
def tiL (id : Int) (q : Qu) : List Value := [.int .i64 id, .string (bs (lower q.n)), .int .i64 q.t, .int .i64 q.c]
/-- An open question as cells. -/
def oqL (tk cn id ad : Int) (q : Qu) (now : Int) : List Value := asL tk cn id ad q ++ (tiL id q ++ [.int .i64 now])
theorem info_ti : (Tryz.prog.info? 73).map (·.size) = some 4 := by kernel_rfl
theorem info_as : (Tryz.prog.info? 41).map (·.size) = some 7 := by kernel_rfl
theorem info_oq : (Tryz.prog.info? 75).map (·.size) = some 12 := by kernel_rfl
theorem as_one (tk cn id ad : Int) (q : Qu) : (asL tk cn id ad q).toArray.all (·.oneCell') = true := by simp [asL, Value.oneCell']
theorem ti_one (id : Int) (q : Qu) : (tiL id q).toArray.all (·.oneCell') = true := by simp [tiL, Value.oneCell']
theorem oq_one (tk cn id ad : Int) (q : Qu) (now : Int) : (oqL tk cn id ad q now).toArray.all (·.oneCell') = true := by simp [oqL, asL, tiL, Value.oneCell']
set_option maxHeartbeats 1000000 in
theorem message_any (id : Int) (q : Qu) (w : World) : Calls Tryz.prog 13 #[.int .i64 id, .agg (quC q)] w fun e w' => ∃ g, e = .returned (.agg (msL (qMsg id q) (qMV g)).toArray) ∧ Ms w' (qMsg id q) (qMV g) ∧ Below w.heap.size w w' := by
  obtain ⟨n, t, c⟩ := q
  simp only [quC, quL]
  have rF : (((w.alloc (.cells #[.string (bs n), .int .i64 t, .int .i64 c] 23)).alloc (.cells (msL (qMsg id ⟨n, t, c⟩) (qMV (w.heap.size + 1 + 1))).toArray 29)).alloc (.cells #[.string (bs n), .int .i64 t, .int .i64 c] 23)).heap[w.heap.size + 1]? = some (.cells (msL (qMsg id ⟨n, t, c⟩) (qMV (w.heap.size + 1 + 1))).toArray 29 (0, 0)) := row_old _ (row_new _ (by simp))
  have rQ : (((w.alloc (.cells #[.string (bs n), .int .i64 t, .int .i64 c] 23)).alloc (.cells (msL (qMsg id ⟨n, t, c⟩) (qMV (w.heap.size + 1 + 1))).toArray 29)).alloc (.cells #[.string (bs n), .int .i64 t, .int .i64 c] 23)).heap[w.heap.size + 1 + 1]? = some (.cells #[.string (bs n), .int .i64 t, .int .i64 c] 23 (0, 0)) := row_new _ (by simp)
  have bF : Below w.heap.size w (((w.alloc (.cells #[.string (bs n), .int .i64 t, .int .i64 c] 23)).alloc (.cells (msL (qMsg id ⟨n, t, c⟩) (qMV (w.heap.size + 1 + 1))).toArray 29)).alloc (.cells #[.string (bs n), .int .i64 t, .int .i64 c] 23)) := Below.alloc (Below.alloc (Below.alloc (Below.refl _ _) (Nat.le_refl _) _) (by simp) _) (by simp; omega) _
  go_enter Tryz.func13, Tryz.ntmps13
  go_wp2_with fail
  refine bodyPost_ret (v := .agg (msL (qMsg id ⟨n, t, c⟩) (qMV (w.heap.size + 1 + 1))).toArray) (results_cell_row (fn := Tryz.f13) (p := 4) (ty := 29) (by kernel_rfl) _ _ (w.heap.size + 1) 29 _ (0, 0) _ rfl rF Tryz.underlying29 rfl info_ms) rfl ?_
  refine ⟨_, rfl, ⟨fun _ => ⟨_, 0, rfl, fun j h => ?_⟩, fun h => absurd h (by simp [qMsg]), fun h => absurd h (by simp [qMsg]), fun h => absurd h (by simp [qMsg]), ⟨by simp [qMsg, qMV], by simp [qMV]⟩, ⟨by simp [qMsg], by simp [qMV]⟩, ⟨by simp [qMsg], by simp [qMV]⟩, ⟨by simp [qMsg], by simp [qMV]⟩⟩, bF⟩
  have hj : j = 0 := by simp [qMsg] at h; omega
  subst hj
  intro k v hv
  have := cell_of_row _ _ (0 + 0 * 3 + k) _ _ _ rQ
  refine this.trans ?_
  simpa [qMsg, quL] using hv
set_option maxHeartbeats 1000000 in
theorem ticketOf_any (id : Int) (q : Qu) (w : World) : Calls Tryz.prog 50 #[.int .i64 id, .agg (quC q)] w fun e w' => e = .returned (.agg (tiL id q).toArray) ∧ Below w.heap.size w w' := by
  obtain ⟨n, t, c⟩ := q
  simp only [quC, quL, tiL]
  have L := Lib.hid (fun W => Lower_any n W)
  have hIt := info_ti
  have hIq := info_qu
  generalize lower n = ln at L ⊢
  go_enter Tryz.func50, Tryz.ntmps50
  go_wp2_with fail
  refine (L.out _).mono ?_
  clear L
  rintro e w2 ⟨rfl, b2⟩
  have s2 : w.heap.size + 2 ≤ w2.heap.size := by have := b2.size; simpa using this
  have r0 := (b2.block w.heap.size (by simp; omega)).trans (row_old _ (row_new _ rfl))
  have r1 := (b2.block (w.heap.size + 1) (by simp)).trans (row_new _ (by simp))
  have bb : Below w.heap.size w w2 := Below.trans (Below.alloc (Below.alloc (Below.refl _ _) (Nat.le_refl _) _) (by simp) _) (b2.mono (by simp; omega))
  have c0 := (cell_of_row _ _ 0 _ _ _ r0).trans rfl
  have z0 := frozen_of_row _ _ 0 _ _ r0
  obtain ⟨W1, hW1⟩ : ∃ W1, W1 = w2.setCell ⟨w.heap.size, 0, none⟩ (.string (bs ln)) := ⟨_, rfl⟩
  have R0 : W1.heap[w.heap.size]? = some (.cells (#[.string (bs ln), .int .i64 t, .int .i64 c] : Array Value) 23 (0, 0)) := by rw [hW1]; exact row_set _ r0
  have R1 := row_other (.string (bs ln)) (i := 0) (g := w.heap.size) r1 (by omega)
  rw [← hW1] at R1
  have b1 : Below w.heap.size w W1 := by rw [hW1]; exact Below.setCell bb (Nat.le_refl _) _
  have RF := setRow_heap _ _ _ (#[.int .i64 id, .string (bs ln), .int .i64 t, .int .i64 c] : Array Value) _ _ R1
  have bF : Below w.heap.size w (W1.setRow (w.heap.size + 1) #[.int .i64 id, .string (bs ln), .int .i64 t, .int .i64 c]) := Below.setRow b1 (by omega) _
  have HW1 := Lib.hid hW1
  have HR0 := Lib.hid R0
  have HR1 := Lib.hid R1
  clear hW1 R0 R1 r0 r1 b2 bb s2 b1
  go_wp2_with (first
    | (refine wpList_load_row rfl 23 (.tmp 3) rfl w.heap.size rfl 23 #[.string (bs ln), .int .i64 t, .int .i64 c] (0, 0) _ (by rw [← HW1.out]; exact HR0.out) Tryz.underlying23 rfl hIq ?_; rw [← HW1.out])
    | (refine wpList_store_row rfl 73 (.tmp 4) (.tmp 11) rfl (w.heap.size + 1) #[.int .i64 id, .string (bs ln), .int .i64 t, .int .i64 c] rfl rfl 73 _ HR1.out hIt rfl (by simp [Value.oneCell']) ?_)
    | fail)
  refine bodyPost_ret (v := .agg #[.int .i64 id, .string (bs ln), .int .i64 t, .int .i64 c]) (results_cell_row (fn := Tryz.f50) (p := 4) (ty := 73) (by kernel_rfl) _ _ (w.heap.size + 1) 73 _ (0, 0) _ rfl RF Tryz.underlying73 rfl hIt) rfl ?_
  exact ⟨rfl, bF⟩
set_option maxHeartbeats 1000000 in
theorem copyO_any (tk cn id ad : Int) (q : Qu) (now : Int) (w : World) (hq : q.n.length ≤ 255) : Calls Tryz.prog 19 #[.agg (oqL tk cn id ad q now).toArray] w fun e w' => e = .returned (.agg (asL tk cn id ad q).toArray) ∧ Below w.heap.size w w' := by
  obtain ⟨n, t, c⟩ := q
  simp only [oqL, asL, tiL, List.cons_append, List.nil_append]
  generalize lower n = ln
  have HN := Lib.hid (show n.length ≤ 255 from hq)
  clear hq
  have hIa := info_as
  go_enter Tryz.func19, Tryz.ntmps19
  go_wp2_with fail
  refine (clone_any n _ (by have := HN.out; omega)).mono ?_
  rintro e w2 ⟨rfl, b2⟩
  have s2 : w.heap.size + 3 ≤ w2.heap.size := by have := b2.size; simpa using this
  have r1 := (b2.block (w.heap.size + 1) (by first | (simp; done) | (simp; omega))).trans (row_old _ (row_new _ (by simp)))
  have r2 := (b2.block (w.heap.size + 1 + 1) (by simp)).trans (row_new _ (by simp))
  have bb : Below w.heap.size w w2 := Below.trans (Below.alloc (Below.alloc (Below.alloc (Below.refl _ _) (Nat.le_refl _) _) (by simp) _) (by simp; omega) _) (b2.mono (by simp; omega))
  have c0 := (cell_of_row _ _ 4 _ _ _ r2).trans rfl
  have z0 := frozen_of_row _ _ 4 _ _ r2
  obtain ⟨W1, hW1⟩ : ∃ W1, W1 = w2.setCell ⟨w.heap.size + 1 + 1, 4, none⟩ (.string (bs n)) := ⟨_, rfl⟩
  have R2 : W1.heap[w.heap.size + 1 + 1]? = some (.cells (#[.int .i64 tk, .int .i64 cn, .int .i64 id, .int .i64 ad, .string (bs n), .int .i64 t, .int .i64 c] : Array Value) 41 (0, 0)) := by rw [hW1]; exact row_set _ r2
  have R1 := row_other (w := w2) (.string (bs n)) (i := 4) (g := w.heap.size + 1 + 1) r1 (by omega)
  rw [← hW1] at R1
  have b1 : Below w.heap.size w W1 := by rw [hW1]; exact Below.setCell bb (show w.heap.size ≤ w.heap.size + 1 + 1 by omega) _
  have RF := setRow_heap _ _ _ (#[.int .i64 tk, .int .i64 cn, .int .i64 id, .int .i64 ad, .string (bs n), .int .i64 t, .int .i64 c] : Array Value) _ _ R1
  have bF : Below w.heap.size w (W1.setRow (w.heap.size + 1) #[.int .i64 tk, .int .i64 cn, .int .i64 id, .int .i64 ad, .string (bs n), .int .i64 t, .int .i64 c]) := Below.setRow b1 (by omega) _
  have HW1 := Lib.hid hW1
  have HR2 := Lib.hid R2
  have HR1 := Lib.hid R1
  clear hW1 R2 R1 r1 r2 b2 bb s2 b1
  go_wp2_with (first
    | (refine wpList_load_row rfl 41 (.tmp 3) rfl (w.heap.size + 1 + 1) rfl 41 #[.int .i64 tk, .int .i64 cn, .int .i64 id, .int .i64 ad, .string (bs n), .int .i64 t, .int .i64 c] (0, 0) _ (by rw [← HW1.out]; exact HR2.out) Tryz.underlying41 rfl hIa ?_; rw [← HW1.out])
    | (refine wpList_store_row rfl 41 (.tmp 2) (.tmp 12) rfl (w.heap.size + 1) #[.int .i64 tk, .int .i64 cn, .int .i64 id, .int .i64 ad, .string (bs n), .int .i64 t, .int .i64 c] rfl rfl 41 _ HR1.out hIa rfl (by simp [Value.oneCell']) ?_)
    | fail)
  refine bodyPost_ret (v := .agg #[.int .i64 tk, .int .i64 cn, .int .i64 id, .int .i64 ad, .string (bs n), .int .i64 t, .int .i64 c]) (results_cell_row (fn := Tryz.f19) (p := 2) (ty := 41) (by kernel_rfl) _ _ (w.heap.size + 1) 41 _ (0, 0) _ rfl RF Tryz.underlying41 rfl hIa) rfl ?_
  exact ⟨rfl, bF⟩

/-- Asked loaded whole; an open question stored whole. -/
noncomputable def loadAs (v : Value) (w : World) : Result Next := ((Instr.loadAt 41 v).run Tryz.prog w).andThen fun a w' => .ok (.value a) w'
theorem exec_loadAs (ev : Operand → Value) (d : Option Tmp) (x : Operand) (t : TypeId) (p : String) (f : Array Edge) (gd : Option (Nat × Bool)) (w : World) : (execOp ev { dst := d, op := .load 41 x, type := t, pos := p, after := f, guard := gd }).run Tryz.prog w = loadAs (ev x) w := by
  unfold execOp loadAs
  simp only [Sem.run_bind, Sem.run_pure]
theorem loadAs_row {w1 : World} {g : Nat} {C : Array Value} (h : w1.heap[g]? = some (.cells C 41 (0, 0))) (hC : (Tryz.prog.info? 41).map (·.size) = some C.size) : loadAs (.pointer (some ⟨g, 0, none⟩)) w1 = .ok (.value (.agg C)) w1 := by
  unfold loadAs
  simp only [Instr.loadAt, Instr.sureAddr, Sem.run_bind, Sem.run_pure, Result.andThen_ok, run_loadVar_row w1 g 41 41 C (0, 0) _ h Tryz.underlying41 rfl hC]
noncomputable def storeOq (v u : Value) (w : World) : Result Next := ((Instr.storeAt 75 v u).run Tryz.prog w).andThen fun _ w' => .ok .skip w'
theorem exec_storeOq (ev : Operand → Value) (d : Option Tmp) (x y : Operand) (t : TypeId) (p : String) (f : Array Edge) (gd : Option (Nat × Bool)) (w : World) : (execOp ev { dst := d, op := .store 75 x y, type := t, pos := p, after := f, guard := gd }).run Tryz.prog w = storeOq (ev x) (ev y) w := by
  unfold execOp storeOq
  simp only [Sem.run_bind, Sem.run_pure]
theorem storeOq_row {w1 : World} {g : Nat} {old C : Array Value} (h : w1.heap[g]? = some (.cells old 75 (0, 0))) (ho : old.size = 12) (hC : C.size = 12) (h1 : C.all (·.oneCell') = true) : storeOq (.pointer (some ⟨g, 0, none⟩)) (.agg C) w1 = .ok .skip (w1.setRow g C) := by
  unfold storeOq
  simp only [Instr.storeAt, Instr.sureAddr, Sem.run_bind, Sem.run_pure, Result.andThen_ok, run_storeVar_row w1 g 75 75 old C h (by rw [info_oq, hC]) (by rw [ho, hC]) h1]
attribute [local go_sem ↓] exec_loadAs exec_storeOq exec_loadQu
def oqZ : Array Value := #[.int .i64 0, .int .i64 0, .int .i64 0, .int .i64 0, .string ⟨#[]⟩, .int .i64 0, .int .i64 0, .int .i64 0, .string ⟨#[]⟩, .int .i64 0, .int .i64 0, .int .i64 0]
/-- Asked in its box, the answer's cell behind it, ahead of a world that grows. -/
structure AsX (W : World) (C : Array Value) (wr : World) : Prop where
  r : wr.heap[W.heap.size]? = some (.cells C 41 (0, 0))
  o : wr.heap[W.heap.size + 1]? = some (.cells oqZ 75 (0, 0))
  b : Below W.heap.size W wr
theorem AsX.on {W wr w1 : World} {C : Array Value} (h : AsX W C wr) (k : Below wr.heap.size wr w1) : AsX W C w1 := ⟨(k.block _ (Array.getElem?_eq_some_iff.1 h.r).1).trans h.r, (k.block _ (Array.getElem?_eq_some_iff.1 h.o).1).trans h.o, Below.trans h.b (k.mono h.b.size)⟩
theorem AsX.drew {W wr : World} {C : Array Value} (h : AsX W C wr) : AsX W C wr.drew := ⟨h.r, h.o, Below.drew h.b⟩
theorem AsX.alloc {W wr : World} {C : Array Value} (h : AsX W C wr) (o : Obj) : AsX W C (wr.alloc o) := h.on (Below.alloc (Below.refl _ _) (Nat.le_refl _) _)
theorem AsX.le {W wr : World} {C : Array Value} (h : AsX W C wr) : W.heap.size + 2 ≤ wr.heap.size := by have := (Array.getElem?_eq_some_iff.1 h.o).1; omega
theorem AsX.set {W wr : World} {C : Array Value} (h : AsX W C wr) {g : Nat} (hg : W.heap.size + 2 ≤ g) (x : Array Value) : AsX W C (wr.setRow g x) := ⟨(setRow_other _ _ _ _ (by omega)).trans h.r, (setRow_other _ _ _ _ (by omega)).trans h.o, Below.setRow h.b (by omega) _⟩
theorem AsX.set' {W wr : World} {C : Array Value} (h : AsX W C wr) (o : Obj) (x : Array Value) : AsX W C ((wr.alloc o).setRow wr.heap.size x) := (h.alloc o).set h.le x
theorem late_row {wr w1 : World} {o : Obj} (hB : Below (wr.alloc o).heap.size (wr.alloc o) w1) : w1.heap[wr.heap.size]? = some o := (hB.block _ (by simp)).trans (row_new _ rfl)
theorem late_row_d {wr w1 : World} {o : Obj} (hB : Below (wr.alloc o).drew.heap.size (wr.alloc o).drew w1) : w1.heap[wr.heap.size]? = some o := (hB.block _ (by simp)).trans (row_drew (row_new _ rfl))
/-- An open question in its box, behind the answer's cell. -/
structure NQ (W : World) (g : Nat) (L : Array Value) (wr : World) : Prop where
  r : wr.heap[g]? = some (.cells L 75 (0, 0))
  o : wr.heap[W.heap.size + 1]? = some (.cells oqZ 75 (0, 0))
  b : Below W.heap.size W wr
  le : W.heap.size + 2 ≤ g
theorem nq_A {W wr : World} {C : Array Value} (h : AsX W C wr) (L z : Array Value) : NQ W wr.heap.size L ((wr.alloc (.cells z 75)).setRow wr.heap.size L) := ⟨setRow_heap _ _ _ _ _ _ (row_new _ rfl), (h.set' _ _).o, (h.set' _ _).b, h.le⟩
theorem nq_B {W wr : World} {C : Array Value} {g : Nat} (h : AsX W C wr) {z : Array Value} (hz : wr.heap[g]? = some (.cells z 75 (0, 0))) (hg : W.heap.size + 2 ≤ g) (L : Array Value) : NQ W g L (wr.setRow g L) := ⟨setRow_heap _ _ _ _ _ _ hz, (h.set hg _).o, (h.set hg _).b, hg⟩
theorem NQ.on {W wr w1 : World} {g : Nat} {L : Array Value} (h : NQ W g L wr) (k : Below wr.heap.size wr w1) : NQ W g L w1 := ⟨(k.block _ (Array.getElem?_eq_some_iff.1 h.r).1).trans h.r, (k.block _ (Array.getElem?_eq_some_iff.1 h.o).1).trans h.o, Below.trans h.b (k.mono h.b.size), h.le⟩
set_option maxHeartbeats 2000000 in
theorem newQ_any (tk cn id ad : Int) (q : Qu) (now : Int) (w : World) (hq : q.n.length ≤ 255) : Calls Tryz.prog 18 #[.agg (asL tk cn id ad q).toArray, .int .i64 now] w fun e w' => e = .returned (.agg (oqL tk cn id ad q now).toArray) ∧ Below w.heap.size w w' := by
  obtain ⟨n, t, c⟩ := q
  obtain ⟨C, hC⟩ : ∃ C, C = (asL tk cn id ad ⟨n, t, c⟩).toArray := ⟨_, rfl⟩
  have T := Lib.hid (fun W => ticketOf_any id ⟨n, t, c⟩ W)
  have K := Lib.hid (fun W => copyO_any tk cn id ad ⟨n, t, c⟩ now W hq)
  have hIa := info_as
  have hIo := info_oq
  have hCs : (Tryz.prog.info? 41).map (·.size) = some C.size := by rw [hC]; exact info_as
  have F1 : ∀ W, AsX w C W → loadAs (.pointer (some ⟨w.heap.size, 0, none⟩)) W = .ok (.value (.agg #[.int .i64 tk, .int .i64 cn, .int .i64 id, .int .i64 ad, .string (bs n), .int .i64 t, .int .i64 c])) W := fun W h => by
    rw [loadAs_row h.r hCs, hC]; rfl
  have F2 : ∀ W, AsX w C W → loadQu (.pointer (some ⟨w.heap.size, 4, none⟩)) W = .ok (.value (.agg #[.string (bs n), .int .i64 t, .int .i64 c])) W := fun W h => loadQu_mid (l := quL ⟨n, t, c⟩) (fun j v hv => by
    rw [cell_of_row _ _ (4 + j) _ _ _ h.r, hC]
    match j, hv with
    | 0, hv => exact hv
    | 1, hv => exact hv
    | 2, hv => exact hv
    | j + 3, hv => simp [quL] at hv) info_qu
  have F3 : ∀ W, AsX w C W → W.cell? ⟨w.heap.size, 2, none⟩ = some (.int .i64 id) := fun W h => by
    rw [cell_of_row _ _ 2 _ _ _ h.r, hC]; rfl
  have X0 : AsX w C ((w.alloc (.cells C 41)).alloc (.cells #[.int .i64 0, .int .i64 0, .int .i64 0, .int .i64 0, .string ⟨#[]⟩, .int .i64 0, .int .i64 0, .int .i64 0, .string ⟨#[]⟩, .int .i64 0, .int .i64 0, .int .i64 0] 75)) := ⟨row_old _ (row_new _ rfl), row_new _ (by simp), Below.alloc (Below.alloc (Below.refl _ _) (Nat.le_refl _) _) (by simp) _⟩
  rw [← hC]
  have HC := Lib.hid hC
  clear hC hq hCs
  simp only [quC, quL, tiL] at T
  simp only [asL, oqL, tiL, List.cons_append, List.nil_append] at K ⊢
  generalize lower n = ln at T K ⊢
  have F4 : ∀ (W : World), storeOq (.pointer (some ⟨W.heap.size, 0, none⟩)) (.agg #[.int .i64 tk, .int .i64 cn, .int .i64 id, .int .i64 ad, .string (bs n), .int .i64 t, .int .i64 c, .int .i64 id, .string (bs ln), .int .i64 t, .int .i64 c, .int .i64 now]) (W.alloc (.cells #[.int .i64 0, .int .i64 0, .int .i64 0, .int .i64 0, .string ⟨#[]⟩, .int .i64 0, .int .i64 0, .int .i64 0, .string ⟨#[]⟩, .int .i64 0, .int .i64 0, .int .i64 0] 75)) = .ok .skip ((W.alloc (.cells #[.int .i64 0, .int .i64 0, .int .i64 0, .int .i64 0, .string ⟨#[]⟩, .int .i64 0, .int .i64 0, .int .i64 0, .string ⟨#[]⟩, .int .i64 0, .int .i64 0, .int .i64 0] 75)).setRow W.heap.size #[.int .i64 tk, .int .i64 cn, .int .i64 id, .int .i64 ad, .string (bs n), .int .i64 t, .int .i64 c, .int .i64 id, .string (bs ln), .int .i64 t, .int .i64 c, .int .i64 now]) := fun W => storeOq_row (row_new _ rfl) rfl rfl (by simp [Value.oneCell'])
  obtain ⟨L, hL⟩ : ∃ L : Array Value, L = #[.int .i64 tk, .int .i64 cn, .int .i64 id, .int .i64 ad, .string (bs n), .int .i64 t, .int .i64 c, .int .i64 id, .string (bs ln), .int .i64 t, .int .i64 c, .int .i64 now] := ⟨_, rfl⟩
  go_enter Tryz.func18, Tryz.ntmps18
  go_wp2_with fail
  generalize (w.alloc (.cells C 41)).alloc (.cells #[.int .i64 0, .int .i64 0, .int .i64 0, .int .i64 0, .string ⟨#[]⟩, .int .i64 0, .int .i64 0, .int .i64 0, .string ⟨#[]⟩, .int .i64 0, .int .i64 0, .int .i64 0] 75) = w0 at *
  have F5 : ∀ (W : World), W.heap[w0.heap.size]? = some (.cells #[.int .i64 0, .int .i64 0, .int .i64 0, .int .i64 0, .string ⟨#[]⟩, .int .i64 0, .int .i64 0, .int .i64 0, .string ⟨#[]⟩, .int .i64 0, .int .i64 0, .int .i64 0] 75 (0, 0)) → storeOq (.pointer (some ⟨w0.heap.size, 0, none⟩)) (.agg #[.int .i64 tk, .int .i64 cn, .int .i64 id, .int .i64 ad, .string (bs n), .int .i64 t, .int .i64 c, .int .i64 id, .string (bs ln), .int .i64 t, .int .i64 c, .int .i64 now]) W = .ok .skip (W.setRow w0.heap.size #[.int .i64 tk, .int .i64 cn, .int .i64 id, .int .i64 ad, .string (bs n), .int .i64 t, .int .i64 c, .int .i64 id, .string (bs ln), .int .i64 t, .int .i64 c, .int .i64 now]) := fun W h => storeOq_row h rfl rfl (by simp [Value.oneCell'])
  have hS0 := X0.le
  go_region_held3 (fun w' => AsX w C w')
    (first | assumption | exact AsX.drew (by assumption) | exact AsX.alloc (by assumption) _ | exact AsX.on (by assumption) (by assumption) | exact AsX.on (AsX.drew (by assumption)) (by assumption) | exact AsX.on (AsX.drew (AsX.alloc (by assumption) _)) (by assumption) | exact AsX.on (AsX.alloc (AsX.drew (by assumption)) _) (by assumption) | exact AsX.on (AsX.alloc (by assumption) _) (by assumption) | exact AsX.set' (by assumption) _ _ | exact AsX.set (by assumption) (by assumption) _)
    (first
      | (go_at_call 50; (with_reducible refine (T.out _).mono ?_); rintro e w4 ⟨rfl, hBx⟩; (first | (have hX4 := AsX.on (AsX.drew X0) hBx) | (have hX4 := AsX.on (AsX.drew (AsX.alloc X0 _)) hBx) | (have hX4 := AsX.on (AsX.alloc (AsX.drew X0) _) hBx)); first | (have hZ : w4.heap[w0.heap.size]? = some (.cells #[.int .i64 0, .int .i64 0, .int .i64 0, .int .i64 0, .string ⟨#[]⟩, .int .i64 0, .int .i64 0, .int .i64 0, .string ⟨#[]⟩, .int .i64 0, .int .i64 0, .int .i64 0] 75 (0, 0)) := late_row hBx) | (have hZ : w4.heap[w0.heap.size]? = some (.cells #[.int .i64 0, .int .i64 0, .int .i64 0, .int .i64 0, .string ⟨#[]⟩, .int .i64 0, .int .i64 0, .int .i64 0, .string ⟨#[]⟩, .int .i64 0, .int .i64 0, .int .i64 0] 75 (0, 0)) := late_row_d hBx) | skip))
  all_goals
    first
      | (have N := nq_B hX4 hZ hS0 L
         rw [hL] at N
         generalize w4.setRow w0.heap.size #[.int .i64 tk, .int .i64 cn, .int .i64 id, .int .i64 ad, .string (bs n), .int .i64 t, .int .i64 c, .int .i64 id, .string (bs ln), .int .i64 t, .int .i64 c, .int .i64 now] = W5 at *
         generalize w0.heap.size = g at *)
      | (have N := nq_A hX4 L #[.int .i64 0, .int .i64 0, .int .i64 0, .int .i64 0, .string ⟨#[]⟩, .int .i64 0, .int .i64 0, .int .i64 0, .string ⟨#[]⟩, .int .i64 0, .int .i64 0, .int .i64 0]
         rw [hL] at N
         generalize (w4.alloc (.cells #[.int .i64 0, .int .i64 0, .int .i64 0, .int .i64 0, .string ⟨#[]⟩, .int .i64 0, .int .i64 0, .int .i64 0, .string ⟨#[]⟩, .int .i64 0, .int .i64 0, .int .i64 0] 75)).setRow w4.heap.size #[.int .i64 tk, .int .i64 cn, .int .i64 id, .int .i64 ad, .string (bs n), .int .i64 t, .int .i64 c, .int .i64 id, .string (bs ln), .int .i64 t, .int .i64 c, .int .i64 now] = W5 at *
         generalize w4.heap.size = g at *)
    have N2 := Lib.hid N
    clear hX4 hBx F1 F2 F3 F4 F5 T N X0 hS0
    go_wp2_with (first
      | (refine wpList_load_row rfl 75 (.tmp 5) rfl g rfl 75 #[.int .i64 tk, .int .i64 cn, .int .i64 id, .int .i64 ad, .string (bs n), .int .i64 t, .int .i64 c, .int .i64 id, .string (bs ln), .int .i64 t, .int .i64 c, .int .i64 now] (0, 0) _ N2.out.r Tryz.underlying75 rfl hIo ?_)
      | fail)
    refine (K.out _).mono ?_
    rintro e w6 ⟨rfl, b6⟩
    have N6 := N2.out.on b6
    clear N2 b6
    have h6 : w6.there g 0 7 := fun j hj => ⟨by rw [cell_of_row _ _ (0 + j) _ _ _ N6.r]; simp; omega, frozen_of_row _ _ _ _ _ N6.r⟩
    obtain ⟨W7, hW7⟩ : ∃ W7, W7 = w6.setCells g 0 [.int .i64 tk, .int .i64 cn, .int .i64 id, .int .i64 ad, .string (bs n), .int .i64 t, .int .i64 c] := ⟨_, rfl⟩
    have r7 : W7.heap[g]? = some (.cells #[.int .i64 tk, .int .i64 cn, .int .i64 id, .int .i64 ad, .string (bs n), .int .i64 t, .int .i64 c, .int .i64 id, .string (bs ln), .int .i64 t, .int .i64 c, .int .i64 now] 75 (0, 0)) := by
      rw [hW7]; simp only [World.setCells]
      exact row_set _ (row_set _ (row_set _ (row_set _ (row_set _ (row_set _ (row_set _ N6.r))))))
    have o7 : W7.heap[w.heap.size + 1]? = some (.cells oqZ 75 (0, 0)) := by
      rw [hW7]; exact ((grownBy_setCells g _ 0 w6).block _ (Array.getElem?_eq_some_iff.1 N6.o).1 (fun e => by injection e with e; have := N6.le; omega)).trans N6.o
    have b7 : Below w.heap.size w W7 := by rw [hW7]; exact N6.b.grown (grownBy_setCells g _ 0 w6) N6.b.size (fun k hk => by injection hk with hk; have := N6.le; omega)
    have RF := setRow_heap _ _ _ (#[.int .i64 tk, .int .i64 cn, .int .i64 id, .int .i64 ad, .string (bs n), .int .i64 t, .int .i64 c, .int .i64 id, .string (bs ln), .int .i64 t, .int .i64 c, .int .i64 now] : Array Value) _ _ o7
    have bF : Below w.heap.size w (W7.setRow (w.heap.size + 1) #[.int .i64 tk, .int .i64 cn, .int .i64 id, .int .i64 ad, .string (bs n), .int .i64 t, .int .i64 c, .int .i64 id, .string (bs ln), .int .i64 t, .int .i64 c, .int .i64 now]) := Below.setRow b7 (by omega) _
    have HW7 := Lib.hid hW7
    clear N6 hW7 b7
    go_wp2_with (first
      | (refine wpList_store_mid rfl 41 (.tmp 16) (.tmp 15) rfl g 0 #[.int .i64 tk, .int .i64 cn, .int .i64 id, .int .i64 ad, .string (bs n), .int .i64 t, .int .i64 c] rfl rfl h6 hIa (by simp [Value.oneCell']) ?_; rw [← HW7.out])
      | (refine wpList_load_row rfl 75 (.tmp 5) rfl g rfl 75 #[.int .i64 tk, .int .i64 cn, .int .i64 id, .int .i64 ad, .string (bs n), .int .i64 t, .int .i64 c, .int .i64 id, .string (bs ln), .int .i64 t, .int .i64 c, .int .i64 now] (0, 0) _ r7 Tryz.underlying75 rfl hIo ?_)
      | (refine wpList_store_row rfl 75 (.tmp 4) (.tmp 17) rfl (w.heap.size + 1) #[.int .i64 tk, .int .i64 cn, .int .i64 id, .int .i64 ad, .string (bs n), .int .i64 t, .int .i64 c, .int .i64 id, .string (bs ln), .int .i64 t, .int .i64 c, .int .i64 now] rfl rfl 75 _ o7 hIo rfl (by simp [Value.oneCell']) ?_)
      | fail)
    refine bodyPost_ret (v := .agg #[.int .i64 tk, .int .i64 cn, .int .i64 id, .int .i64 ad, .string (bs n), .int .i64 t, .int .i64 c, .int .i64 id, .string (bs ln), .int .i64 t, .int .i64 c, .int .i64 now]) (results_cell_row (fn := Tryz.f18) (p := 4) (ty := 75) (by kernel_rfl) _ _ (w.heap.size + 1) 75 _ (0, 0) _ rfl RF Tryz.underlying75 rfl hIo) rfl ?_
    exact ⟨rfl, bF⟩
end Go.Proofs.YtgfahkgnblkhaaaGreatDoor
