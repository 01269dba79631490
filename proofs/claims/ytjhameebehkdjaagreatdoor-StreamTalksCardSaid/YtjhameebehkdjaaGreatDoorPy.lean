/-
  Frames with their length ahead: plain bytes.
  The document's Encode of a frame; texts the same; bytes spoiled.
  The document's reader of frames.
  What is asked of the program's reader of frames: New, Feed, Left, Encode.
  The walk of PrefixWrites.
  The walk of PrefixWaits.
  The walk of PrefixBack.
  The landed reader of frames: made, missing, add, takeAll, New, Left, Encode.
  The landed Encode of a frame; a buffer's add, takeAll.
  The landed reader of frames: Feed.
-/
import Derived.Test.YtjhameebehkdjaaGreatDoorGa
import Derived.Test.YtjhameebehkdjaaGreatDoorMo
import Derived.Test.YtjhameebehkdjaaGreatDoorSl
import Derived.Test.YtjhameebehkdjaaGreatDoorEq2
import Derived.Test.YtjhameebehkdjaaGreatDoorEnN
import Derived.Deep.QuietTactic
import Derived.BigQuiet
import Derived.Test.YtjhameebehkdjaaGreatDoorHy
import Derived.Deep.CutBlock
import Derived.Deep.DeepCutAuto
import Derived.Test.YtjhameebehkdjaaGreatDoorHdB
import Derived.Test.YtjhameebehkdjaaGreatDoorQt
namespace Go.Proofs.YtjhameebehkdjaaGreatDoor
open Go.RowKit
set_option linter.unusedVariables false
set_option maxRecDepth 100000

/-- The first frame of bytes, and what stands behind it. -/
def fr : Bs → Option (Bs × Bs)
  | h :: l :: t => if t.length < h.toNat * 256 + l.toNat then none else some (t.take (h.toNat * 256 + l.toNat), t.drop (h.toNat * 256 + l.toNat))
  | _ => none
def frF : Nat → Bs → List Bs × Bs
  | 0, x => ([], x)
  | f + 1, x => match fr x with
    | none => ([], x)
    | some (a, r) => (a :: (frF f r).1, (frF f r).2)
/-- The whole frames of bytes, and what is left. -/
def feedP (x : Bs) : List Bs × Bs := frF x.length x
theorem fr_len {x a r : Bs} (h : fr x = some (a, r)) : r.length < x.length := by
  match x, h with
  | h0 :: l0 :: t, h =>
    simp only [fr] at h
    split at h
    · cases h
    · injection h with h
      injection h with h1 h2
      rw [← h2]
      simp
      omega
theorem frF_fuel : ∀ (f g : Nat) (x : Bs), x.length ≤ f → x.length ≤ g → frF f x = frF g x
  | 0, 0, _, _, _ => rfl
  | 0, g + 1, x, h, _ => by
    have : x = [] := List.length_eq_zero_iff.1 (by omega)
    subst this
    rfl
  | f + 1, 0, x, _, h => by
    have : x = [] := List.length_eq_zero_iff.1 (by omega)
    subst this
    rfl
  | f + 1, g + 1, x, hf, hg => by
    unfold frF
    cases h : fr x with
    | none => rfl
    | some p =>
      obtain ⟨a, r⟩ := p
      have hl := fr_len h
      simp only
      rw [frF_fuel f g r (by omega) (by omega)]
theorem feed_none {x : Bs} (h : fr x = none) : feedP x = ([], x) := by
  unfold feedP
  cases hx : x.length with
  | zero => rfl
  | succ n => simp only [frF, h]
theorem feed_some {x a r : Bs} (h : fr x = some (a, r)) : feedP x = (a :: (feedP r).1, (feedP r).2) := by
  have hl := fr_len h
  unfold feedP
  cases hx : x.length with
  | zero => omega
  | succ n =>
    simp only [frF, h]
    rw [frF_fuel n r.length r (by omega) (Nat.le_refl _)]
theorem fr_none_iff {x : Bs} (h2 : 2 ≤ x.length) : ∃ h l t, x = h :: l :: t := by
  match x, h2 with
  | h :: l :: t, _ => exact ⟨h, l, t, rfl⟩
theorem fr_short {x : Bs} (h : x.length < 2) : fr x = none := by
  match x, h with
  | [], _ => rfl
  | [_], _ => rfl
theorem fr_app {x a r : Bs} (y : Bs) (h : fr x = some (a, r)) : fr (x ++ y) = some (a, r ++ y) := by
  match x, h with
  | h0 :: l0 :: t, h =>
    simp only [fr] at h
    split at h
    · cases h
    · rename_i hn
      injection h with h
      injection h with h1 h2
      subst h1 h2
      simp only [List.cons_append, fr]
      rw [if_neg (by simp; omega), List.take_append_of_le_length (by omega), List.drop_append_of_le_length (by omega)]
/-- How bytes are cut plays no part. -/
theorem feed_app : ∀ (n : Nat) (x y : Bs), x.length ≤ n → feedP (x ++ y) = ((feedP x).1 ++ (feedP ((feedP x).2 ++ y)).1, (feedP ((feedP x).2 ++ y)).2)
  | n, x, y, hn => by
    cases h : fr x with
    | none => rw [feed_none h]; simp
    | some p =>
      obtain ⟨a, r⟩ := p
      have hl := fr_len h
      rw [feed_some h, feed_some (fr_app y h)]
      match n, hn with
      | 0, hn => omega
      | n + 1, hn =>
        rw [feed_app n r y (by omega)]
        simp
theorem feed_cut (x y : Bs) : feedP (x ++ y) = ((feedP x).1 ++ (feedP ((feedP x).2 ++ y)).1, (feedP ((feedP x).2 ++ y)).2) := feed_app _ x y (Nat.le_refl _)
def encP (b : Bs) : Bs := UInt8.ofNat (b.length / 256) :: UInt8.ofNat (b.length % 256) :: b
theorem fr_enc {b : Bs} (h : b.length ≤ 65535) (t : Bs) : fr (encP b ++ t) = some (b, t) := by
  have h1 : (UInt8.ofNat (b.length / 256)).toNat = b.length / 256 := by simp; omega
  have h2 : (UInt8.ofNat (b.length % 256)).toNat = b.length % 256 := by simp
  simp only [encP, List.cons_append, fr, h1, h2]
  rw [show b.length / 256 * 256 + b.length % 256 = b.length by omega]
  rw [if_neg (by simp)]
  simp
theorem feed_encs : ∀ (L : List Bs), (∀ b ∈ L, b.length ≤ 65535) → ∀ t, feedP ((L.map encP).flatten ++ t) = (L ++ (feedP t).1, (feedP t).2)
  | [], _, t => by simp
  | b :: L, h, t => by
    have e : ((b :: L).map encP).flatten ++ t = encP b ++ ((L.map encP).flatten ++ t) := by simp
    rw [e, feed_some (fr_enc (h b (by simp)) _), feed_encs L (fun x hx => h x (by simp [hx])) t]
    simp
theorem fr_begin {b : Bs} (h : b.length ≤ 65535) {n : Nat} (hn : n < (encP b).length) : fr ((encP b).take n) = none := by
  have h1 : (UInt8.ofNat (b.length / 256)).toNat = b.length / 256 := by simp; omega
  have h2 : (UInt8.ofNat (b.length % 256)).toNat = b.length % 256 := by simp
  match n, hn with
  | 0, _ => rfl
  | 1, _ => rfl
  | n + 2, hn =>
    simp only [encP, List.length_cons] at hn
    simp only [encP, List.take_succ_cons, fr, h1, h2]
    rw [if_pos (by simp; omega)]
end Go.Proofs.YtjhameebehkdjaaGreatDoor
namespace Go.Proofs.YtjhameebehkdjaaGreatDoor
open Go.RowKit
set_option linter.unusedVariables false
set_option maxRecDepth 100000

/-- What Encode answers. -/
def EncF (w : World) (b : Bs) (e : Ending) (w' : World) : Prop := Below w.heap.size w w' ∧ ((65535 < b.length ∧ e = .returned (.tuple #[.slice none 0 0, .int .i64 1])) ∨ (b.length ≤ 65535 ∧ ∃ v, e = .returned (.tuple #[v, .int .i64 0]) ∧ OwnB w' w.heap.size v (encP b)))
end Go.Proofs.YtjhameebehkdjaaGreatDoor
namespace Go.Proofs.YtjhameebehkdjaaGreatDoor
open Go.RowKit
set_option linter.unusedVariables false
set_option maxRecDepth 100000

theorem fr_eq (h l : UInt8) (t : Bs) : fr (h :: l :: t) = if t.length < h.toNat * 256 + l.toNat then none else some (t.take (h.toNat * 256 + l.toNat), t.drop (h.toNat * 256 + l.toNat)) := rfl
/-- How many bytes wait. -/
def lenAt (w : World) (g : Nat) : Nat := match w.cell? ⟨g, 0, none⟩ with | some (.slice _ n _) => n | _ => 0
theorem lenAt_of {w : World} {g n : Nat} {A : Option Addr} {c : Nat} (h : w.cell? ⟨g, 0, none⟩ = some (.slice A n c)) : lenAt w g = n := by unfold lenAt; rw [h]
end Go.Proofs.YtjhameebehkdjaaGreatDoor
namespace Go.Proofs.YtjhameebehkdjaaGreatDoor
open Go.RowKit
set_option linter.unusedVariables false
set_option maxRecDepth 100000

abbrev RdrP := World → (Nat → Prop) → Value → Bs → Prop
def NewP (PR : RdrP) (w : World) (e : Ending) (w' : World) : Prop := ∃ p F, e = .returned p ∧ PR w' F p [] ∧ Below w.heap.size w w' ∧ ∀ k, F k → w.heap.size ≤ k
def FeedP (PR : RdrP) (w : World) (F : Nat → Prop) (p : Value) (x b : Bs) (e : Ending) (w' : World) : Prop := ∃ v F', e = .returned v ∧ TxS w' (fun k => F' k ∨ (k < w.heap.size ∧ ¬ F k)) v (feedP (x ++ b)).1 ∧ PR w' F' p (feedP (x ++ b)).2 ∧ Mod F w w' ∧ ∀ k, F' k → F k ∨ w.heap.size ≤ k
structure PfI (PR : RdrP) : Prop where
  mod : ∀ {S F : Nat → Prop} {w w1 : World} {p : Value} {x : Bs}, PR w F p x → Mod S w w1 → (∀ i, F i → ¬ S i) → PR w1 F p x
  lt : ∀ {F : Nat → Prop} {w : World} {p : Value} {x : Bs}, PR w F p x → ∀ k, F k → k < w.heap.size
  new : ∀ w : World, Calls Tryz.prog 10 #[] w (NewP PR w)
  feed : ∀ {F : Nat → Prop} {p : Value} {x b : Bs} {A : Option Addr} {c : Nat} {w : World}, PR w F p x → Sl w A c b → Off F A → x.length + b.length ≤ 4398046511104 → Calls Tryz.prog 11 #[p, .slice A b.length c] w (FeedP PR w F p x b)
  enc : ∀ (A : Option Addr) (b : Bs) (c : Nat) (w : World), Sl w A c b → Calls Tryz.prog 5 #[.slice A b.length c] w (EncF w b)
theorem PfI.on {PR : RdrP} (I : PfI PR) {F : Nat → Prop} {w w1 : World} {p : Value} {x : Bs} (h : PR w F p x) (k : Below w.heap.size w w1) : PR w1 F p x := I.mod (S := fun _ => False) h (Mod.below k) (fun _ _ e => e)
end Go.Proofs.YtjhameebehkdjaaGreatDoor
namespace Go.Proofs.YtjhameebehkdjaaGreatDoor
open Go.RowKit
set_option linter.unusedVariables false
set_option maxRecDepth 100000

def encO (b : Bs) : Bs := if 65535 < b.length then [] else encP b
def codeF (b : Bs) : Int := if 65535 < b.length then 1 else 0
theorem EncF.out {w : World} {b : Bs} {e : Ending} {w' : World} (h : EncF w b e w') : ∃ A c, e = .returned (.tuple #[.slice A (encO b).length c, .int .i64 (codeF b)]) ∧ Sl w' A c (encO b) ∧ Below w.heap.size w w' := by
  obtain ⟨hB, ⟨hl, rfl⟩ | ⟨hl, v, rfl, ho⟩⟩ := h
  · exact ⟨none, 0, by simp [encO, codeF, hl], by simp only [encO, hl, if_true]; exact Sl.none _, hB⟩
  · have hn : ¬ 65535 < b.length := by omega
    obtain ⟨A, c, rfl, hs⟩ := ho.bysN
    exact ⟨A, c, by simp [encO, codeF, hn], by simp only [encO, hn, if_false]; exact hs, hB⟩

end Go.Proofs.YtjhameebehkdjaaGreatDoor
namespace Go.Proofs.YtjhameebehkdjaaGreatDoor
open Go.RowKit
set_option linter.unusedVariables false
set_option maxRecDepth 100000

theorem feed_waits {b : Bs} (h : b.length ≤ 65535) {n : Nat} (hn : n < (encP b).length) : feedP ((encP b).take n) = ([], (encP b).take n) ∧ feedP ((encP b).take n ++ (encP b).drop n) = ([b], []) := by
  refine ⟨feed_none (fr_begin h hn), ?_⟩
  rw [List.take_append_drop]
  have := feed_encs [b] (by simpa using h) []
  simpa [feed_none (show fr [] = none from rfl)] using this
theorem encP_len (b : Bs) : (encP b).length = b.length + 2 := by simp [encP]

end Go.Proofs.YtjhameebehkdjaaGreatDoor
namespace Go.Proofs.YtjhameebehkdjaaGreatDoor
open Go.RowKit
set_option linter.unusedVariables false
set_option maxRecDepth 100000

/-- The first k texts, each cut. -/
def cutT (L : List Bs) (k : Nat) : List Bs := (L.take k).map (·.take 300)
def encs (W : List Bs) : Bs := (W.map encP).flatten
theorem cutT_len (L : List Bs) (k : Nat) (h : k ≤ L.length) : (cutT L k).length = k := by simp [cutT]; omega
theorem cutT_snoc (L : List Bs) (k : Nat) (h : k < L.length) : cutT L (k + 1) = cutT L k ++ [L[k].take 300] := by
  unfold cutT
  rw [List.take_succ_eq_append_getElem h, List.map_append]
  rfl
theorem encs_snoc (W : List Bs) (y : Bs) : encs (W ++ [y]) = encs W ++ encP y := by simp [encs]
theorem cutT_all (L : List Bs) (k : Nat) (h : L.length ≤ k) : cutT L k = cutT L L.length := by unfold cutT; rw [List.take_of_length_le h, List.take_length]
theorem encs_len : ∀ (W : List Bs), (∀ y ∈ W, y.length ≤ 300) → (encs W).length ≤ W.length * 302
  | [], _ => by simp [encs]
  | y :: W, h => by
    have := encs_len W (fun z hz => h z (by simp [hz]))
    have h0 := h y (by simp)
    have e : encs (y :: W) = encP y ++ encs W := by simp [encs]
    rw [e, List.length_append, encP_len, List.length_cons, Nat.add_mul]
    omega
theorem cutT_le (L : List Bs) (k : Nat) : ∀ y ∈ cutT L k, y.length ≤ 300 := fun y hy => by
  obtain ⟨z, _, rfl⟩ := List.mem_map.1 hy
  rw [List.length_take]
  omega
theorem feed_W (W : List Bs) (h : ∀ y ∈ W, y.length ≤ 300) : feedP (encs W) = (W, []) := by
  have := feed_encs W (fun b hb => by have := h b hb; omega) []
  simpa [encs, feed_none (show fr [] = none from rfl)] using this
/-- One more feed. -/
theorem feed_step {G W : List Bs} {st x : Bs} (N : Nat) (h1 : G ++ (feedP (st ++ x)).1 = W) (h2 : (feedP (st ++ x)).2 = []) : G ++ (feedP (st ++ x.take N)).1 ++ (feedP ((feedP (st ++ x.take N)).2 ++ x.drop N)).1 = W ∧ (feedP ((feedP (st ++ x.take N)).2 ++ x.drop N)).2 = [] := by
  have e : st ++ x = (st ++ x.take N) ++ x.drop N := by rw [List.append_assoc, List.take_append_drop]
  rw [e, feed_cut] at h1 h2
  exact ⟨by rw [List.append_assoc]; exact h1, h2⟩
theorem frF_len : ∀ (f : Nat) (x : Bs), (frF f x).2.length ≤ x.length
  | 0, x => Nat.le_refl _
  | f + 1, x => by
    unfold frF
    cases h : fr x with
    | none => exact Nat.le_refl _
    | some p =>
      obtain ⟨a, r⟩ := p
      have := fr_len h
      have := frF_len f r
      simp only
      omega
theorem feed_len (x : Bs) : (feedP x).2.length ≤ x.length := frF_len _ _
/-- Behind the first loop: all bytes, and the texts that are wanted. -/
def Gath (w : World) (W : List Bs) (s5 s6 : Value) (wx : World) : Prop := ∃ xs, OwnB wx w.heap.size s5 (encs W) ∧ wx.ownsRow w.heap.size 29 1 s6 W.length xs ∧ RowsA w xs W ∧ (s5.ownBlock = none ∨ s5.ownBlock ≠ s6.ownBlock) ∧ Below w.heap.size w wx

end Go.Proofs.YtjhameebehkdjaaGreatDoor
namespace Go.Proofs.YtjhameebehkdjaaGreatDoor
open Go.RowKit
set_option linter.unusedVariables false
set_option maxRecDepth 100000

/-- The reader at block g. -/
def PL (w : World) (g : Nat) (v : Value) (x : Bs) : Prop := w.heap[g]? = some (.cells #[v, .bool true] 63 (0, 0)) ∧ OwnB w 0 v x ∧ v.ownBlock ≠ some g
def FL (g : Nat) (v : Value) : Nat → Prop := fun k => k = g ∨ v.ownBlock = some k
theorem PL.below {w w1 : World} {g : Nat} {v : Value} {x : Bs} (h : PL w g v x) (k : Below w.heap.size w w1) : PL w1 g v x := ⟨(k.block g (Array.getElem?_eq_some_iff.1 h.1).1).trans h.1, h.2.1.below k (Nat.le_refl _), h.2.2⟩
/-- How many bytes the frame that waits lacks. -/
def missP (x : Bs) : Nat := match x with
  | h :: l :: t => 2 + (h.toNat * 256 + l.toNat) - x.length
  | _ => 2 - x.length

set_option maxHeartbeats 400000 in
theorem made_any (g : Nat) (v : Value) (x : Bs) (w : World) (h : PL w g v x) : Calls Tryz.prog 19 #[.pointer (some ⟨g, 0, none⟩)] w fun e w' => e = .returned (.bool true) ∧ Below w.heap.size w w' := by
  have c1 := (cell_of_row _ g 1 _ _ _ h.1).trans rfl
  clear h
  go_enter Tryz.func19, Tryz.ntmps19
  go_wp2_with fail
  go_ret
  exact ⟨rfl, Below.refl _ _⟩
set_option maxHeartbeats 400000 in
theorem new_any (w : World) : Calls Tryz.prog 10 #[] w fun e w' => ∃ g, e = .returned (.pointer (some ⟨g, 0, none⟩)) ∧ PL w' g (.slice none 0 0) [] ∧ Below w.heap.size w w' ∧ w.heap.size ≤ g := by
  have b : Below w.heap.size w (w.alloc (.cells #[.slice none 0 0, .bool true] 63)) := Below.alloc (Below.refl _ _) (Nat.le_refl _) _
  have r : (w.alloc (.cells #[.slice none 0 0, .bool true] 63)).heap[w.heap.size]? = some (.cells #[.slice none 0 0, .bool true] 63 (0, 0)) := row_new _ rfl
  go_enter Tryz.func10, Tryz.ntmps10
  go_wp2_with fail
  go_ret
  exact ⟨_, rfl, ⟨r, .inl ⟨rfl, rfl⟩, by simp [Value.ownBlock]⟩, b, Nat.le_refl _⟩
set_option maxHeartbeats 1000000 in
theorem missing_any (g : Nat) (v : Value) (x : Bs) (w : World) (h : PL w g v x) (hx : x.length ≤ 65537) (hm : 2 ≤ x.length → x.length ≤ 2 + ((x.getD 0 0).toNat * 256 + (x.getD 1 0).toNat)) : Calls Tryz.prog 20 #[.pointer (some ⟨g, 0, none⟩)] w fun e w' => e = .returned (.int .i64 (missP x)) ∧ Below w.heap.size w w' := by
  have c0' := (cell_of_row _ g 0 _ _ _ h.1).trans rfl
  obtain ⟨A, c, rfl, s⟩ := h.2.1.bysN
  obtain ⟨n, hn⟩ : ∃ n, n = x.length := ⟨_, rfl⟩
  have c0 : w.cell? ⟨g, 0, none⟩ = some (.slice A n c) := by rw [hn]; exact c0'
  by_cases h2 : n < 2
  · have h2' : (n : Int) < 2 := by omega
    have hp : (missP x : Int) = 2 - (n : Int) := by
      match x, hn with
      | [], hn => simp [missP]; simp at hn; omega
      | [_], hn => simp [missP]; simp at hn; omega
      | _ :: _ :: _, hn => simp at hn; omega
    have w1 : IntKind.i64.wrap (2 - (n : Int)) = 2 - (n : Int) := IntWalk.i64_in _ (by omega)
    rw [hp]
    clear hp h2 hn h s c0' hm hx
    go_enter Tryz.func20, Tryz.ntmps20
    go_wp2_with fail
    go_ret
    exact ⟨rfl, Below.refl _ _⟩
  · have h2' : ¬ (n : Int) < 2 := by omega
    obtain ⟨a, l, t, rfl⟩ := fr_none_iff (x := x) (by omega)
    have hm2 := hm (by omega)
    simp only [List.getD_cons_zero, List.getD_cons_succ] at hm2
    obtain ⟨gb, rfl, y0, y1⟩ : ∃ gb, A = some ⟨gb, 0, none⟩ ∧ w.cell? ⟨gb, 0, none⟩ = some (.int .u8 a.toNat) ∧ w.cell? ⟨gb, 1, none⟩ = some (.int .u8 l.toNat) := by
      rcases h.2.1 with ⟨_, hn⟩ | ⟨bk, cap, hv, hbk, hblt, hcap, hcm, hcs, hsp⟩
      · cases hn
      injection hv with e1 e2 e3
      exact ⟨bk, e1, hcs 0 (by simp), hcs 1 (by simp)⟩
    have ha := a.toNat_lt
    have hl := l.toNat_lt
    have hp : (missP (a :: l :: t) : Int) = 2 + ((a.toNat : Int) * 256 + l.toNat) - n := by simp only [missP]; omega
    rw [hp]
    generalize a.toNat = an at *
    generalize l.toNat = ln at *
    have wrA : IntKind.i64.wrap (an : Int) = an := IntWalk.i64_in _ (by omega)
    have wrB : IntKind.i64.wrap (ln : Int) = ln := IntWalk.i64_in _ (by omega)
    have wrC : IntKind.i64.wrap ((an : Int) * 256) = (an : Int) * 256 := IntWalk.i64_in _ (by omega)
    obtain ⟨N, hN⟩ : ∃ N, N = an * 256 + ln := ⟨_, rfl⟩
    have or1 : bits .or .i64 ((an : Int) * 256) (ln : Int) = (N : Int) := by rw [or256 _ _ (by omega) (by omega)]; omega
    have hN2 : (2 : Int) + ((an : Int) * 256 + (ln : Int)) - (n : Int) = 2 + (N : Int) - n := by omega
    have hN3 : N < 65536 := by omega
    have wrD : IntKind.i64.wrap (2 + (N : Int)) = 2 + (N : Int) := IntWalk.i64_in _ (by omega)
    have wrE : IntKind.i64.wrap (2 + (N : Int) - (n : Int)) = 2 + (N : Int) - (n : Int) := IntWalk.i64_in _ (by omega)
    have j0 : (0 : Int) < (n : Int) := by omega
    have j1 : (1 : Int) < (n : Int) := by omega
    rw [hN2]
    have cq : ∀ q, (w.drewN q).cell? ⟨g, 0, none⟩ = some (.slice (some ⟨gb, 0, none⟩) n c) := fun q => c0
    clear hp h2 hn h s c0' hm hx hN2 hN hm2 ha hl
    go_enter Tryz.func20, Tryz.ntmps20
    go_wp2_with fail
    go_quiet (fail)
    have k := below_drewN (Below.refl w.heap.size w) nq
    have c0q := cq nq
    clear cq c0
    go_wp2_with fail
    go_ret
    exact ⟨rfl, k⟩
end Go.Proofs.YtjhameebehkdjaaGreatDoor
namespace Go.Proofs.YtjhameebehkdjaaGreatDoor
open Go.RowKit
set_option linter.unusedVariables false
set_option maxRecDepth 100000

set_option maxHeartbeats 1000000 in
theorem encL_any (A : Option Addr) (b : Bs) (c : Nat) (w : World) (hb : Sl w A c b) : Calls Tryz.prog 5 #[.slice A b.length c] w (EncF w b) := by
  have HD : Hid (∀ e w', EncF w b e w' ↔ (Below w.heap.size w w' ∧ ((65535 < b.length ∧ e = .returned (.tuple #[.slice none 0 0, .int .i64 1])) ∨ (b.length ≤ 65535 ∧ ∃ v, e = .returned (.tuple #[v, .int .i64 0]) ∧ OwnB w' w.heap.size v (encP b))))) := Lib.hid (fun _ _ => Iff.rfl)
  obtain ⟨n, hn⟩ : ∃ n, n = b.length := ⟨_, rfl⟩
  by_cases hl : 65535 < b.length
  · have HF := Lib.hid ((HD.out (.returned (.tuple #[.slice none 0 0, .int .i64 1])) w).2 ⟨Below.refl _ _, .inl ⟨hl, rfl⟩⟩)
    rw [← hn]
    rw [← hn] at hl
    have hl' : (65535 : Int) < (n : Int) := by omega
    generalize EncF w b = Q at *
    clear hn hb HD hl
    go_enter Tryz.func5, Tryz.ntmps5
    go_wp2_with fail
    exact HF.out
  · have hl' : ¬ (65535 : Int) < (n : Int) := by omega
    have hn0 : (0 : Int) ≤ (n : Int) := by omega
    have hn1 : (n : Int) ≤ 65535 := by omega
    have HN := Lib.hid hn
    have HL := Lib.hid hl
    obtain ⟨m, hm⟩ : ∃ m, m = n + 2 := ⟨_, rfl⟩
    have wr0 : IntKind.i64.wrap (2 + (n : Int)) = (m : Int) := by rw [IntWalk.i64_in _ (by omega)]; omega
    have wr1 : IntKind.u8.wrap ((n : Int) / 256) = (n : Int) / 256 := IntWalk.u8_in _ (by omega)
    have wr2 : IntKind.u8.wrap (n : Int) = (n : Int) % 256 := by simp [IntKind.wrap, IntKind.bits, IntKind.signed]
    obtain ⟨i0, hi, hz0, hz1, hz2⟩ := info_parts info_u8
    obtain ⟨M, hM⟩ : ∃ M, M = madeCells (Value.int .u8 0).cells (((m : Nat) : Int).toNat * i0.size) := ⟨_, rfl⟩
    have hMs : M.size = m * 1 := by rw [hM, size_madeCells, hz1]; simp
    have hmk : ∀ W : World, (Instr.makeSlice 29 (.int .i64 0) (.int .i64 (m : Int))).run Tryz.prog W = .ok (.slice (some ⟨W.heap.size, 0, none⟩) 0 m) (W.alloc (.cells M 5)) := fun W => by
      have h := run_make (P := Tryz.prog) W 29 5 i0 (.int .u8 0) Tryz.underlying29 hi hz0 .i64 .i64 0 (m : Int) (by omega) (by omega) (by rw [hz2]; omega) (by omega)
      rw [← hM] at h
      simpa using h
    have o0 : OwnB (w.alloc (.cells M 5)) w.heap.size (.slice (some ⟨w.heap.size, 0, none⟩) 0 m) [] := OwnB.of (l := []) (World.ownsRow_made w M m (Nat.le_refl _) (by unfold maxLen; omega) hMs) rfl
    have b0 : Below w.heap.size w (w.alloc (.cells M 5)) := Below.alloc (Below.refl _ _) (Nat.le_refl _) _
    have HH : Hid (#[Value.int .u8 ((n : Int) / 256), .int .u8 ((n : Int) % 256)] = (([UInt8.ofNat (n / 256), UInt8.ofNat (n % 256)] : Bs).map byteV).toArray) := Lib.hid (by simp [byteV]; omega)
    have b1 := Below.alloc (o := .cells #[Value.int .u8 ((n : Int) / 256), .int .u8 ((n : Int) % 256)] 5) b0 (by simp)
    have O1 := Lib.hid (o0.alloc (.cells #[Value.int .u8 ((n : Int) / 256), .int .u8 ((n : Int) % 256)] 5))
    have S1 : Hid (Sl ((w.alloc (.cells M 5)).alloc (.cells #[Value.int .u8 ((n : Int) / 256), .int .u8 ((n : Int) % 256)] 5)) (some ⟨w.heap.size + 1, 0, none⟩) 2 [UInt8.ofNat (n / 256), UInt8.ofNat (n % 256)]) := Lib.hid (by
      have := Sl.made (w := w.alloc (.cells M 5)) (t := 5) (l := [UInt8.ofNat (n / 256), UInt8.ofNat (n % 256)]) HH.out (by simp)
      simpa using this)
    have B1 := Lib.hid b1
    have HB := Lib.hid hb
    have E : Hid (encP b = [UInt8.ofNat (n / 256), UInt8.ofNat (n % 256)] ++ b) := Lib.hid (by rw [encP, hn]; rfl)
    rw [← hn]
    generalize EncF w b = Q at *
    clear hb hn hl hM hMs hm o0 b0 b1 HH
    go_enter Tryz.func5, Tryz.ntmps5
    go_wp2_with (first
      | (at_builtin; refine wpList_append_bys rfl (.tmp 12) (.tmp 20) rfl w.heap.size _ [] rfl O1.out _ 2 2 [UInt8.ofNat (n / 256), UInt8.ofNat (n % 256)] rfl rfl S1.out.bys (fun h => by cases h) (by simp) (by simp; omega) ?_)
      | fail)
    intro v1 w1 o1 g1 _
    have b2 : Below w.heap.size w w1 := B1.out.grown g1 (by simp; omega) (fun k hk => by simp [Value.ownBlock] at hk; omega)
    have sz : w.heap.size ≤ w1.heap.size := b2.size
    obtain ⟨A1, c1, rfl, -⟩ := o1.bysN
    have O2 := Lib.hid o1
    have B2 := Lib.hid b2
    have HB2 := Lib.hid (HB.out.on b2)
    have HX : Hid (([UInt8.ofNat (n / 256), UInt8.ofNat (n % 256)] : Bs).length + b.length ≤ 140737488355328) := Lib.hid (by rw [← HN.out]; simp; omega)
    clear o1 g1 b2 S1 O1 HB B1
    go_wp2_with (first
      | (at_builtin; refine wpList_append_bys rfl (.tmp 22) (.tmp 23) rfl w.heap.size _ [UInt8.ofNat (n / 256), UInt8.ofNat (n % 256)] rfl O2.out A c n b rfl HN.out HB2.out.bys HB2.out.nil HX.out sz ?_)
      | fail)
    intro v2 w2 o2 g2 _
    have b3 : Below w.heap.size w w2 := B2.out.grown g2 sz (fun k hk => (O2.out.lt k hk).1)
    have HF := Lib.hid ((HD.out (.returned (.tuple #[v2, .int .i64 0])) w2).2 ⟨b3, .inr ⟨by have := HL.out; omega, v2, rfl, by rw [E.out]; exact o2⟩⟩)
    clear o2 g2 b3
    go_wp2_with fail
    exact HF.out

/-- What add leaves. -/
def AddP (w : World) (g : Nat) (v : Value) (x : Bs) (e : Ending) (w' : World) : Prop := ∃ v', e = .returned (.tuple #[]) ∧ PL w' g v' x ∧ Mod (FL g v) w w' ∧ ∀ k, v'.ownBlock = some k → v.ownBlock = some k ∨ w.heap.size ≤ k
set_option maxHeartbeats 1000000 in
theorem add_any (g : Nat) (v : Value) (x d : Bs) (A : Option Addr) (c : Nat) (w : World) (h : PL w g v x) (hd : Sl w A c d) (hl : x.length + d.length ≤ 140737488355328) : Calls Tryz.prog 21 #[.pointer (some ⟨g, 0, none⟩), .slice A d.length c] w (AddP w g v (x ++ d)) := by
  obtain ⟨y, hy⟩ : ∃ y, y = x ++ d := ⟨_, rfl⟩
  rw [← hy]
  have HY := Lib.hid hy
  have HD : Hid (∀ e w', AddP w g v y e w' ↔ ∃ v', e = .returned (.tuple #[]) ∧ PL w' g v' y ∧ Mod (FL g v) w w' ∧ ∀ k, v'.ownBlock = some k → v.ownBlock = some k ∨ w.heap.size ≤ k) := Lib.hid (fun _ _ => Iff.rfl)
  generalize AddP w g v y = Q at *
  have c0 := (cell_of_row _ g 0 _ _ _ h.1).trans rfl
  obtain ⟨n, hn⟩ : ∃ n, n = d.length := ⟨_, rfl⟩
  rw [← hn]
  have HN := Lib.hid hn
  have H := Lib.hid h
  have HDD := Lib.hid hd
  have HL := Lib.hid hl
  have hv : ∃ A c, v = .slice A x.length c := by obtain ⟨A, c, h, -⟩ := h.2.1.bysN; exact ⟨A, c, h⟩
  obtain ⟨A0, k0, rfl⟩ := hv
  obtain ⟨m, hm⟩ : ∃ m, m = x.length := ⟨_, rfl⟩
  rw [← hm] at c0 H HD
  have HX : Hid (x.length + d.length ≤ 140737488355328) := Lib.hid hl
  clear h hd hn hl HL hm hy
  go_enter Tryz.func21, Tryz.ntmps21
  go_wp2_with (first
    | (at_builtin; refine wpList_append_bys rfl (.tmp 8) (.tmp 9) rfl 0 _ x rfl H.out.2.1 A c n d rfl HN.out HDD.out.bys HDD.out.nil HX.out (Nat.zero_le _) ?_)
    | fail)
  intro v1 w1 o1 g1 f1
  rw [← HY.out] at o1
  have glt := (Array.getElem?_eq_some_iff.1 H.out.1).1
  have r1 := (g1.block g glt (fun e => H.out.2.2 e.symm)).trans H.out.1
  have there : w1.cell? ⟨g, 0, none⟩ = some (.slice A0 m k0) := (cell_of_row _ g 0 _ _ _ r1).trans rfl
  have fz : w1.frozen? ⟨g, 0, none⟩ = false := frozen_of_row _ _ 0 _ _ r1
  have r2 := row_set (w := w1) (g := g) (i := 0) v1 r1
  have gs : w1.grownBy (w1.setCell ⟨g, 0, none⟩ v1) (some g) := by
    have := grownBy_setCells g [v1] 0 w1
    simpa [World.setCells] using this
  have hv1 : v1.ownBlock ≠ some g := fun e => by
    rcases f1 g e with h | h
    · exact H.out.2.2 h
    · omega
  have hM : Mod (FL g (.slice A0 m k0)) w (w1.setCell ⟨g, 0, none⟩ v1) := (Mod.grown (S := FL g (.slice A0 m k0)) g1 (fun k hk => .inr hk)).trans (Mod.grown (S := FL g (.slice A0 m k0)) gs (fun k hk => by injection hk with hk; exact .inl hk.symm)) (fun i hi => .inl hi)
  have HF := Lib.hid ((HD.out (.returned (.tuple #[])) (w1.setCell ⟨g, 0, none⟩ v1)).2 ⟨v1, rfl, ⟨r2, o1.kept gs (by cases hv : v1.ownBlock with | none => exact .inl rfl | some k => exact .inr (fun e => hv1 (hv.trans e))), hv1⟩, hM, f1⟩)
  obtain ⟨A1, k1, rfl, -⟩ := o1.bysN
  clear o1 g1 f1 r1 r2 gs hv1 hM H HD HDD HX
  go_wp2_with fail
  go_end0
  exact HF.out
set_option maxHeartbeats 1000000 in
theorem takeAll_any (g : Nat) (v : Value) (x : Bs) (w : World) (h : PL w g v x) : Calls Tryz.prog 22 #[.pointer (some ⟨g, 0, none⟩)] w fun e w' => e = .returned v ∧ PL w' g (.slice none 0 0) [] ∧ w.grownBy w' (some g) := by
  have c0 := (cell_of_row _ g 0 _ _ _ h.1).trans rfl
  have fz : w.frozen? ⟨g, 0, none⟩ = false := frozen_of_row _ _ 0 _ _ h.1
  have r2 := row_set (w := w) (g := g) (i := 0) (.slice none 0 0) h.1
  have gs : w.grownBy (w.setCell ⟨g, 0, none⟩ (.slice none 0 0)) (some g) := by
    have := grownBy_setCells g [.slice none 0 0] 0 w
    simpa [World.setCells] using this
  obtain ⟨A, c, rfl, -⟩ := h.2.1.bysN
  have HF : Hid (PL (w.setCell ⟨g, 0, none⟩ (.slice none 0 0)) g (.slice none 0 0) [] ∧ w.grownBy (w.setCell ⟨g, 0, none⟩ (.slice none 0 0)) (some g)) := Lib.hid ⟨⟨r2, .inl ⟨rfl, rfl⟩, by simp [Value.ownBlock]⟩, gs⟩
  generalize x.length = m at *
  clear h r2 gs
  go_enter Tryz.func22, Tryz.ntmps22
  go_wp2_with fail
  go_ret
  exact ⟨rfl, HF.out⟩
end Go.Proofs.YtjhameebehkdjaaGreatDoor
namespace Go.Proofs.YtjhameebehkdjaaGreatDoor
open Go.RowKit
set_option linter.unusedVariables false
set_option maxRecDepth 100000

/-- A slice's length. -/
def lenN (v : Value) : Nat := match v with | .slice _ n _ => n | _ => 0
theorem missP_two (a l : UInt8) (t : Bs) : missP (a :: l :: t) = 2 + (a.toNat * 256 + l.toNat) - (t.length + 2) := rfl
/-- Bytes more, as many as are missing at most. -/
theorem miss_step {y d : Bs} (h : fr y = none) (hd : d.length ≤ missP y) : (y ++ d).length ≤ 65537 ∧ (2 ≤ (y ++ d).length → (y ++ d).length ≤ 2 + (((y ++ d).getD 0 0).toNat * 256 + ((y ++ d).getD 1 0).toNat)) ∧ (missP (y ++ d) = 0 → fr (y ++ d) = some ((y ++ d).drop 2, []) ∧ 2 ≤ (y ++ d).length) ∧ (missP (y ++ d) ≠ 0 → fr (y ++ d) = none) := by
  have key : ∀ (a l : UInt8) (t : Bs), t.length ≤ a.toNat * 256 + l.toNat → (a :: l :: t).length ≤ 65537 ∧ (2 ≤ (a :: l :: t).length → (a :: l :: t).length ≤ 2 + (((a :: l :: t).getD 0 0).toNat * 256 + ((a :: l :: t).getD 1 0).toNat)) ∧ (missP (a :: l :: t) = 0 → fr (a :: l :: t) = some ((a :: l :: t).drop 2, []) ∧ 2 ≤ (a :: l :: t).length) ∧ (missP (a :: l :: t) ≠ 0 → fr (a :: l :: t) = none) := by
    intro a l t ht
    have ha := a.toNat_lt
    have hl := l.toNat_lt
    rw [missP_two, fr_eq]
    refine ⟨by simp; omega, fun _ => by simp; omega, fun h0 => ⟨?_, by simp⟩, fun h0 => by rw [if_pos (by omega)]⟩
    rw [if_neg (by omega), List.take_of_length_le (by omega), List.drop_eq_nil_of_le (by omega)]
    rfl
  match y, h, hd with
  | [], _, hd =>
    simp only [missP, List.length_nil] at hd
    match d, hd with
    | [], _ => refine ⟨by simp, by simp, by simp [missP], fun _ => rfl⟩
    | [a], _ => refine ⟨by simp, by simp, by simp [missP], fun _ => rfl⟩
    | [a, l], _ => exact key a l [] (by simp)
    | _ :: _ :: _ :: _, hd => simp at hd
  | [a], _, hd =>
    simp only [missP, List.length_cons, List.length_nil] at hd
    match d, hd with
    | [], _ => refine ⟨by simp, by simp, by simp [missP], fun _ => rfl⟩
    | [l], _ => exact key a l [] (by simp)
    | _ :: _ :: _, hd => simp at hd
  | a :: l :: t, h, hd =>
    rw [missP_two] at hd
    exact key a l (t ++ d) (by rw [fr_eq] at h; split at h; · simp; omega
                               · cases h)
theorem miss_pos {y : Bs} (h : fr y = none) : 0 < missP y := by
  match y, h with
  | [], _ => simp [missP]
  | [a], _ => simp [missP]
  | a :: l :: t, h =>
    rw [missP_two]
    rw [fr_eq] at h
    split at h
    · omega
    · cases h
theorem miss_ok {y : Bs} (h : fr y = none) : y.length ≤ 65537 ∧ (2 ≤ y.length → y.length ≤ 2 + ((y.getD 0 0).toNat * 256 + (y.getD 1 0).toNat)) := by
  have := miss_step (d := []) h (by simp)
  rw [List.append_nil] at this
  exact ⟨this.1, this.2.1⟩
theorem TxS.one {w : World} {S2 : Nat → Prop} {x : Value} {y : Bs} (h : SlV w x y) (ho : OffV S2 x) (hS : ∀ k, S2 k → k < w.heap.size) : TxS (w.alloc (.cells #[x] 29)) S2 (.slice (some ⟨w.heap.size, 0, none⟩) 1 1) [y] := by
  refine ⟨[x], ⟨by simp, .inr ⟨w.heap.size, 1, #[x], rfl, Nat.zero_le _, row_new _ rfl, Nat.le_refl _, by simp [maxLen], by simp, by simp⟩⟩, fun k hk e => ?_, rfl, fun j hj => ?_⟩
  · simp [Value.ownBlock] at hk
    have := hS k e
    omega
  · have : j = 0 := by simp at hj; omega
    subst this
    refine ⟨x, rfl, h.mod (Mod.below (S := fun _ => False) (Below.alloc (Below.refl _ _) (Nat.le_refl _) _)) (fun k hk e => e), ho, fun k hk e => ?_⟩
    simp [Value.ownBlock] at e
    have := h.2 k hk
    omega
/-- What the loop has. -/
def LoopF (w : World) (g : Nat) (F : Nat → Prop) (A : Option Addr) (T : Bs) (m : Nat) (s1 s5 : Value) (wr : World) : Prop := ∃ (rest y : Bs) (A1 : Option Addr) (c1 : Nat) (vy : Value) (G : List Bs), s1 = .slice A1 rest.length c1 ∧ Sl w A1 c1 rest ∧ (∀ p, A1 = some p → ∃ a, A = some a ∧ p.block = a.block) ∧ PL wr g vy y ∧ (∀ k, vy.ownBlock = some k → F k ∨ w.heap.size ≤ k) ∧ TxS wr (fun k => FL g vy k ∨ (k < w.heap.size ∧ ¬ F k)) s5 G ∧ Mod F w wr ∧ feedP T = (G ++ (feedP (y ++ rest)).1, (feedP (y ++ rest)).2) ∧ fr y = none ∧ rest.length + y.length + 2 * G.length ≤ m
/-- What Feed answers. -/
def FeedL (w : World) (g : Nat) (F : Nat → Prop) (T : Bs) (e : Ending) (w' : World) : Prop := ∃ v v', e = .returned v ∧ TxS w' (fun k => FL g v' k ∨ (k < w.heap.size ∧ ¬ F k)) v (feedP T).1 ∧ PL w' g v' (feedP T).2 ∧ fr (feedP T).2 = none ∧ Mod F w w' ∧ ∀ k, v'.ownBlock = some k → F k ∨ w.heap.size ≤ k

set_option maxHeartbeats 4000000 in
theorem feedL_any (g : Nat) (v : Value) (x b : Bs) (F : Nat → Prop) (A : Option Addr) (c : Nat) (w : World) (hx : PL w g v x) (hF : ∀ k, F k ↔ FL g v k) (hfx : fr x = none) (hb : Sl w A c b) (hA : Off F A) (hl : x.length + b.length ≤ 4398046511104) :
    Calls Tryz.prog 11 #[.pointer (some ⟨g, 0, none⟩), .slice A b.length c] w (FeedL w g F (x ++ b)) := by
  have MD := Lib.hid (made_any g v x w hx)
  have HD : Hid (∀ e w', FeedL w g F (x ++ b) e w' ↔ ∃ v v', e = .returned v ∧ TxS w' (fun k => FL g v' k ∨ (k < w.heap.size ∧ ¬ F k)) v (feedP (x ++ b)).1 ∧ PL w' g v' (feedP (x ++ b)).2 ∧ fr (feedP (x ++ b)).2 = none ∧ Mod F w w' ∧ ∀ k, v'.ownBlock = some k → F k ∨ w.heap.size ≤ k) := Lib.hid (fun _ _ => Iff.rfl)
  have L0 : Hid (∀ w1, Below w.heap.size w w1 → LoopF w g F A (x ++ b) (x.length + b.length) (.slice A b.length c) (.slice none 0 0) w1) := Lib.hid (fun w1 k => ⟨b, x, A, c, v, [], rfl, hb, fun p hp => ⟨p, hp, rfl⟩, hx.below k, fun k hk => .inl ((hF k).2 (.inr hk)), TxS.nil _ _, Mod.below k, by simp, hfx, by simp; omega⟩)
  have HA := Lib.hid hA
  have HF := Lib.hid hF
  have glt := (Array.getElem?_eq_some_iff.1 hx.1).1
  have HL := Lib.hid hl
  have HG : Hid (F g) := Lib.hid ((hF g).2 (.inl rfl))
  obtain ⟨m, hm⟩ : ∃ m, m = x.length + b.length := ⟨_, rfl⟩
  rw [← hm] at L0 HL
  generalize FeedL w g F (x ++ b) = Q at *
  generalize x ++ b = T at *
  generalize b.length = nb at *
  clear hx hF hfx hb hA hl hm
  go_enter Tryz.func11, Tryz.ntmps11
  go_wp2_with fail
  refine MD.out.mono ?_
  rintro e w0 ⟨rfl, k0⟩
  have HL0 := Lib.hid (L0.out w0 k0)
  clear MD L0 k0
  go_wp2_with fail
  go_loopw [1, 5] (fun s1 s5 wr => LoopF w g F A T m s1 s5 wr) (fun s1 _ _ => lenN s1)
  case atStart => exact HL0.out
  case round =>
    clear HL0
    obtain ⟨rest, y, A1, c1, vy, G, rfl, hr, hpl, hy, hvy, hG, hM, hT, hfy, hlen⟩ := hrel
    obtain ⟨n, hn⟩ : ∃ n, n = rest.length := ⟨_, rfl⟩
    rw [← hn]
    by_cases h0 : n = 0
    · have h0' : ¬ (0 : Int) < (n : Int) := by omega
      have hre : rest = [] := List.length_eq_zero_iff.1 (by omega)
      have HQ : Hid (Q (.returned u5) wr) := Lib.hid ((HD.out _ _).2 ⟨u5, vy, rfl, by
        subst hre
        rw [List.append_nil, feed_none hfy, List.append_nil] at hT
        rw [hT]
        exact ⟨hG, hy, hfy, hM, hvy⟩⟩)
      clear hr hpl hy hvy hG hM hT hfy hlen hn
      go_wp2_with fail
      exact HQ.out
    · have h0' : (0 : Int) < (n : Int) := by omega
      have hok := miss_ok hfy
      have hpos := miss_pos hfy
      have M1 := Lib.hid (missing_any g vy y wr hy hok.1 hok.2)
      obtain ⟨q, hq⟩ : ∃ q, q = missP y := ⟨_, rfl⟩
      rw [← hq] at M1
      have HY := Lib.hid hy
      have HR := Lib.hid hr
      have HPL := Lib.hid hpl
      have HVY := Lib.hid hvy
      have HGG := Lib.hid hG
      have HM := Lib.hid hM
      have HT := Lib.hid hT
      have HFY := Lib.hid hfy
      have HLEN := Lib.hid hlen
      have HN := Lib.hid hn
      have HQ := Lib.hid hq
      have HP := Lib.hid hpos
      clear hr hpl hy hvy hG hM hT hfy hlen hn hok hq hpos
      go_wp2_with fail
      refine M1.out.mono ?_
      rintro e w1 ⟨rfl, k1⟩
      have HK1 := Lib.hid k1
      obtain ⟨z, hz⟩ : ∃ z, z = min q n := ⟨_, rfl⟩
      have hmin : min (q : Int) (n : Int) = (z : Int) := by omega
      have hzn : z ≤ rest.length := by have := HN.out; omega
      obtain ⟨d, hd⟩ : ∃ d, d = rest.take z := ⟨_, rfl⟩
      obtain ⟨r2, hr2⟩ : ∃ r, r = rest.drop z := ⟨_, rfl⟩
      have ld : d.length = z := by rw [hd, List.length_take]; omega
      have lr : r2.length = n - z := by rw [hr2, List.length_drop, ← HN.out]
      have sp := slice_pre A1 rest c1 z z hzn HR.out.le rfl
      obtain ⟨A2, lo, s2, pl2⟩ := HR.out.rest z z hzn rfl
      rw [← hd, ld, ← HN.out] at sp
      rw [← hr2, lr, ← HN.out] at lo
      rw [← hr2] at s2
      have sd : Sl w A1 c1 d := by rw [hd]; exact ⟨HR.out.bys.pre z, by rw [← hd, ld]; have := HR.out.le; omega, HR.out.max, HR.out.nil⟩
      have offd : Off F A1 := fun p hp hf => by
        obtain ⟨a, ha, hb⟩ := HPL.out p hp
        rw [hb] at hf
        exact HA.out a ha hf
      have sd1 : Sl w1 A1 c1 d := ⟨(sd.bys.mod HM.out offd).on k1, sd.le, sd.max, sd.nil⟩
      have AD := Lib.hid (fun nq => add_any g vy y d A1 c1 (w1.drewN nq) ((HY.out.below k1).below (below_drewN (Below.refl _ _) nq)) (sd1.on (below_drewN (Below.refl _ _) nq)) (by have := HLEN.out; have := HL.out; have := HN.out; omega))
      rw [ld] at AD
      have HYD := Lib.hid (miss_step HFY.out (d := d) (by rw [ld, ← HQ.out]; omega))
      obtain ⟨y2, hy2⟩ : ∃ y2, y2 = y ++ d := ⟨_, rfl⟩
      rw [← hy2] at AD HYD
      have AO : Hid (∀ w' e w'', AddP w' g vy y2 e w'' → ∃ v', e = .returned (.tuple #[]) ∧ PL w'' g v' y2 ∧ Mod (FL g vy) w' w'' ∧ ∀ k, v'.ownBlock = some k → vy.ownBlock = some k ∨ w'.heap.size ≤ k) := Lib.hid (fun _ _ _ h => h)
      have HT2 : Hid (feedP T = (G ++ (feedP (y2 ++ r2)).1, (feedP (y2 ++ r2)).2)) := Lib.hid (by
        have e : y ++ rest = y2 ++ r2 := by rw [hy2, hd, hr2, List.append_assoc, List.take_append_drop]
        rw [← e]; exact HT.out)
      have HLN : Hid (r2.length + y2.length + 2 * G.length ≤ m) := Lib.hid (by have := HLEN.out; have := HN.out; rw [hy2, List.length_append]; omega)
      have HS2 := Lib.hid s2
      have HPL2 : Hid (∀ p, A2 = some p → ∃ a, A = some a ∧ p.block = a.block) := Lib.hid (fun p hp => by
        obtain ⟨a, ha, hb⟩ := pl2 p hp
        obtain ⟨a', ha', hb'⟩ := HPL.out a ha
        exact ⟨a', ha', hb.trans hb'⟩)
      have HLR := Lib.hid lr
      have hz0 : 0 < z ∧ z ≤ n := by have := HP.out; have := HQ.out; omega
      have LO := Lib.hid lo
      clear M1 hz hd hr2 ld lr s2 pl2 sd offd sd1 hy2 k1 hzn HR HPL HY HN HQ HP HT HLEN HFY lo
      go_wp2_with fail
      refine wp_region_quiet_tail 6 (by kernel_rfl) (by kernel_rfl) ?_
      simp only [List.take_succ_cons, List.take_zero, List.drop_succ_cons, List.drop_zero]
      repeat (go_big_quiet_step (fail))
      refine wpQuiet_nil ?_
      intro w3 hw3
      obtain ⟨nq, rfl⟩ := hw3
      have AD1 := Lib.hid (AD.out nq)
      clear AD sp
      go_wp2_with fail
      refine AD1.out.mono ?_
      intro e w2 had
      obtain ⟨v2, rfl, hy2, m2, f2⟩ := AO.out _ _ _ had
      have sz1 : w.heap.size ≤ w1.heap.size := Nat.le_trans HM.out.size HK1.out.size
      have mA : Mod F w (w1.drewN nq) := (HM.out.then HK1.out).then (below_drewN (Below.refl _ _) nq)
      have mB : Mod F w w2 := mA.trans m2 (fun i hi => by
        rcases hi with rfl | hi
        · exact .inl HG.out
        · exact HVY.out i hi)
      have gA : TxS (w1.drewN nq) (fun k => FL g vy k ∨ (k < w.heap.size ∧ ¬ F k)) u5 G := (HGG.out.on HK1.out).on (below_drewN (Below.refl _ _) nq)
      have gB : TxS w2 (fun k => FL g v2 k ∨ (k < w.heap.size ∧ ¬ F k)) u5 G := ((gA.wide (S' := fun k => (FL g vy k ∨ (k < w.heap.size ∧ ¬ F k)) ∨ (w1.drewN nq).heap.size ≤ k) (fun i hi => hi)).mod m2 (fun i hi => .inl (.inl hi))).wide (fun i hi => .inl (by
        rcases hi with (rfl | hi) | hi
        · exact .inl (.inl (.inl rfl))
        · rcases f2 i hi with h | h
          · exact .inl (.inl (.inr h))
          · exact .inr h
        · exact .inl (.inr hi)))
      have fB : ∀ k, v2.ownBlock = some k → F k ∨ w.heap.size ≤ k := fun k hk => by
        rcases f2 k hk with h | h
        · exact HVY.out k h
        · exact .inr (Nat.le_trans sz1 h)
      have MB := Lib.hid mB
      have GB := Lib.hid gB
      have FB := Lib.hid fB
      have HY2 := Lib.hid hy2
      have M2 := Lib.hid (missing_any g v2 y2 w2 hy2 HYD.out.1 HYD.out.2.1)
      have lo := LO.out
      obtain ⟨q2, hq2⟩ : ∃ q, q = missP y2 := ⟨_, rfl⟩
      rw [← hq2] at M2
      have HQ2 := Lib.hid hq2
      clear had hy2 m2 f2 mA mB gA gB fB HM HGG HVY HK1 AD1 AO hq2 LO sz1
      go_wp2_with fail
      refine M2.out.mono ?_
      rintro e w3 ⟨rfl, k3⟩
      have K3 := Lib.hid k3
      have hy3 := HY2.out.below k3
      have m3 := MB.out.then k3
      have g3 := GB.out.on k3
      have e3 : (if q2 = 0 then 0 else 1) = (if q2 = 0 then 0 else 1) := rfl
      by_cases hz : q2 = 0
      · have hfr := HYD.out.2.2.1 (by rw [← HQ2.out]; exact hz)
        have TA := Lib.hid (takeAll_any g v2 y2 w3 hy3)
        obtain ⟨A3, c3, rfl, s3⟩ := hy3.2.1.bysN
        obtain ⟨A4, lo4, s4, pl4⟩ := s3.rest 2 2 hfr.2 rfl
        obtain ⟨yd, hyd⟩ : ∃ z, z = y2.drop 2 := ⟨_, rfl⟩
        rw [← hyd] at lo4 s4
        obtain ⟨nd, hnd⟩ : ∃ z, z = yd.length := ⟨_, rfl⟩
        rw [← hnd] at lo4
        have HT3 : Hid (feedP T = (G ++ [yd] ++ (feedP ([] ++ r2)).1, (feedP ([] ++ r2)).2)) := Lib.hid (by
          rw [HT2.out, feed_some (fr_app r2 hfr.1), hyd]
          simp)
        have HL3 : Hid (r2.length + ([] : Bs).length + 2 * (G ++ [yd]).length ≤ m) := Lib.hid (by have h1 := HLN.out; have h2 := hfr.2; simp at *; omega)
        have hxb : ∀ k, (Value.slice A4 nd (c3 - 2)).ownBlock = some k → (Value.slice A3 y2.length c3).ownBlock = some k := fun k hk => by
          cases A4 with
          | none => cases hk
          | some a4 =>
            obtain ⟨a, ha, hb⟩ := pl4 a4 rfl
            subst ha
            simp only [Value.ownBlock] at hk ⊢
            rw [← hb]; exact hk
        have hlt3 : ∀ k, (Value.slice A3 y2.length c3).ownBlock = some k → k < w3.heap.size := fun k hk => (hy3.2.1.lt k hk).2
        have HS4 := Lib.hid s4
        have HXB := Lib.hid hxb
        have HLT := Lib.hid hlt3
        have HY3 := Lib.hid hy3
        have HM3 := Lib.hid m3
        have HG3 := Lib.hid g3
        have HND := Lib.hid hnd
        subst hz
        clear hfr s3 s4 pl4 hyd hxb hlt3 hy3 m3 g3 hnd M2 MB GB HY2 k3 HYD HQ2 HT2 HLN
        go_wp2_with fail
        refine TA.out.mono ?_
        rintro e w4 ⟨rfl, hp4, g4⟩
        obtain ⟨xv, hxv⟩ : ∃ xv, xv = Value.slice A4 nd (c3 - 2) := ⟨_, rfl⟩
        have mg : Mod (fun k => k = g) w3 w4 := Mod.grown g4 (fun k hk => by injection hk with hk; exact hk.symm)
        have hxg : OffV (fun k => k = g) xv := fun k hk e => by
          subst e
          rw [hxv] at hk
          exact HY3.out.2.2 (HXB.out _ hk)
        have sv3 : SlV w3 xv yd := by rw [hxv]; exact ⟨⟨A4, c3 - 2, by rw [← HND.out], HS4.out⟩, fun k hk => HLT.out k (HXB.out k hk)⟩
        have sv4 := sv3.mod mg hxg
        have szA : w3.heap.size ≤ w4.heap.size := g4.size
        have sz3 : w.heap.size ≤ w3.heap.size := HM3.out.size
        have hu5 : ∀ k, u5.ownBlock = some k → k < w3.heap.size ∧ ¬ FL g (Value.slice A3 y2.length c3) k ∧ ¬ (k < w.heap.size ∧ ¬ F k) := fun k hk => by
          obtain ⟨xs, o1, off, -⟩ := HG3.out
          exact ⟨(o1.lt k hk).2, fun e => off k hk (.inl e), fun e => off k hk (.inr e)⟩
        have tS : TxS (w4.alloc (.cells #[xv] 29)) (fun k => FL g (.slice none 0 0) k ∨ (k < w.heap.size ∧ ¬ F k)) u5 G := ((HG3.out.mod mg (fun i hi => .inl (.inl hi))).wide (fun i hi => .inl (by
          rcases hi with (hi | hi) | hi
          · exact .inl (.inl hi)
          · simp [Value.ownBlock] at hi
          · exact .inr hi))).on (Below.alloc (Below.refl _ _) (Nat.le_refl _) _)
        have tO : TxS (w4.alloc (.cells #[xv] 29)) (fun k => (FL g (.slice none 0 0) k ∨ (k < w.heap.size ∧ ¬ F k)) ∨ u5.ownBlock = some k) (.slice (some ⟨w4.heap.size, 0, none⟩) 1 1) [yd] := TxS.one sv4 (fun k hk e => by
          have hb := hk
          rw [hxv] at hb
          have hb := HXB.out k hb
          rcases e with ((e | e) | e) | e
          · exact hxg k hk e
          · simp [Value.ownBlock] at e
          · rcases FB.out k hb with h | h
            · exact e.2 h
            · omega
          · exact (hu5 k e).2.1 (.inr hb)) (fun k e => by
          rcases e with ((e | e) | e) | e
          · subst e; omega
          · simp [Value.ownBlock] at e
          · omega
          · have := (hu5 k e).1; omega)
        have bq : Below w4.heap.size w4 (w4.alloc (.cells #[xv] 29)) := Below.alloc (Below.refl _ _) (Nat.le_refl _) _
        have HTS := Lib.hid tS
        have HTO := Lib.hid tO
        have HP4 := Lib.hid (hp4.below bq)
        have HU5 := Lib.hid hu5
        have HM4 := Lib.hid ((HM3.out.trans (mg.wide (S' := F) (fun i hi => by rw [hi]; exact HG.out)) (fun i hi => .inl hi)).then bq)
        have HGL : Hid ((G.length + [yd].length) * 24 ≤ 140737488355328) := Lib.hid (by have h1 := HL3.out; have h2 := HL.out; simp at h1 ⊢; omega)
        have HSZ : Hid (∀ k, (FL g (.slice none 0 0) k ∨ (k < w.heap.size ∧ ¬ F k)) → k < (w4.alloc (.cells #[xv] 29)).heap.size) := Lib.hid (fun k e => by
          rcases e with (e | e) | e
          · subst e; simp; omega
          · simp [Value.ownBlock] at e
          · simp; omega)
        rw [← hxv] at lo4
        obtain ⟨A5, n5, c5, hx5⟩ : ∃ A n c, xv = .slice A n c := ⟨_, _, _, hxv⟩
        clear hxv mg hxg sv3 sv4 hu5 tS tO bq hp4 g4 HY3 HXB HLT FB HS4 HND HG3 HM3 TA K3 szA
        subst hx5
        go_wp2_with (first
          | (at_builtin; refine wpList_app_txs rfl (.tmp 31) (.tmp 37) rfl (S := fun k => FL g (.slice none 0 0) k ∨ (k < w.heap.size ∧ ¬ F k)) (S2 := fun k => (FL g (.slice none 0 0) k ∨ (k < w.heap.size ∧ ¬ F k)) ∨ u5.ownBlock = some k) rfl rfl HTS.out HTO.out (fun k e => .inl e) HSZ.out (fun k e => .inr e) HGL.out ?_)
          | fail)
        intro v6 w6 t6 g6 f6
        have hp6 : PL w6 g (.slice none 0 0) [] := ⟨(g6.block g (HSZ.out g (.inl (.inl rfl))) (fun e => (HU5.out g e.symm).2.1 (.inl rfl))).trans HP4.out.1, .inl ⟨rfl, rfl⟩, by simp [Value.ownBlock]⟩
        have m6 : Mod F w w6 := HM4.out.trans (Mod.grown (S := fun k => u5.ownBlock = some k) g6 (fun k hk => hk)) (fun k hk => by
          have := (HU5.out k hk).2.2
          by_cases hF : F k
          · exact .inl hF
          · exact .inr (Nat.le_of_not_lt (fun h => this ⟨h, hF⟩)))
        have HP6 := Lib.hid hp6
        have HM6 := Lib.hid m6
        have HT6 := Lib.hid t6
        clear hp6 m6 t6 g6 f6 HTS HTO HP4 HU5 HM4 HGL HSZ lo lo4
        go_wp2_with fail
        go_roundw
        case rel => exact ⟨r2, [], A2, c1 - z, .slice none 0 0, G ++ [yd], by rw [← HLR.out], HS2.out, HPL2.out, HP6.out, fun k hk => by simp [Value.ownBlock] at hk, HT6.out, HM6.out, HT3.out, rfl, HL3.out⟩
        case measure => simp only [lenN]; omega
      · have hzz : ¬ (q2 : Int) = 0 := by omega
        have hfr := HYD.out.2.2.2 (by rw [← HQ2.out]; exact hz)
        have HY3 := Lib.hid hy3
        have HM3 := Lib.hid m3
        have HG3 := Lib.hid g3
        have HFR := Lib.hid hfr
        clear hy3 m3 g3 hfr k3 MB GB HY2 M2 HYD HQ2 K3
        go_wp2_with fail
        go_roundw
        case rel => exact ⟨r2, y2, A2, c1 - z, v2, G, by rw [← HLR.out], HS2.out, HPL2.out, HY3.out, FB.out, HG3.out, HM3.out, HT2.out, HFR.out, HLN.out⟩
        case measure => simp only [lenN]; omega
/-- The landed reader. -/
def LandP : RdrP := fun w F p x => ∃ g v, p = .pointer (some ⟨g, 0, none⟩) ∧ PL w g v x ∧ (∀ k, F k ↔ FL g v k) ∧ fr x = none
theorem landP : PfI LandP where
  mod := fun {S F w w1 p x} h k hn => by
    obtain ⟨g, v, rfl, hx, hF, hf⟩ := h
    exact ⟨g, v, rfl, ⟨k.row hx.1 (hn g ((hF g).2 (.inl rfl))), hx.2.1.mod k (fun j hj e => hn j ((hF j).2 (.inr hj)) e), hx.2.2⟩, hF, hf⟩
  lt := fun {F w p x} h k hk => by
    obtain ⟨g, v, rfl, hx, hF, hf⟩ := h
    rcases (hF k).1 hk with rfl | e
    · exact (Array.getElem?_eq_some_iff.1 hx.1).1
    · exact (hx.2.1.lt k e).2
  new := fun w => (new_any w).mono fun e w' ⟨g, he, hx, hB, hg⟩ => ⟨_, FL g (.slice none 0 0), he, ⟨g, _, rfl, hx, fun _ => Iff.rfl, rfl⟩, hB, fun k hk => by
    rcases hk with rfl | e
    · exact hg
    · simp [Value.ownBlock] at e⟩
  feed := fun {F p x b A c w} h hb hA hl => by
    obtain ⟨g, v, rfl, hx, hF, hf⟩ := h
    refine (feedL_any g v x b F A c w hx hF hf hb hA hl).mono ?_
    rintro e w' ⟨v1, v', he, ht, hx', hf', hM, hO⟩
    exact ⟨v1, FL g v', he, ht, ⟨g, v', rfl, hx', fun _ => Iff.rfl, hf'⟩, hM, fun k hk => by
      rcases hk with rfl | hk
      · exact .inl ((hF k).2 (.inl rfl))
      · exact hO k hk⟩
  enc := encL_any
end Go.Proofs.YtjhameebehkdjaaGreatDoor
