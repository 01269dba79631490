/-
  Names as lists of bytes and of labels: no program, no memory.
  Names as lists: small letters, sameness, order, the last labels. No program, no memory.
  Blocks of many cells, allocated, loaded and stored whole: laws for the walk.
  The document's Join, and the statements' Name.
  name.split: a name's places.
  name.Can, name.Count, and one label of a name.
  cmp.Compare of two strings and of two numbers; strings.Clone.
  name.Lower and name.Same.
-/
import Derived.Laws.Concat
import Derived.Laws.Strings2
import Derived.Handy
import GoSem.Op.String
import Derived.WalkKit
import Derived.WalkLawsBesides
import Derived.WalkSpells
import Derived.Laws.Rows
import Derived.Laws.ResultCell
import Derived.Deep.Draws
import Derived.Lib.Hide
import Derived.Test.YtjhameebehkdjaaGreatDoorProg
import Derived.Laws.IdiomStrings
import Derived.LoopTactic
import Derived.OwnWalk
import Derived.Deep.AppendLies
import Derived.Deep.QuietTactic
import Derived.BigQuiet
import Derived.IntWalk
import Derived.Lib.Strings
import Derived.Lib.Walk
import Derived.Lib.BufferWrite
import Derived.Lib.UnsafeStr
import Derived.Laws.MakeOwn
namespace Go.Proofs.YtjhameebehkdjaaGreatDoor

abbrev Bs := List UInt8
/-- The string of bytes. -/
abbrev bs (l : Bs) : ByteArray := ⟨l.toArray⟩
theorem bs_list (s : ByteArray) : s = bs s.data.toList := by cases s; rfl
theorem bs_size (l : Bs) : (bs l).size = l.length := by simp [ByteArray.size]
theorem bs_toList (l : Bs) : (bs l).toList = l := by rw [ByteArray.toList_eq]
theorem bs_extract (l : Bs) (a b : Nat) : (bs l).extract a b = bs ((l.drop a).take (b - a)) := ByteArray.extract_mk l a b
theorem bs_append (a b : Bs) : bs a ++ bs b = bs (a ++ b) := ByteArray.mk_append_mk a b
theorem bs_at (l : Bs) (i : Nat) (h : i < (bs l).size) : (bs l)[i] = l[i]'(by simpa [ByteArray.size] using h) := rfl
theorem bs_inj {a b : Bs} (h : bs a = bs b) : a = b := by injection h with h; exact List.toArray_inj h

/-- The labels of bytes that begin where a label begins, where they are a name's; the length plays no part. -/
def labs : Bs → Option (List Bs)
  | [] => none
  | k :: r => if k.toNat = 0 then (if r = [] then some [] else none) else if 63 < k.toNat then none else (labs (r.drop k.toNat)).map (r.take k.toNat :: ·)
termination_by l => l.length
decreasing_by simp; omega

/-- Labels, each with its length ahead. -/
def enc : List Bs → Bs
  | [] => []
  | x :: L => UInt8.ofNat x.length :: (x ++ enc L)
def join (L : List Bs) : Bs := enc L ++ [0]
def Lab (x : Bs) : Prop := 1 ≤ x.length ∧ x.length ≤ 63

theorem enc_append (A B : List Bs) : enc (A ++ B) = enc A ++ enc B := by
  induction A with
  | nil => rfl
  | cons x A ih => simp [enc, ih]
theorem toNat_len {x : Bs} (h : Lab x) : (UInt8.ofNat x.length).toNat = x.length := by
  have := h.2
  simp; omega

theorem labs_join : ∀ {L : List Bs}, (∀ x ∈ L, Lab x) → labs (join L) = some L
  | [], _ => by unfold join enc; rw [List.nil_append, labs]; simp
  | x :: L, h => by
    have hx := h x (by simp)
    have hn := toNat_len hx
    have ih := labs_join (L := L) fun y hy => h y (by simp [hy])
    unfold join at ih ⊢
    unfold enc
    rw [List.cons_append, labs, hn, if_neg (by have := hx.1; omega), if_neg (by have := hx.2; omega), List.append_assoc, List.drop_left, List.take_left, ih]
    rfl

theorem labs_some : ∀ (n : Nat) {l : Bs} {L : List Bs}, l.length ≤ n → labs l = some L → l = join L ∧ ∀ x ∈ L, Lab x
  | _, [], L, _, h => by rw [labs] at h; simp at h
  | 0, k :: r, L, hn, h => by simp at hn
  | n + 1, k :: r, L, hn, h => by
    rw [labs] at h
    split at h
    · rename_i h0
      split at h
      · rename_i hr
        obtain rfl := Option.some.inj h
        subst hr
        refine ⟨?_, by simp⟩
        have : k = 0 := UInt8.toNat_inj.1 (by simpa using h0)
        simp [join, enc, this]
      · simp at h
    · rename_i h0
      split at h
      · simp at h
      · rename_i h6
        cases hd : labs (r.drop k.toNat) with
        | none => simp [hd] at h
        | some M =>
          rw [hd] at h
          obtain rfl := Option.some.inj h
          obtain ⟨e, hM⟩ := labs_some n (by simp at hn ⊢; omega) hd
          have hlen : k.toNat < r.length := by
            have := congrArg List.length e
            simp [join] at this
            omega
          have ht : (r.take k.toNat).length = k.toNat := by simp; omega
          refine ⟨?_, ?_⟩
          · unfold join enc
            rw [ht, List.cons_append, List.append_assoc]
            have : enc M ++ [0] = r.drop k.toNat := e.symm
            rw [this, List.take_append_drop]
            simp
          · intro x hx
            rcases List.mem_cons.1 hx with rfl | hx
            · exact ⟨by omega, by omega⟩
            · exact hM x hx

/-- Bytes are a name. -/
def can (l : Bs) : Bool := decide (l.length ≤ 255) && (labs l).isSome
def labels (l : Bs) : List Bs := if can l then (labs l).getD [] else []

theorem can_out {l : Bs} (h : can l = true) : l.length ≤ 255 ∧ labs l = some (labels l) ∧ l = join (labels l) ∧ ∀ x ∈ labels l, Lab x := by
  have hc := h
  unfold can at h
  simp only [Bool.and_eq_true, decide_eq_true_eq] at h
  obtain ⟨L, hL⟩ := Option.isSome_iff_exists.1 h.2
  have hl : labels l = L := by unfold labels; rw [if_pos hc, hL]; rfl
  obtain ⟨e, hM⟩ := labs_some _ (Nat.le_refl _) hL
  rw [hl]
  exact ⟨h.1, hL, e, hM⟩
theorem can_join {L : List Bs} (h : ∀ x ∈ L, Lab x) (hl : (join L).length ≤ 255) : can (join L) = true ∧ labels (join L) = L := by
  have e := labs_join h
  have hc : can (join L) = true := by unfold can; simp [e, hl]
  exact ⟨hc, by unfold labels; rw [if_pos hc, e]; rfl⟩
theorem labels_no {l : Bs} (h : can l = false) : labels l = [] := by unfold labels; rw [if_neg (by simp [h])]
theorem can_long {l : Bs} (h : 255 < l.length) : can l = false := by unfold can; simp; omega

/-- Where the i-th label begins. -/
def st (L : List Bs) (i : Nat) : Nat := (enc (L.take i)).length

theorem enc_len_cons (x : Bs) (L : List Bs) : (enc (x :: L)).length = 1 + x.length + (enc L).length := by simp [enc]; omega
theorem enc_ge : ∀ {L : List Bs}, (∀ x ∈ L, Lab x) → 2 * L.length ≤ (enc L).length
  | [], _ => by simp [enc]
  | x :: L, h => by
    have := enc_ge (L := L) fun y hy => h y (by simp [hy])
    have := (h x (by simp)).1
    rw [enc_len_cons]
    simp; omega
theorem join_len (L : List Bs) : (join L).length = (enc L).length + 1 := by simp [join]
theorem can_count {l : Bs} (h : can l = true) : (labels l).length ≤ 127 := by
  obtain ⟨h1, _, e, hL⟩ := can_out h
  have := enc_ge hL
  have := congrArg List.length e
  rw [join_len] at this
  omega
end Go.Proofs.YtjhameebehkdjaaGreatDoor
namespace Go.Proofs.YtjhameebehkdjaaGreatDoor

def small (b : UInt8) : UInt8 := if 65 ≤ b.toNat ∧ b.toNat ≤ 90 then b + 32 else b
def low (l : Bs) : Bs := l.map small

theorem low_len (l : Bs) : (low l).length = l.length := by simp [low]
theorem small_nat (b : UInt8) : (small b).toNat = if 65 ≤ b.toNat ∧ b.toNat ≤ 90 then b.toNat + 32 else b.toNat := by
  unfold small
  split
  · rw [UInt8.toNat_add]
    have : (32 : UInt8).toNat = 32 := rfl
    omega
  · rfl
theorem small_small (b : UInt8) : small (small b) = small b := by
  apply UInt8.toNat_inj.1
  rw [small_nat (small b), small_nat b]
  split <;> (try split) <;> omega
theorem low_low (l : Bs) : low (low l) = low l := by simp [low, small_small]
theorem small_of {n : Nat} (h : n ≤ 63) : small (UInt8.ofNat n) = UInt8.ofNat n := by
  unfold small
  rw [if_neg]
  have : (UInt8.ofNat n).toNat = n := by simp; omega
  omega
theorem low_append (a b : Bs) : low (a ++ b) = low a ++ low b := by simp [low]
theorem low_enc : ∀ {L : List Bs}, (∀ x ∈ L, Lab x) → low (enc L) = enc (L.map low)
  | [], _ => rfl
  | x :: L, h => by
    have ih := low_enc (L := L) fun y hy => h y (by simp [hy])
    have hx := (h x (by simp)).2
    simp only [enc, List.map_cons, low_len]
    rw [← ih, ← low_append]
    show small _ :: _ = _
    rw [small_of hx]; rfl
theorem low_join {L : List Bs} (h : ∀ x ∈ L, Lab x) : low (join L) = join (L.map low) := by
  unfold join
  rw [low_append, low_enc h]; rfl
theorem lab_low {x : Bs} (h : Lab x) : Lab (low x) := by unfold Lab; rw [low_len]; exact h
theorem labs_low {L : List Bs} (h : ∀ x ∈ L, Lab x) : ∀ x ∈ L.map low, Lab x := by
  intro x hx
  obtain ⟨y, hy, rfl⟩ := List.mem_map.1 hx
  exact lab_low (h y hy)

def lower (l : Bs) : Bs := if can l then low l else []
theorem lower_yes {l : Bs} (h : can l = true) : lower l = low l := by unfold lower; rw [if_pos h]
theorem lower_no {l : Bs} (h : can l = false) : lower l = [] := by unfold lower; rw [if_neg (by simp [h])]

theorem can_low {l : Bs} (h : can l = true) : can (low l) = true ∧ labels (low l) = (labels l).map low := by
  obtain ⟨hl, _, e, hL⟩ := can_out h
  have e2 : low l = join ((labels l).map low) := by rw [← low_join hL, ← e]
  have := can_join (labs_low hL) (by rw [← e2, low_len]; exact hl)
  rw [← e2] at this
  exact this
theorem can_nil : can [] = false := by unfold can; rw [labs]; rfl
theorem can_ne {l : Bs} (h : can l = true) : l ≠ [] := fun e => by rw [e, can_nil] at h; cases h
theorem low_nil {l : Bs} (h : low l = []) : l = [] := by
  have := low_len l
  rw [h] at this
  exact List.eq_nil_of_length_eq_zero this.symm
theorem lower_len (l : Bs) : (lower l).length ≤ l.length := by unfold lower; split <;> simp [low_len]
theorem lower_len_le (l : Bs) : (lower l).length ≤ 255 := by
  cases h : can l
  · rw [lower_no h]; simp
  · rw [lower_yes h, low_len]; exact (can_out h).1

theorem can_lower (l : Bs) : can (lower l) = can l := by
  cases h : can l
  · rw [lower_no h, can_nil]
  · rw [lower_yes h, (can_low h).1]
theorem labels_lower (l : Bs) : labels (lower l) = (labels l).map low := by
  cases h : can l
  · rw [lower_no h, labels_no can_nil, labels_no h]; rfl
  · rw [lower_yes h, (can_low h).2]

/-- Whether two names are the same. -/
def same (a b : Bs) : Bool := can a && can b && low a == low b
theorem same_code (a b : Bs) : (!(lower a == []) && lower a == lower b) = same a b := by
  unfold same
  cases ha : can a
  · rw [lower_no ha]; simp
  · have h1 : low a ≠ [] := fun e => can_ne ha (low_nil e)
    rw [lower_yes ha]
    cases hb : can b
    · rw [lower_no hb]; simp
    · rw [lower_yes hb]; simp [h1]

/-- The order of bytes. -/
def cmpB (a b : Bs) : Int := if Op.bytesLess a b then -1 else if a == b then 0 else 1

theorem less_irrefl : ∀ a : Bs, Op.bytesLess a a = false
  | [] => rfl
  | x :: a => by simp [Op.bytesLess, less_irrefl a]
theorem less_total : ∀ a b : Bs, Op.bytesLess a b = true ∨ a = b ∨ Op.bytesLess b a = true
  | [], [] => by simp
  | [], y :: b => by simp [Op.bytesLess]
  | x :: a, [] => by simp [Op.bytesLess]
  | x :: a, y :: b => by
    have := less_total a b
    simp only [Op.bytesLess, List.cons.injEq, Bool.or_eq_true, Bool.and_eq_true, decide_eq_true_eq, beq_iff_eq]
    rcases Nat.lt_trichotomy x.toNat y.toNat with h | h | h
    · left; left; exact UInt8.lt_iff_toNat_lt.2 h
    · have h := UInt8.toNat_inj.1 h
      subst h
      rcases this with h | h | h
      · left; right; exact ⟨rfl, h⟩
      · right; left; exact ⟨rfl, h⟩
      · right; right; right; exact ⟨rfl, h⟩
    · right; right; left; exact UInt8.lt_iff_toNat_lt.2 h
theorem less_trans : ∀ {a b c : Bs}, Op.bytesLess a b = true → Op.bytesLess b c = true → Op.bytesLess a c = true
  | [], [], _, h, _ => by simp [Op.bytesLess] at h
  | [], _ :: _, [], _, h => by simp [Op.bytesLess] at h
  | [], _ :: _, _ :: _, _, _ => by simp [Op.bytesLess]
  | _ :: _, [], _, h, _ => by simp [Op.bytesLess] at h
  | _ :: _, _ :: _, [], _, h => by simp [Op.bytesLess] at h
  | x :: a, y :: b, z :: c, h, k => by
    simp only [Op.bytesLess, Bool.or_eq_true, Bool.and_eq_true, decide_eq_true_eq, beq_iff_eq, UInt8.lt_iff_toNat_lt] at h k ⊢
    rcases h with h | ⟨rfl, h⟩ <;> rcases k with k | ⟨rfl, k⟩
    · left; omega
    · left; exact h
    · left; exact k
    · right; exact ⟨rfl, less_trans h k⟩
theorem less_asymm {a b : Bs} (h : Op.bytesLess a b = true) : Op.bytesLess b a = false := by
  cases k : Op.bytesLess b a
  · rfl
  · have := less_trans h k
    rw [less_irrefl] at this; cases this

theorem cmpB_zero {a b : Bs} : cmpB a b = 0 ↔ a = b := by
  unfold cmpB
  constructor
  · split
    · intro h; cases h
    · split
      · rename_i h; intro _; exact beq_iff_eq.1 h
      · intro h; cases h
  · rintro rfl
    rw [less_irrefl]; simp
theorem cmpB_lt {a b : Bs} : cmpB a b = -1 ↔ Op.bytesLess a b = true := by
  unfold cmpB
  constructor
  · split
    · intro _; assumption
    · split <;> (intro h; cases h)
  · intro h; rw [if_pos h]
theorem cmpB_gt {a b : Bs} : cmpB a b = 1 ↔ Op.bytesLess b a = true := by
  constructor
  · intro h
    rcases less_total a b with k | k | k
    · rw [cmpB_lt.2 k] at h; cases h
    · rw [cmpB_zero.2 k] at h; cases h
    · exact k
  · intro h
    unfold cmpB
    rw [less_asymm h, if_neg (by simp), if_neg]
    intro e
    have e := beq_iff_eq.1 e
    subst e
    rw [less_irrefl] at h; cases h
theorem cmpB_cases (a b : Bs) : cmpB a b = -1 ∨ cmpB a b = 0 ∨ cmpB a b = 1 := by
  unfold cmpB
  split
  · exact .inl rfl
  · split
    · exact .inr (.inl rfl)
    · exact .inr (.inr rfl)
theorem cmpB_neg (a b : Bs) : cmpB b a = -cmpB a b := by
  rcases cmpB_cases a b with h | h | h
  · rw [h]; exact cmpB_gt.2 (cmpB_lt.1 h)
  · rw [h]; exact cmpB_zero.2 (cmpB_zero.1 h).symm
  · rw [h]; exact cmpB_lt.2 (cmpB_gt.1 h)

/-- The order of names: their labels, the last one first. -/
def cmpL : List Bs → List Bs → Int
  | [], [] => 0
  | [], _ :: _ => -1
  | _ :: _, [] => 1
  | x :: X, y :: Y => if cmpB x y = 0 then cmpL X Y else cmpB x y

theorem cmpL_cases : ∀ X Y : List Bs, cmpL X Y = -1 ∨ cmpL X Y = 0 ∨ cmpL X Y = 1
  | [], [] => by simp [cmpL]
  | [], _ :: _ => by simp [cmpL]
  | _ :: _, [] => by simp [cmpL]
  | x :: X, y :: Y => by
    unfold cmpL
    split
    · exact cmpL_cases X Y
    · exact cmpB_cases x y
theorem cmpL_neg : ∀ X Y : List Bs, cmpL Y X = -cmpL X Y
  | [], [] => by simp [cmpL]
  | [], _ :: _ => by simp [cmpL]
  | _ :: _, [] => by simp [cmpL]
  | x :: X, y :: Y => by
    unfold cmpL
    rw [cmpB_neg x y]
    by_cases h : cmpB x y = 0
    · rw [if_pos h, if_pos (by omega)]; exact cmpL_neg X Y
    · rw [if_neg h, if_neg (by omega)]
theorem cmpL_zero : ∀ {X Y : List Bs}, cmpL X Y = 0 ↔ X = Y
  | [], [] => by simp [cmpL]
  | [], _ :: _ => by simp [cmpL]
  | _ :: _, [] => by simp [cmpL]
  | x :: X, y :: Y => by
    unfold cmpL
    by_cases h : cmpB x y = 0
    · rw [if_pos h, cmpL_zero, List.cons.injEq, cmpB_zero.1 h]; simp
    · rw [if_neg h]
      constructor
      · intro k; exact absurd k h
      · intro k
        injection k with k _
        exact absurd (cmpB_zero.2 k) h
theorem cmpB_trans {a b c : Bs} (h : cmpB a b = -1) (k : cmpB b c = -1) : cmpB a c = -1 := cmpB_lt.2 (less_trans (cmpB_lt.1 h) (cmpB_lt.1 k))
theorem cmpL_trans : ∀ {X Y Z : List Bs}, cmpL X Y ≤ 0 → cmpL Y Z ≤ 0 → cmpL X Z ≤ 0
  | [], _, [], _, _ => by simp [cmpL]
  | [], _, _ :: _, _, _ => by simp [cmpL]
  | _ :: _, [], _, h, _ => by simp [cmpL] at h
  | _ :: _, _ :: _, [], _, h => by simp [cmpL] at h
  | x :: X, y :: Y, z :: Z, h, k => by
    unfold cmpL at h k ⊢
    by_cases h0 : cmpB x y = 0
    · rw [if_pos h0] at h
      obtain rfl := cmpB_zero.1 h0
      by_cases k0 : cmpB x z = 0
      · rw [if_pos k0] at k ⊢; exact cmpL_trans h k
      · rw [if_neg k0] at k ⊢; exact k
    · rw [if_neg h0] at h
      have h1 : cmpB x y = -1 := by have := cmpB_cases x y; omega
      by_cases k0 : cmpB y z = 0
      · obtain rfl := cmpB_zero.1 k0
        rw [if_neg h0]; exact h
      · rw [if_neg k0] at k
        have k1 : cmpB y z = -1 := by have := cmpB_cases y z; omega
        have := cmpB_trans h1 k1
        rw [if_neg (by omega)]; omega

def key (l : Bs) : List Bs := ((labels l).map low).reverse
def comp (a b : Bs) : Int := if can a && can b then cmpL (key a) (key b) else 0

/-- The name of the last labels. -/
def clamp (k : Int) (n : Nat) : Nat := (max 0 (min k n)).toNat
def tail (l : Bs) (k : Int) : Bs := if can l then join ((labels l).drop ((labels l).length - clamp k (labels l).length)) else []
def within (l z : Bs) : Bool := same (tail l (labels z).length) z

theorem join_drop_len (L : List Bs) (i : Nat) : (join (L.drop i)).length ≤ (join L).length := by
  rw [join_len, join_len]
  have e : enc L = enc (L.take i) ++ enc (L.drop i) := by rw [← enc_append, List.take_append_drop]
  have := congrArg List.length e
  simp at this
  omega
theorem can_drop {l : Bs} (h : can l = true) (i : Nat) : can (join ((labels l).drop i)) = true ∧ labels (join ((labels l).drop i)) = (labels l).drop i := by
  obtain ⟨hl, _, e, hL⟩ := can_out h
  refine can_join (fun x hx => hL x (List.mem_of_mem_drop hx)) ?_
  have := join_drop_len (labels l) i
  rw [← e] at this
  omega
end Go.Proofs.YtjhameebehkdjaaGreatDoor
namespace Go.Proofs.YtjhameebehkdjaaGreatDoor
open Go.RowKit

section
variable {P : Program}
theorem wpList_alloc_at {ops : Array Oper} {rest : List Oper} {o : Oper} {a : Act} {w : World} {Q : Exit → Act → World → Prop} (hgd : o.guard = none) (ty : TypeId) (ho : o.op = .alloc ty)
    (i : TypeInfo) (Z : Array Value) (hi : P.info? ty = some i) (hz : i.zero = some (.agg Z))
    (h : wpList P ops Q rest (a.put o.dst (.pointer (some ⟨w.heap.size, 0, none⟩))) (w.alloc (.cells Z ty))) : wpList P ops Q (o :: rest) a w :=
  wpList_plain hgd fun K hK => by
    unfold Oper.wp execOp
    simp only [ho, Instr.alloc, zeroValue, typeInfo, Sem.run_bind, Sem.run_pure]
    simp [hi, hz, newVar, newRow, newObj, Value.cells]
    exact hK _ _ h
end

theorem Below.setRow {B : Nat} {a w : World} (h : Below B a w) {g : Nat} (hg : B ≤ g) (cs : Array Value) : Below B a (w.setRow g cs) :=
  ⟨h.os, h.tape, h.output, by rw [size_setRow]; exact h.size, fun k hk => (setRow_other w g k cs (by omega)).trans (h.block k hk)⟩

theorem below_drewN {B : Nat} {a w : World} (h : Below B a w) (n : Nat) : Below B a (w.drewN n) := ⟨h.os, h.tape, h.output, h.size, h.block⟩

theorem row_set {w : World} {g i : Nat} {cs : Array Value} {t : TypeId} (v : Value) (hg : w.heap[g]? = some (.cells cs t (0, 0))) : (w.setCell ⟨g, i, none⟩ v).heap[g]? = some (.cells (cs.setIfInBounds i v) t (0, 0)) := heap_setCell_same _ _ _ _ _ _ hg
theorem row_other {w : World} {g k i : Nat} {o : Option Obj} (v : Value) (hk : w.heap[k]? = o) (h : k ≠ g) : (w.setCell ⟨g, i, none⟩ v).heap[k]? = o := (heap_setCell_other _ _ _ _ (by simpa using h)).trans hk
theorem row_new {w : World} {k : Nat} (o : Obj) (h : k = w.heap.size) : (w.alloc o).heap[k]? = some o := by subst h; exact heap_alloc_new w o
theorem row_old {w : World} {k : Nat} {x : Obj} (o : Obj) (h : w.heap[k]? = some x) : (w.alloc o).heap[k]? = some x := by
  exact (heap_alloc_old w o (Array.getElem?_eq_some_iff.1 h).1).trans h
theorem row_drew {w : World} {k : Nat} {o : Option Obj} (h : w.heap[k]? = o) : w.drew.heap[k]? = o := h
theorem row_drewN {w : World} {k n : Nat} {o : Option Obj} (h : w.heap[k]? = o) : (w.drewN n).heap[k]? = o := h

end Go.Proofs.YtjhameebehkdjaaGreatDoor
namespace Go.Proofs.YtjhameebehkdjaaGreatDoor
open Go.RowKit

/-- A slice of strings reads as a list. -/
def Strs (w : World) (A : Option Addr) (L : List Bs) : Prop := 0 < L.length → ∃ g off, A = some ⟨g, off, none⟩ ∧ ∀ j (h : j < L.length), w.cell? ⟨g, off + j, none⟩ = some (.string (bs L[j]))
theorem Strs.on {w w1 : World} {A : Option Addr} {L : List Bs} (h : Strs w A L) (hB : Below w.heap.size w w1) : Strs w1 A L := fun hn => by
  obtain ⟨g, off, e, hc⟩ := h hn
  exact ⟨g, off, e, fun j hj => (hB.cell (p := ⟨g, off + j, none⟩) (World.block_lt_of_cell? w _ (hc j hj))).trans (hc j hj)⟩

theorem one_string (w : World) (n : Nat) (h : n ≤ 63) : (convert 29 9 (.slice (some ⟨w.heap.size, 0, none⟩) 1 1)).run Tryz.prog (w.alloc (Obj.cells #[.int .u8 n] 5 (0, 0))) = .ok (.string (bs [UInt8.ofNat n])) (w.alloc (Obj.cells #[.int .u8 n] 5 (0, 0))) :=
  run_convert_bytes_back (P := Tryz.prog) _ 29 9 5 ⟨w.heap.size, 0, none⟩ 1 [UInt8.ofNat n] Tryz.underlying29 Tryz.underlying5 Tryz.underlying9 (fun j hj => by
    have : j = 0 := by simp at hj; omega
    subst this
    have e : (UInt8.ofNat n).toNat = n := by simp; omega
    refine (cell_of_row _ _ _ _ _ _ (row_new _ rfl)).trans ?_
    simp; omega)

theorem enc_short : ∀ {L : List Bs}, (∀ x ∈ L, x.length ≤ 63) → (enc L).length ≤ 64 * L.length
  | [], _ => by simp [enc]
  | x :: L, h => by
    have := enc_short (L := L) fun y hy => h y (by simp [hy])
    have := h x (by simp)
    rw [enc_len_cons]
    simp; omega
theorem enc_one (x : Bs) : enc [x] = UInt8.ofNat x.length :: x := by simp [enc]

/-- A slice of bytes reads as a list. -/
def Bys (w : World) (A : Option Addr) (l : Bs) : Prop := 0 < l.length → ∃ g off, A = some ⟨g, off, none⟩ ∧ ∀ j (h : j < l.length), w.cell? ⟨g, off + j, none⟩ = some (.int .u8 (l[j]).toNat)
theorem Bys.on {w w1 : World} {A : Option Addr} {L : Bs} (h : Bys w A L) (hB : Below w.heap.size w w1) : Bys w1 A L := fun hn => by
  obtain ⟨g, off, e, hc⟩ := h hn
  exact ⟨g, off, e, fun j hj => (hB.cell (p := ⟨g, off + j, none⟩) (World.block_lt_of_cell? w _ (hc j hj))).trans (hc j hj)⟩

def tab (r : Nat) : Bs := match r with
  | 0 => [97]
  | 1 => [98]
  | 2 => [119, 119, 119]
  | 3 => [110, 115]
  | 4 => [65]
  | _ => [120, 45, 49]
def nameOf (l : Bs) : List Bs := (l.take 4).map fun c => tab (c.toNat % 6)
theorem tab_lab (r : Nat) : Lab (tab r) := by
  unfold tab Lab
  split <;> decide
theorem nameOf_lab (l : Bs) : ∀ x ∈ nameOf l, Lab x := by
  intro x hx
  obtain ⟨c, _, rfl⟩ := List.mem_map.1 hx
  exact tab_lab _

theorem info_str : (Tryz.prog.info? 9).map (fun i => (i.zero, i.size, i.bytes)) = some (some (.string ⟨#[]⟩), 1, 16) := by kernel_rfl
theorem own_strs {w : World} {B : Nat} {A : Option Addr} {n c : Nat} {L : List Bs} (h : w.ownsRow B 9 1 (.slice A n c) n (L.map fun x => .string (bs x))) : n = L.length ∧ Strs w A L := by
  have hl := h.1
  simp at hl
  refine ⟨hl.symm, fun hn => ?_⟩
  rcases h.2 with ⟨_, h0⟩ | ⟨g, cap, cur, hv, _, hh, _, _, hsz, ht⟩
  · omega
  · have hA : A = some ⟨g, 0, none⟩ := by injection hv
    subst hA
    refine ⟨g, 0, rfl, fun j hj => ?_⟩
    refine (cell_of_row _ _ _ _ _ _ hh).trans ?_
    have e := congrArg (fun x => x[j]?) ht
    simp [hj] at e
    rw [List.getElem?_take_of_lt (by omega)] at e
    simpa using e


end Go.Proofs.YtjhameebehkdjaaGreatDoor
namespace Go.Proofs.YtjhameebehkdjaaGreatDoor
open Go.RowKit









theorem byte_lt (l : Bs) (n : Nat) (h : n < l.length) : (l[n]).toNat ≤ 255 := by have := (l[n]).toNat_lt; omega

theorem labs_at {l : Bs} {n : Nat} (hn : n < l.length) : labs (l.drop n) = if (l[n]).toNat = 0 then (if l.drop (n + 1) = [] then some [] else none) else if 63 < (l[n]).toNat then none else (labs (l.drop (n + 1 + (l[n]).toNat))).map ((l.drop (n + 1)).take (l[n]).toNat :: ·) := by
  rw [List.drop_eq_getElem_cons hn, labs, List.drop_drop]

theorem labs_short {l : Bs} {n : Nat} (h : l.length ≤ n) : labs (l.drop n) = none := by
  rw [List.drop_eq_nil_of_le h, labs]

theorem enc_snoc (D : List Bs) (x : Bs) : (enc (D ++ [x])).length = (enc D).length + 1 + x.length := by
  rw [enc_append]; simp [enc]; omega

theorem st_old {D : List Bs} {x : Bs} {i : Nat} (h : i ≤ D.length) : st (D ++ [x]) i = st D i := by
  unfold st; rw [List.take_append_of_le_length h]
theorem st_all (D : List Bs) : st D D.length = (enc D).length := by unfold st; rw [List.take_length]



theorem can_none {l : Bs} (h : labs l = none) : can l = false := by unfold can; simp [h]






end Go.Proofs.YtjhameebehkdjaaGreatDoor
namespace Go.Proofs.YtjhameebehkdjaaGreatDoor
open Go.RowKit
set_option linter.unusedVariables false
set_option maxRecDepth 100000




theorem st_at {L : List Bs} {i : Nat} (h : i < L.length) : st L (i + 1) = st L i + 1 + (L[i]).length := by
  unfold st
  rw [List.take_succ_eq_append_getElem h, enc_snoc]

/-- A name's bytes from the i-th label on. -/
theorem drop_st (L : List Bs) (i : Nat) : (join L).drop (st L i) = join (L.drop i) := by
  have e : enc L = enc (L.take i) ++ enc (L.drop i) := by rw [← enc_append, List.take_append_drop]
  unfold join st
  rw [e, List.append_assoc, List.drop_left]

theorem label_bytes {L : List Bs} {i : Nat} (h : i < L.length) : ((join L).drop (st L i + 1)).take (st L (i + 1) - (st L i + 1)) = L[i] := by
  rw [← List.drop_drop, drop_st, List.drop_eq_getElem_cons h, st_at h]
  unfold join enc
  simp only [List.cons_append, List.drop_succ_cons, List.drop_zero]
  rw [show st L i + 1 + (L[i]).length - (st L i + 1) = (L[i]).length by omega, List.append_assoc, List.take_left]

theorem st_le {L : List Bs} {i : Nat} (h : i ≤ L.length) : st L i < (join L).length := by
  have := congrArg List.length (drop_st L i)
  simp [join] at this ⊢
  omega

theorem slice_label {l : Bs} {L : List Bs} {i : Nat} (hj : l = join L) (hi : i < L.length) (wx : World) : (Instr.slice 9 (.string (bs l)) (some (.int .i64 ((st L i : Int) + 1))) (some (.int .u8 (st L (i + 1)))) none).run Tryz.prog wx = .ok (.string (bs (L[i]))) wx := by
  subst hj
  have h1 := st_at hi
  have h2 := st_le (L := L) (i := i + 1) (by omega)
  rw [run_slice_string wx 9 _ _ _ _ _ Tryz.underlying9 (by omega) (by omega) (by rw [bs_size]; omega), bs_extract]
  rw [show ((st L i : Int) + 1).toNat = st L i + 1 by omega, Int.toNat_natCast, label_bytes hi]


end Go.Proofs.YtjhameebehkdjaaGreatDoor
namespace Go.Proofs.YtjhameebehkdjaaGreatDoor
open Go.RowKit




def cmpI (a b : Int) : Int := if a < b then -1 else if b < a then 1 else 0

theorem info_u8 : (Tryz.prog.info? 5).map (fun i => (i.zero, i.size, i.bytes)) = some (some (.int .u8 0), 1, 1) := by kernel_rfl


end Go.Proofs.YtjhameebehkdjaaGreatDoor
namespace Go.Proofs.YtjhameebehkdjaaGreatDoor
open Go.RowKit
set_option linter.unusedVariables false
set_option maxRecDepth 100000

/-- Bytes in a row of the call's own. -/
structure Byt (w : World) (g : Nat) (l : Bs) : Prop where
  cell : ∀ j (h : j < l.length), w.cell? ⟨g, j, none⟩ = some (.int .u8 (l[j]).toNat)
  free : ∀ j, j < l.length → w.frozen? ⟨g, j, none⟩ = false
  lt : g < w.heap.size

theorem Byt.set {w : World} {g : Nat} {l : Bs} (h : Byt w g l) {k : Nat} (v : UInt8) {n : Int} (hn : n = v.toNat) : Byt (w.setCell ⟨g, k, none⟩ (.int .u8 n)) g (l.set k v) := by
  subst hn
  refine ⟨fun j hj => ?_, fun j hj => ?_, by simpa using h.lt⟩
  · have hj' : j < l.length := by simpa using hj
    by_cases e : k = j
    · subst e
      have hc := h.cell k hj'
      rw [World.cell?_setCell_same _ _ _ hc]
      simp
    · rw [World.cell?_setCell_other _ _ _ _ (fun h => e (by injection h)), h.cell j hj']
      simp [e]
  · have hj' : j < l.length := by simpa using hj
    rw [World.frozen?_setCell]; exact h.free j hj'

theorem conv_bytes (l : Bs) (w : World) : ∃ cap w1, (convert 9 29 (.string (bs l))).run Tryz.prog w = .ok (.slice (some ⟨w.heap.size, 0, none⟩) l.length cap) w1 ∧ Byt w1 w.heap.size l ∧ Below w.heap.size w w1 := by
  have hr := run_bytes_of_string (P := Tryz.prog) w 9 29 5 (bs l) Tryz.underlying9 Tryz.underlying29 Tryz.underlying5
  rw [bs_size] at hr
  have hrow := row_new (w := w.drew) (k := w.heap.size) (.cells (bytesRow (bs l) (grownCap w l.length 0 5)) 5 ((bytesRow (bs l) (grownCap w l.length 0 5)).size, (bytesRow (bs l) (grownCap w l.length 0 5)).size + 1)) rfl
  refine ⟨_, _, hr, ⟨fun j hj => ?_, fun j hj => ?_, by simp⟩, ?_⟩
  · refine (cell_of_row _ _ _ _ _ _ hrow).trans ?_
    simp [bytesRow, Array.getElem?_append, hj]
  · unfold World.frozen?
    rw [hrow]
    simp [bytesRow]
    intros; omega
  · exact Below.alloc (Below.drew (Below.refl _ _)) (Nat.le_refl _) _

def mix (l : Bs) (k : Nat) : Bs := low (l.take k) ++ l.drop k
theorem mix_len (l : Bs) (k : Nat) : (mix l k).length = l.length := by
  unfold mix; rw [List.length_append, low_len, List.length_take, List.length_drop]; omega
theorem mix_zero (l : Bs) : mix l 0 = l := rfl
theorem mix_all (l : Bs) : mix l l.length = low l := by simp [mix]
theorem mix_at (l : Bs) (k : Nat) (h : k < l.length) : (mix l k)[k]'(by rw [mix_len]; exact h) = l[k] := by
  unfold mix
  rw [List.getElem_append_right (by rw [low_len, List.length_take]; omega)]
  simp [low_len, Nat.min_eq_left (Nat.le_of_lt h)]
theorem mix_set (l : Bs) (k : Nat) (h : k < l.length) : (mix l k).set k (small l[k]) = mix l (k + 1) := by
  unfold mix
  rw [List.set_append_right _ _ (by rw [low_len, List.length_take]; omega), low_len, List.length_take, Nat.min_eq_left (Nat.le_of_lt h), Nat.sub_self]
  rw [List.drop_eq_getElem_cons h, List.set_cons_zero, List.take_succ_eq_append_getElem h, low_append, List.append_assoc]
  rfl
theorem mix_same (l : Bs) (k : Nat) (h : k < l.length) (hs : small l[k] = l[k]) : mix l k = mix l (k + 1) := by
  have e := mix_set l k h
  rw [hs, ← mix_at l k h, List.set_getElem_self] at e
  exact e





end Go.Proofs.YtjhameebehkdjaaGreatDoor
