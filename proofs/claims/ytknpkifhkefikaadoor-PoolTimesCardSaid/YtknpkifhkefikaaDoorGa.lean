/-
  Names as lists of bytes and of labels: no program, no memory.
  Names as lists: small letters, sameness, order, the last labels. No program, no memory.
  Blocks of many cells, allocated, loaded and stored whole: laws for the walk.
  The document's Join, and the statements' Name.
  name.split: a name's places.
  name.Can, name.Count, and one label of a name.
  cmp.Compare of two strings and of two numbers; strings.Clone.
  name.Lower and name.Same.
-/
import Derived.Laws.Concat
import Derived.Laws.Strings2
import Derived.Handy
import GoSem.Op.String
import Derived.WalkKit
import Derived.WalkLawsBesides
import Derived.WalkSpells
import Derived.Laws.Rows
import Derived.Laws.ResultCell
import Derived.Deep.Draws
import Derived.Lib.Hide
import Derived.Test.YtknpkifhkefikaaDoorProg
import Derived.Laws.IdiomStrings
import Derived.LoopTactic
import Derived.OwnWalk
import Derived.Deep.AppendLies
import Derived.Deep.QuietTactic
import Derived.BigQuiet
import Derived.IntWalk
import Derived.Lib.Strings
import Derived.Lib.Walk
import Derived.Lib.BufferWrite
import Derived.Lib.UnsafeStr
import Derived.Laws.MakeOwn
namespace Go.Proofs.YtknpkifhkefikaaDoor

abbrev Bs := List UInt8
/-- The string of bytes. -/
abbrev bs (l : Bs) : ByteArray := ⟨l.toArray⟩
theorem bs_list (s : ByteArray) : s = bs s.data.toList := by cases s; rfl
theorem bs_size (l : Bs) : (bs l).size = l.length := by simp [ByteArray.size]
theorem bs_toList (l : Bs) : (bs l).toList = l := by rw [ByteArray.toList_eq]
theorem bs_extract (l : Bs) (a b : Nat) : (bs l).extract a b = bs ((l.drop a).take (b - a)) := ByteArray.extract_mk l a b
theorem bs_append (a b : Bs) : bs a ++ bs b = bs (a ++ b) := ByteArray.mk_append_mk a b
theorem bs_at (l : Bs) (i : Nat) (h : i < (bs l).size) : (bs l)[i] = l[i]'(by simpa [ByteArray.size] using h) := rfl
theorem bs_inj {a b : Bs} (h : bs a = bs b) : a = b := by injection h with h; exact List.toArray_inj h

/-- The labels of bytes that begin where a label begins, where they are a name's; the length plays no part. -/
def labs : Bs → Option (List Bs)
  | [] => none
  | k :: r => if k.toNat = 0 then (if r = [] then some [] else none) else if 63 < k.toNat then none else (labs (r.drop k.toNat)).map (r.take k.toNat :: ·)
termination_by l => l.length
decreasing_by simp; omega

/-- Labels, each with its length ahead. -/
def enc : List Bs → Bs
  | [] => []
  | x :: L => UInt8.ofNat x.length :: (x ++ enc L)
def join (L : List Bs) : Bs := enc L ++ [0]
def Lab (x : Bs) : Prop := 1 ≤ x.length ∧ x.length ≤ 63

theorem enc_append (A B : List Bs) : enc (A ++ B) = enc A ++ enc B := by
  induction A with
  | nil => rfl
  | cons x A ih => simp [enc, ih]
theorem toNat_len {x : Bs} (h : Lab x) : (UInt8.ofNat x.length).toNat = x.length := by
  have := h.2
  simp; omega

theorem labs_join : ∀ {L : List Bs}, (∀ x ∈ L, Lab x) → labs (join L) = some L
  | [], _ => by unfold join enc; rw [List.nil_append, labs]; simp
  | x :: L, h => by
    have hx := h x (by simp)
    have hn := toNat_len hx
    have ih := labs_join (L := L) fun y hy => h y (by simp [hy])
    unfold join at ih ⊢
    unfold enc
    rw [List.cons_append, labs, hn, if_neg (by have := hx.1; omega), if_neg (by have := hx.2; omega), List.append_assoc, List.drop_left, List.take_left, ih]
    rfl

theorem labs_some : ∀ (n : Nat) {l : Bs} {L : List Bs}, l.length ≤ n → labs l = some L → l = join L ∧ ∀ x ∈ L, Lab x
  | _, [], L, _, h => by rw [labs] at h; simp at h
  | 0, k :: r, L, hn, h => by simp at hn
  | n + 1, k :: r, L, hn, h => by
    rw [labs] at h
    split at h
    · rename_i h0
      split at h
      · rename_i hr
        obtain rfl := Option.some.inj h
        subst hr
        refine ⟨?_, by simp⟩
        have : k = 0 := UInt8.toNat_inj.1 (by simpa using h0)
        simp [join, enc, this]
      · simp at h
    · rename_i h0
      split at h
      · simp at h
      · rename_i h6
        cases hd : labs (r.drop k.toNat) with
        | none => simp [hd] at h
        | some M =>
          rw [hd] at h
          obtain rfl := Option.some.inj h
          obtain ⟨e, hM⟩ := labs_some n (by simp at hn ⊢; omega) hd
          have hlen : k.toNat < r.length := by
            have := congrArg List.length e
            simp [join] at this
            omega
          have ht : (r.take k.toNat).length = k.toNat := by simp; omega
          refine ⟨?_, ?_⟩
          · unfold join enc
            rw [ht, List.cons_append, List.append_assoc]
            have : enc M ++ [0] = r.drop k.toNat := e.symm
            rw [this, List.take_append_drop]
            simp
          · intro x hx
            rcases List.mem_cons.1 hx with rfl | hx
            · exact ⟨by omega, by omega⟩
            · exact hM x hx

/-- Bytes are a name. -/
def can (l : Bs) : Bool := decide (l.length ≤ 255) && (labs l).isSome
def labels (l : Bs) : List Bs := if can l then (labs l).getD [] else []

theorem can_out {l : Bs} (h : can l = true) : l.length ≤ 255 ∧ labs l = some (labels l) ∧ l = join (labels l) ∧ ∀ x ∈ labels l, Lab x := by
  have hc := h
  unfold can at h
  simp only [Bool.and_eq_true, decide_eq_true_eq] at h
  obtain ⟨L, hL⟩ := Option.isSome_iff_exists.1 h.2
  have hl : labels l = L := by unfold labels; rw [if_pos hc, hL]; rfl
  obtain ⟨e, hM⟩ := labs_some _ (Nat.le_refl _) hL
  rw [hl]
  exact ⟨h.1, hL, e, hM⟩
theorem can_join {L : List Bs} (h : ∀ x ∈ L, Lab x) (hl : (join L).length ≤ 255) : can (join L) = true ∧ labels (join L) = L := by
  have e := labs_join h
  have hc : can (join L) = true := by unfold can; simp [e, hl]
  exact ⟨hc, by unfold labels; rw [if_pos hc, e]; rfl⟩
theorem labels_no {l : Bs} (h : can l = false) : labels l = [] := by unfold labels; rw [if_neg (by simp [h])]
theorem can_long {l : Bs} (h : 255 < l.length) : can l = false := by unfold can; simp; omega

/-- Where the i-th label begins. -/
def st (L : List Bs) (i : Nat) : Nat := (enc (L.take i)).length

theorem enc_len_cons (x : Bs) (L : List Bs) : (enc (x :: L)).length = 1 + x.length + (enc L).length := by simp [enc]; omega
theorem enc_ge : ∀ {L : List Bs}, (∀ x ∈ L, Lab x) → 2 * L.length ≤ (enc L).length
  | [], _ => by simp [enc]
  | x :: L, h => by
    have := enc_ge (L := L) fun y hy => h y (by simp [hy])
    have := (h x (by simp)).1
    rw [enc_len_cons]
    simp; omega
theorem join_len (L : List Bs) : (join L).length = (enc L).length + 1 := by simp [join]
theorem can_count {l : Bs} (h : can l = true) : (labels l).length ≤ 127 := by
  obtain ⟨h1, _, e, hL⟩ := can_out h
  have := enc_ge hL
  have := congrArg List.length e
  rw [join_len] at this
  omega
end Go.Proofs.YtknpkifhkefikaaDoor
namespace Go.Proofs.YtknpkifhkefikaaDoor

def small (b : UInt8) : UInt8 := if 65 ≤ b.toNat ∧ b.toNat ≤ 90 then b + 32 else b
def low (l : Bs) : Bs := l.map small

theorem low_len (l : Bs) : (low l).length = l.length := by simp [low]
theorem small_nat (b : UInt8) : (small b).toNat = if 65 ≤ b.toNat ∧ b.toNat ≤ 90 then b.toNat + 32 else b.toNat := by
  unfold small
  split
  · rw [UInt8.toNat_add]
    have : (32 : UInt8).toNat = 32 := rfl
    omega
  · rfl
theorem small_small (b : UInt8) : small (small b) = small b := by
  apply UInt8.toNat_inj.1
  rw [small_nat (small b), small_nat b]
  split <;> (try split) <;> omega
theorem low_low (l : Bs) : low (low l) = low l := by simp [low, small_small]
theorem small_of {n : Nat} (h : n ≤ 63) : small (UInt8.ofNat n) = UInt8.ofNat n := by
  unfold small
  rw [if_neg]
  have : (UInt8.ofNat n).toNat = n := by simp; omega
  omega
theorem low_append (a b : Bs) : low (a ++ b) = low a ++ low b := by simp [low]
theorem low_enc : ∀ {L : List Bs}, (∀ x ∈ L, Lab x) → low (enc L) = enc (L.map low)
  | [], _ => rfl
  | x :: L, h => by
    have ih := low_enc (L := L) fun y hy => h y (by simp [hy])
    have hx := (h x (by simp)).2
    simp only [enc, List.map_cons, low_len]
    rw [← ih, ← low_append]
    show small _ :: _ = _
    rw [small_of hx]; rfl
theorem low_join {L : List Bs} (h : ∀ x ∈ L, Lab x) : low (join L) = join (L.map low) := by
  unfold join
  rw [low_append, low_enc h]; rfl
theorem lab_low {x : Bs} (h : Lab x) : Lab (low x) := by unfold Lab; rw [low_len]; exact h
theorem labs_low {L : List Bs} (h : ∀ x ∈ L, Lab x) : ∀ x ∈ L.map low, Lab x := by
  intro x hx
  obtain ⟨y, hy, rfl⟩ := List.mem_map.1 hx
  exact lab_low (h y hy)

def lower (l : Bs) : Bs := if can l then low l else []
theorem lower_yes {l : Bs} (h : can l = true) : lower l = low l := by unfold lower; rw [if_pos h]
theorem lower_no {l : Bs} (h : can l = false) : lower l = [] := by unfold lower; rw [if_neg (by simp [h])]

theorem can_low {l : Bs} (h : can l = true) : can (low l) = true ∧ labels (low l) = (labels l).map low := by
  obtain ⟨hl, _, e, hL⟩ := can_out h
  have e2 : low l = join ((labels l).map low) := by rw [← low_join hL, ← e]
  have := can_join (labs_low hL) (by rw [← e2, low_len]; exact hl)
  rw [← e2] at this
  exact this
theorem can_nil : can [] = false := by unfold can; rw [labs]; rfl
theorem can_ne {l : Bs} (h : can l = true) : l ≠ [] := fun e => by rw [e, can_nil] at h; cases h
theorem low_nil {l : Bs} (h : low l = []) : l = [] := by
  have := low_len l
  rw [h] at this
  exact List.eq_nil_of_length_eq_zero this.symm
theorem lower_len (l : Bs) : (lower l).length ≤ l.length := by unfold lower; split <;> simp [low_len]
theorem lower_len_le (l : Bs) : (lower l).length ≤ 255 := by
  cases h : can l
  · rw [lower_no h]; simp
  · rw [lower_yes h, low_len]; exact (can_out h).1

theorem can_lower (l : Bs) : can (lower l) = can l := by
  cases h : can l
  · rw [lower_no h, can_nil]
  · rw [lower_yes h, (can_low h).1]
theorem labels_lower (l : Bs) : labels (lower l) = (labels l).map low := by
  cases h : can l
  · rw [lower_no h, labels_no can_nil, labels_no h]; rfl
  · rw [lower_yes h, (can_low h).2]

/-- Whether two names are the same. -/
def same (a b : Bs) : Bool := can a && can b && low a == low b
theorem same_code (a b : Bs) : (!(lower a == []) && lower a == lower b) = same a b := by
  unfold same
  cases ha : can a
  · rw [lower_no ha]; simp
  · have h1 : low a ≠ [] := fun e => can_ne ha (low_nil e)
    rw [lower_yes ha]
    cases hb : can b
    · rw [lower_no hb]; simp
    · rw [lower_yes hb]; simp [h1]

/-- The order of bytes. -/
def cmpB (a b : Bs) : Int := if Op.bytesLess a b then -1 else if a == b then 0 else 1

theorem less_irrefl : ∀ a : Bs, Op.bytesLess a a = false
  | [] => rfl
  | x :: a => by simp [Op.bytesLess, less_irrefl a]
theorem less_total : ∀ a b : Bs, Op.bytesLess a b = true ∨ a = b ∨ Op.bytesLess b a = true
  | [], [] => by simp
  | [], y :: b => by simp [Op.bytesLess]
  | x :: a, [] => by simp [Op.bytesLess]
  | x :: a, y :: b => by
    have := less_total a b
    simp only [Op.bytesLess, List.cons.injEq, Bool.or_eq_true, Bool.and_eq_true, decide_eq_true_eq, beq_iff_eq]
    rcases Nat.lt_trichotomy x.toNat y.toNat with h | h | h
    · left; left; exact UInt8.lt_iff_toNat_lt.2 h
    · have h := UInt8.toNat_inj.1 h
      subst h
      rcases this with h | h | h
      · left; right; exact ⟨rfl, h⟩
      · right; left; exact ⟨rfl, h⟩
      · right; right; right; exact ⟨rfl, h⟩
    · right; right; left; exact UInt8.lt_iff_toNat_lt.2 h
theorem less_trans : ∀ {a b c : Bs}, Op.bytesLess a b = true → Op.bytesLess b c = true → Op.bytesLess a c = true
  | [], [], _, h, _ => by simp [Op.bytesLess] at h
  | [], _ :: _, [], _, h => by simp [Op.bytesLess] at h
  | [], _ :: _, _ :: _, _, _ => by simp [Op.bytesLess]
  | _ :: _, [], _, h, _ => by simp [Op.bytesLess] at h
  | _ :: _, _ :: _, [], _, h => by simp [Op.bytesLess] at h
  | x :: a, y :: b, z :: c, h, k => by
    simp only [Op.bytesLess, Bool.or_eq_true, Bool.and_eq_true, decide_eq_true_eq, beq_iff_eq, UInt8.lt_iff_toNat_lt] at h k ⊢
    rcases h with h | ⟨rfl, h⟩ <;> rcases k with k | ⟨rfl, k⟩
    · left; omega
    · left; exact h
    · left; exact k
    · right; exact ⟨rfl, less_trans h k⟩
theorem less_asymm {a b : Bs} (h : Op.bytesLess a b = true) : Op.bytesLess b a = false := by
  cases k : Op.bytesLess b a
  · rfl
  · have := less_trans h k
    rw [less_irrefl] at this; cases this

theorem cmpB_zero {a b : Bs} : cmpB a b = 0 ↔ a = b := by
  unfold cmpB
  constructor
  · split
    · intro h; cases h
    · split
      · rename_i h; intro _; exact beq_iff_eq.1 h
      · intro h; cases h
  · rintro rfl
    rw [less_irrefl]; simp
theorem cmpB_lt {a b : Bs} : cmpB a b = -1 ↔ Op.bytesLess a b = true := by
  unfold cmpB
  constructor
  · split
    · intro _; assumption
    · split <;> (intro h; cases h)
  · intro h; rw [if_pos h]
theorem cmpB_gt {a b : Bs} : cmpB a b = 1 ↔ Op.bytesLess b a = true := by
  constructor
  · intro h
    rcases less_total a b with k | k | k
    · rw [cmpB_lt.2 k] at h; cases h
    · rw [cmpB_zero.2 k] at h; cases h
    · exact k
  · intro h
    unfold cmpB
    rw [less_asymm h, if_neg (by simp), if_neg]
    intro e
    have e := beq_iff_eq.1 e
    subst e
    rw [less_irrefl] at h; cases h
theorem cmpB_cases (a b : Bs) : cmpB a b = -1 ∨ cmpB a b = 0 ∨ cmpB a b = 1 := by
  unfold cmpB
  split
  · exact .inl rfl
  · split
    · exact .inr (.inl rfl)
    · exact .inr (.inr rfl)
theorem cmpB_neg (a b : Bs) : cmpB b a = -cmpB a b := by
  rcases cmpB_cases a b with h | h | h
  · rw [h]; exact cmpB_gt.2 (cmpB_lt.1 h)
  · rw [h]; exact cmpB_zero.2 (cmpB_zero.1 h).symm
  · rw [h]; exact cmpB_lt.2 (cmpB_gt.1 h)

/-- The order of names: their labels, the last one first. -/
def cmpL : List Bs → List Bs → Int
  | [], [] => 0
  | [], _ :: _ => -1
  | _ :: _, [] => 1
  | x :: X, y :: Y => if cmpB x y = 0 then cmpL X Y else cmpB x y

theorem cmpL_cases : ∀ X Y : List Bs, cmpL X Y = -1 ∨ cmpL X Y = 0 ∨ cmpL X Y = 1
  | [], [] => by simp [cmpL]
  | [], _ :: _ => by simp [cmpL]
  | _ :: _, [] => by simp [cmpL]
  | x :: X, y :: Y => by
    unfold cmpL
    split
    · exact cmpL_cases X Y
    · exact cmpB_cases x y
theorem cmpL_neg : ∀ X Y : List Bs, cmpL Y X = -cmpL X Y
  | [], [] => by simp [cmpL]
  | [], _ :: _ => by simp [cmpL]
  | _ :: _, [] => by simp [cmpL]
  | x :: X, y :: Y => by
    unfold cmpL
    rw [cmpB_neg x y]
    by_cases h : cmpB x y = 0
    · rw [if_pos h, if_pos (by omega)]; exact cmpL_neg X Y
    · rw [if_neg h, if_neg (by omega)]
theorem cmpL_zero : ∀ {X Y : List Bs}, cmpL X Y = 0 ↔ X = Y
  | [], [] => by simp [cmpL]
  | [], _ :: _ => by simp [cmpL]
  | _ :: _, [] => by simp [cmpL]
  | x :: X, y :: Y => by
    unfold cmpL
    by_cases h : cmpB x y = 0
    · rw [if_pos h, cmpL_zero, List.cons.injEq, cmpB_zero.1 h]; simp
    · rw [if_neg h]
      constructor
      · intro k; exact absurd k h
      · intro k
        injection k with k _
        exact absurd (cmpB_zero.2 k) h
theorem cmpB_trans {a b c : Bs} (h : cmpB a b = -1) (k : cmpB b c = -1) : cmpB a c = -1 := cmpB_lt.2 (less_trans (cmpB_lt.1 h) (cmpB_lt.1 k))
theorem cmpL_trans : ∀ {X Y Z : List Bs}, cmpL X Y ≤ 0 → cmpL Y Z ≤ 0 → cmpL X Z ≤ 0
  | [], _, [], _, _ => by simp [cmpL]
  | [], _, _ :: _, _, _ => by simp [cmpL]
  | _ :: _, [], _, h, _ => by simp [cmpL] at h
  | _ :: _, _ :: _, [], _, h => by simp [cmpL] at h
  | x :: X, y :: Y, z :: Z, h, k => by
    unfold cmpL at h k ⊢
    by_cases h0 : cmpB x y = 0
    · rw [if_pos h0] at h
      obtain rfl := cmpB_zero.1 h0
      by_cases k0 : cmpB x z = 0
      · rw [if_pos k0] at k ⊢; exact cmpL_trans h k
      · rw [if_neg k0] at k ⊢; exact k
    · rw [if_neg h0] at h
      have h1 : cmpB x y = -1 := by have := cmpB_cases x y; omega
      by_cases k0 : cmpB y z = 0
      · obtain rfl := cmpB_zero.1 k0
        rw [if_neg h0]; exact h
      · rw [if_neg k0] at k
        have k1 : cmpB y z = -1 := by have := cmpB_cases y z; omega
        have := cmpB_trans h1 k1
        rw [if_neg (by omega)]; omega

def key (l : Bs) : List Bs := ((labels l).map low).reverse
def comp (a b : Bs) : Int := if can a && can b then cmpL (key a) (key b) else 0

/-- The name of the last labels. -/
def clamp (k : Int) (n : Nat) : Nat := (max 0 (min k n)).toNat
def tail (l : Bs) (k : Int) : Bs := if can l then join ((labels l).drop ((labels l).length - clamp k (labels l).length)) else []
def within (l z : Bs) : Bool := same (tail l (labels z).length) z

theorem join_drop_len (L : List Bs) (i : Nat) : (join (L.drop i)).length ≤ (join L).length := by
  rw [join_len, join_len]
  have e : enc L = enc (L.take i) ++ enc (L.drop i) := by rw [← enc_append, List.take_append_drop]
  have := congrArg List.length e
  simp at this
  omega
theorem can_drop {l : Bs} (h : can l = true) (i : Nat) : can (join ((labels l).drop i)) = true ∧ labels (join ((labels l).drop i)) = (labels l).drop i := by
  obtain ⟨hl, _, e, hL⟩ := can_out h
  refine can_join (fun x hx => hL x (List.mem_of_mem_drop hx)) ?_
  have := join_drop_len (labels l) i
  rw [← e] at this
  omega
end Go.Proofs.YtknpkifhkefikaaDoor
namespace Go.Proofs.YtknpkifhkefikaaDoor
open Go.RowKit

section
variable {P : Program}
theorem wpList_alloc_at {ops : Array Oper} {rest : List Oper} {o : Oper} {a : Act} {w : World} {Q : Exit → Act → World → Prop} (hgd : o.guard = none) (ty : TypeId) (ho : o.op = .alloc ty)
    (i : TypeInfo) (Z : Array Value) (hi : P.info? ty = some i) (hz : i.zero = some (.agg Z))
    (h : wpList P ops Q rest (a.put o.dst (.pointer (some ⟨w.heap.size, 0, none⟩))) (w.alloc (.cells Z ty))) : wpList P ops Q (o :: rest) a w :=
  wpList_plain hgd fun K hK => by
    unfold Oper.wp execOp
    simp only [ho, Instr.alloc, zeroValue, typeInfo, Sem.run_bind, Sem.run_pure]
    simp [hi, hz, newVar, newRow, newObj, Value.cells]
    exact hK _ _ h
end

theorem Below.setRow {B : Nat} {a w : World} (h : Below B a w) {g : Nat} (hg : B ≤ g) (cs : Array Value) : Below B a (w.setRow g cs) :=
  ⟨h.os, h.tape, h.output, by rw [size_setRow]; exact h.size, fun k hk => (setRow_other w g k cs (by omega)).trans (h.block k hk)⟩

theorem below_drewN {B : Nat} {a w : World} (h : Below B a w) (n : Nat) : Below B a (w.drewN n) := ⟨h.os, h.tape, h.output, h.size, h.block⟩

theorem row_set {w : World} {g i : Nat} {cs : Array Value} {t : TypeId} (v : Value) (hg : w.heap[g]? = some (.cells cs t (0, 0))) : (w.setCell ⟨g, i, none⟩ v).heap[g]? = some (.cells (cs.setIfInBounds i v) t (0, 0)) := heap_setCell_same _ _ _ _ _ _ hg
theorem row_other {w : World} {g k i : Nat} {o : Option Obj} (v : Value) (hk : w.heap[k]? = o) (h : k ≠ g) : (w.setCell ⟨g, i, none⟩ v).heap[k]? = o := (heap_setCell_other _ _ _ _ (by simpa using h)).trans hk
theorem row_new {w : World} {k : Nat} (o : Obj) (h : k = w.heap.size) : (w.alloc o).heap[k]? = some o := by subst h; exact heap_alloc_new w o
theorem row_old {w : World} {k : Nat} {x : Obj} (o : Obj) (h : w.heap[k]? = some x) : (w.alloc o).heap[k]? = some x := by
  exact (heap_alloc_old w o (Array.getElem?_eq_some_iff.1 h).1).trans h
theorem row_drew {w : World} {k : Nat} {o : Option Obj} (h : w.heap[k]? = o) : w.drew.heap[k]? = o := h
theorem row_drewN {w : World} {k n : Nat} {o : Option Obj} (h : w.heap[k]? = o) : (w.drewN n).heap[k]? = o := h

/-- The struct of a name's places: 128 bytes and a count. -/
def zeroPl : Array Value := (Array.replicate 128 (.int .u8 0)).push (.int .i64 0)
theorem info_pl : ∃ i, Tryd.prog.info? 186 = some i ∧ i.zero = some (.agg zeroPl) ∧ i.size = 129 := by
  refine ⟨((Tryd.prog.info? 186).getD default), ?_, ?_, ?_⟩ <;> kernel_rfl
end Go.Proofs.YtknpkifhkefikaaDoor
namespace Go.Proofs.YtknpkifhkefikaaDoor
open Go.RowKit

/-- A slice of strings reads as a list. -/
def Strs (w : World) (A : Option Addr) (L : List Bs) : Prop := 0 < L.length → ∃ g off, A = some ⟨g, off, none⟩ ∧ ∀ j (h : j < L.length), w.cell? ⟨g, off + j, none⟩ = some (.string (bs L[j]))
theorem Strs.on {w w1 : World} {A : Option Addr} {L : List Bs} (h : Strs w A L) (hB : Below w.heap.size w w1) : Strs w1 A L := fun hn => by
  obtain ⟨g, off, e, hc⟩ := h hn
  exact ⟨g, off, e, fun j hj => (hB.cell (p := ⟨g, off + j, none⟩) (World.block_lt_of_cell? w _ (hc j hj))).trans (hc j hj)⟩

theorem one_string (w : World) (n : Nat) (h : n ≤ 63) : (convert 29 9 (.slice (some ⟨w.heap.size, 0, none⟩) 1 1)).run Tryd.prog (w.alloc (Obj.cells #[.int .u8 n] 5 (0, 0))) = .ok (.string (bs [UInt8.ofNat n])) (w.alloc (Obj.cells #[.int .u8 n] 5 (0, 0))) :=
  run_convert_bytes_back (P := Tryd.prog) _ 29 9 5 ⟨w.heap.size, 0, none⟩ 1 [UInt8.ofNat n] Tryd.underlying29 Tryd.underlying5 Tryd.underlying9 (fun j hj => by
    have : j = 0 := by simp at hj; omega
    subst this
    have e : (UInt8.ofNat n).toNat = n := by simp; omega
    refine (cell_of_row _ _ _ _ _ _ (row_new _ rfl)).trans ?_
    simp; omega)

theorem enc_short : ∀ {L : List Bs}, (∀ x ∈ L, x.length ≤ 63) → (enc L).length ≤ 64 * L.length
  | [], _ => by simp [enc]
  | x :: L, h => by
    have := enc_short (L := L) fun y hy => h y (by simp [hy])
    have := h x (by simp)
    rw [enc_len_cons]
    simp; omega
theorem enc_one (x : Bs) : enc [x] = UInt8.ofNat x.length :: x := by simp [enc]

/-- A slice of bytes reads as a list. -/
def Bys (w : World) (A : Option Addr) (l : Bs) : Prop := 0 < l.length → ∃ g off, A = some ⟨g, off, none⟩ ∧ ∀ j (h : j < l.length), w.cell? ⟨g, off + j, none⟩ = some (.int .u8 (l[j]).toNat)
theorem Bys.on {w w1 : World} {A : Option Addr} {L : Bs} (h : Bys w A L) (hB : Below w.heap.size w w1) : Bys w1 A L := fun hn => by
  obtain ⟨g, off, e, hc⟩ := h hn
  exact ⟨g, off, e, fun j hj => (hB.cell (p := ⟨g, off + j, none⟩) (World.block_lt_of_cell? w _ (hc j hj))).trans (hc j hj)⟩

def tab (r : Nat) : Bs := match r with
  | 0 => [97]
  | 1 => [98]
  | 2 => [119, 119, 119]
  | 3 => [110, 115]
  | 4 => [65]
  | _ => [120, 45, 49]
def nameOf (l : Bs) : List Bs := (l.take 4).map fun c => tab (c.toNat % 6)
theorem tab_lab (r : Nat) : Lab (tab r) := by
  unfold tab Lab
  split <;> decide
theorem nameOf_lab (l : Bs) : ∀ x ∈ nameOf l, Lab x := by
  intro x hx
  obtain ⟨c, _, rfl⟩ := List.mem_map.1 hx
  exact tab_lab _

theorem info_str : (Tryd.prog.info? 9).map (fun i => (i.zero, i.size, i.bytes)) = some (some (.string ⟨#[]⟩), 1, 16) := by kernel_rfl
theorem own_strs {w : World} {B : Nat} {A : Option Addr} {n c : Nat} {L : List Bs} (h : w.ownsRow B 9 1 (.slice A n c) n (L.map fun x => .string (bs x))) : n = L.length ∧ Strs w A L := by
  have hl := h.1
  simp at hl
  refine ⟨hl.symm, fun hn => ?_⟩
  rcases h.2 with ⟨_, h0⟩ | ⟨g, cap, cur, hv, _, hh, _, _, hsz, ht⟩
  · omega
  · have hA : A = some ⟨g, 0, none⟩ := by injection hv
    subst hA
    refine ⟨g, 0, rfl, fun j hj => ?_⟩
    refine (cell_of_row _ _ _ _ _ _ hh).trans ?_
    have e := congrArg (fun x => x[j]?) ht
    simp [hj] at e
    rw [List.getElem?_take_of_lt (by omega)] at e
    simpa using e


end Go.Proofs.YtknpkifhkefikaaDoor
namespace Go.Proofs.YtknpkifhkefikaaDoor
open Go.RowKit

/-- A name's places: where each label begins, and how many there are. -/
structure Pl (C : Array Value) (L : List Bs) : Prop where
  count : C[128]? = some (.int .i64 L.length)
  at' : ∀ i : Nat, i ≤ L.length → C[i]? = some (.int .u8 (st L i))

/-- What the loop keeps. -/
structure Sp (l : Bs) (n : Nat) (C : Array Value) (D : List Bs) : Prop where
  len : n = (enc D).length
  le : n ≤ l.length
  lab : ∀ x ∈ D, Lab x
  rest : labs l = (labs (l.drop n)).map (D ++ ·)
  count : C[128]? = some (.int .i64 D.length)
  at' : ∀ i : Nat, i < D.length → C[i]? = some (.int .u8 (st D i))

structure Rw (B : Nat) (wr : World) (C : Array Value) : Prop where
  r2 : wr.heap[B]? = some (.cells zeroPl 186 (0, 0))
  r4 : wr.heap[B + 1]? = some (.cells C 186 (0, 0))
  size : C.size = 129
  one : C.all (·.oneCell') = true

theorem zero_one : zeroPl.all (·.oneCell') = true := by kernel_rfl
theorem zero_size : zeroPl.size = 129 := by kernel_rfl
theorem pl_size {n : Nat} (h : n = 129) : (Tryd.prog.info? 186).map (·.size) = some n := by
  obtain ⟨ip, hi, _, hs⟩ := info_pl
  rw [hi, h]; exact congrArg some hs

theorem results_split {c : Value} {tmps : Array Value} {W : World} {g : Nat} {cs : Array Value} (h2 : tmps.getD 2 undef = .pointer (some ⟨g, 0, none⟩)) (h3 : tmps.getD 3 undef = c)
    (r2 : W.heap[g]? = some (.cells cs 186 (0, 0))) (hs : cs.size = 129) :
    (results Tryd.f112 tmps).run Tryd.prog W = .ok (.tuple #[.agg cs, c]) W := by
  have q0 : (loadVar 186 ⟨g, 0, none⟩).run Tryd.prog W = .ok (.agg cs) W := run_loadVar_row W g 186 186 cs (0, 0) _ r2 Tryd.underlying186 rfl (pl_size hs)
  subst h3
  have h2' : tmps[2]?.getD undef = .pointer (some ⟨g, 0, none⟩) := by simpa using h2
  simp [results, Tryd.results112, asAddr, h2', q0]

theorem rows_pl (w : World) : ((w.alloc (Obj.cells zeroPl 186 (0, 0))).alloc (Obj.cells zeroPl 186 (0, 0))).heap[w.heap.size]? = some (.cells zeroPl 186 (0, 0)) ∧ ((w.alloc (Obj.cells zeroPl 186 (0, 0))).alloc (Obj.cells zeroPl 186 (0, 0))).heap[w.heap.size + 1]? = some (.cells zeroPl 186 (0, 0)) :=
  ⟨row_old _ (row_new _ rfl), row_new _ (by simp)⟩

/-- What the call answers. -/
abbrev SplitPost (l : Bs) (w : World) (e : Ending) (w' : World) : Prop := ∃ C : Array Value, e = .returned (.tuple #[.agg C, .bool (can l)]) ∧ C.size = 129 ∧ C.all (·.oneCell') = true ∧ (can l = true → Pl C (labels l)) ∧ Below w.heap.size w w'

set_option maxHeartbeats 1000000 in
set_option maxRecDepth 100000 in
theorem split_long (l : Bs) (w : World) (h : 255 < (l.length : Int)) :
    Calls Tryd.prog 112 #[.string (bs l)] w (SplitPost l w) := by
  obtain ⟨ip, hi, hz, hs⟩ := info_pl
  have hsz := bs_size l
  obtain ⟨r2, r4⟩ := rows_pl w
  go_enter Tryd.func112, Tryd.ntmps112
  go_wp2_with (refine wpList_alloc_at rfl 186 rfl ip zeroPl hi hz ?_)
  go_step3
  go_wp2_with (first
    | (refine wpList_alloc_at rfl 186 rfl ip zeroPl hi hz ?_)
    | (refine wpList_load_row rfl 186 (.tmp 4) rfl (w.heap.size + 1) rfl 186 zeroPl (0, 0) _ r4 Tryd.underlying186 rfl (pl_size zero_size) ?_)
    | (refine wpList_store_row rfl 186 (.tmp 2) (.tmp 10) rfl w.heap.size zeroPl rfl rfl 186 zeroPl r2 (pl_size zero_size) rfl zero_one ?_))
  rw [Exit.noGoto_ret]
  try simp only [Exit.inBlock, Exit.then]
  refine bodyPost_ret (v := .tuple #[.agg zeroPl, .bool false]) ?_ rfl ?_
  · exact results_split (g := w.heap.size) rfl rfl (setRow_heap _ _ _ _ _ _ r2) zero_size
  · refine ⟨zeroPl, by rw [can_long (by omega)], zero_size, zero_one, fun hc => ?_, Below.setRow (by (repeat first | (with_reducible exact Below.refl _ _) | (with_reducible assumption) | (with_reducible refine below_drewN ?_ _) | (with_reducible refine Below.drew ?_) | (with_reducible refine Below.alloc ?_ (by go_size) _) | (with_reducible refine Below.setCell ?_ (by go_size) _))) (Nat.le_refl _) _⟩
    rw [can_long (by omega)] at hc; cases hc

theorem byte_lt (l : Bs) (n : Nat) (h : n < l.length) : (l[n]).toNat ≤ 255 := by have := (l[n]).toNat_lt; omega

theorem labs_at {l : Bs} {n : Nat} (hn : n < l.length) : labs (l.drop n) = if (l[n]).toNat = 0 then (if l.drop (n + 1) = [] then some [] else none) else if 63 < (l[n]).toNat then none else (labs (l.drop (n + 1 + (l[n]).toNat))).map ((l.drop (n + 1)).take (l[n]).toNat :: ·) := by
  rw [List.drop_eq_getElem_cons hn, labs, List.drop_drop]

theorem labs_short {l : Bs} {n : Nat} (h : l.length ≤ n) : labs (l.drop n) = none := by
  rw [List.drop_eq_nil_of_le h, labs]

theorem enc_snoc (D : List Bs) (x : Bs) : (enc (D ++ [x])).length = (enc D).length + 1 + x.length := by
  rw [enc_append]; simp [enc]; omega

theorem st_old {D : List Bs} {x : Bs} {i : Nat} (h : i ≤ D.length) : st (D ++ [x]) i = st D i := by
  unfold st; rw [List.take_append_of_le_length h]
theorem st_all (D : List Bs) : st D D.length = (enc D).length := by unfold st; rw [List.take_length]

theorem Sp.small {l : Bs} {n : Nat} {C : Array Value} {D : List Bs} (h : Sp l n C D) (hn : n < l.length) (hl : l.length ≤ 255) : D.length ≤ 127 := by
  have := enc_ge h.lab
  have := h.len
  omega

/-- At the byte 0. -/
theorem Sp.stop {l : Bs} {n : Nat} {C : Array Value} {D : List Bs} (h : Sp l n C D) (hn : n < l.length) (hl : l.length ≤ 255) (hC : C.size = 129) (h0 : (l[n]).toNat = 0) :
    can l = decide (n = l.length - 1) ∧ (can l = true → Pl (C.setIfInBounds D.length (.int .u8 n)) (labels l)) := by
  have hr := h.rest
  rw [labs_at hn, if_pos h0] at hr
  have hD := h.small hn hl
  by_cases he : n = l.length - 1
  · have hd : l.drop (n + 1) = [] := List.drop_eq_nil_of_le (by omega)
    rw [if_pos hd] at hr
    simp at hr
    have hc : can l = true := by unfold can; simp [hr, hl]
    have hL : labels l = D := by unfold labels; rw [if_pos hc, hr]; rfl
    refine ⟨by simp [hc, ← he], fun _ => ?_⟩
    rw [hL]
    refine ⟨?_, fun i hi => ?_⟩
    · rw [Array.getElem?_setIfInBounds_ne (by omega)]; exact h.count
    · by_cases hi' : i = D.length
      · subst hi'
        rw [Array.getElem?_setIfInBounds_self_of_lt (by omega), st_all, h.len]
      · rw [Array.getElem?_setIfInBounds_ne (by omega)]
        exact h.at' i (by omega)
  · have hd : l.drop (n + 1) ≠ [] := fun e => by have := List.drop_eq_nil_iff.1 e; omega
    rw [if_neg hd] at hr
    simp at hr
    have hc : can l = false := by unfold can; simp [hr]
    refine ⟨by simp [hc, he], fun h => ?_⟩
    rw [hc] at h; cases h

theorem can_none {l : Bs} (h : labs l = none) : can l = false := by unfold can; simp [h]
theorem Sp.over {l : Bs} {n : Nat} {C : Array Value} {D : List Bs} (h : Sp l n C D) (hn : l.length ≤ n) : labs l = none := by
  have hr := h.rest
  rw [labs_short hn] at hr; exact hr
theorem Sp.big {l : Bs} {n : Nat} {C : Array Value} {D : List Bs} (h : Sp l n C D) (hn : n < l.length) (h6 : 63 < (l[n]).toNat) : labs l = none := by
  have hr := h.rest
  rw [labs_at hn, if_neg (by omega), if_pos h6] at hr; exact hr

theorem Sp.step {l : Bs} {n : Nat} {C : Array Value} {D : List Bs} (h : Sp l n C D) (hn : n < l.length) (hl : l.length ≤ 255) (hC : C.size = 129) (h0 : (l[n]).toNat ≠ 0) (h6 : (l[n]).toNat ≤ 63) :
    (l.length < n + 1 + (l[n]).toNat ∧ labs l = none) ∨ (Sp l (n + 1 + (l[n]).toNat) ((C.setIfInBounds D.length (.int .u8 n)).setIfInBounds 128 (.int .i64 (D.length + 1))) (D ++ [(l.drop (n + 1)).take (l[n]).toNat])) := by
  have hr := h.rest
  rw [labs_at hn, if_neg h0, if_neg (by omega)] at hr
  have hD := h.small hn hl
  by_cases hs : l.length < n + 1 + (l[n]).toNat
  · left
    rw [labs_short (by omega)] at hr
    exact ⟨hs, hr⟩
  · right
    have hx : ((l.drop (n + 1)).take (l[n]).toNat).length = (l[n]).toNat := by simp; omega
    refine ⟨?_, by omega, ?_, ?_, ?_, ?_⟩
    · rw [enc_snoc, hx, ← h.len]
    · intro y hy
      rcases List.mem_append.1 hy with hy | hy
      · exact h.lab y hy
      · simp only [List.mem_singleton] at hy
        subst hy
        exact ⟨by omega, by omega⟩
    · rw [hr]
      cases labs (l.drop (n + 1 + (l[n]).toNat)) <;> simp
    · rw [Array.getElem?_setIfInBounds_self_of_lt (by simp; omega)]; simp
    · intro i hi
      simp at hi
      rw [Array.getElem?_setIfInBounds_ne (by omega), st_old (by omega)]
      by_cases hi' : i = D.length
      · subst hi'
        rw [Array.getElem?_setIfInBounds_self_of_lt (by omega), st_all, h.len]
      · rw [Array.getElem?_setIfInBounds_ne (by omega)]
        exact h.at' i (by omega)

structure Lp (B : Nat) (wr : World) (C : Array Value) : Prop where
  r2 : wr.heap[B]? = some (.cells zeroPl 186 (0, 0))
  r4 : wr.heap[B + 1]? = some (.cells C 186 (0, 0))
  size : C.size = 129
  one : C.all (·.oneCell') = true

theorem all_set {C : Array Value} {i : Nat} {v : Value} (h : C.all (·.oneCell') = true) (hv : v.oneCell' = true) : (C.setIfInBounds i v).all (·.oneCell') = true := by
  rw [Array.all_eq_true] at h ⊢
  intro j hj
  simp only [Array.size_setIfInBounds] at hj
  rw [Array.getElem_setIfInBounds hj]
  split
  · exact hv
  · exact h j hj

theorem Lp.set {B : Nat} {wr : World} {C : Array Value} (h : Lp B wr C) (i : Nat) (v : Value) (hv : v.oneCell' = true) : Lp B (wr.setCell ⟨B + 1, i, none⟩ v) (C.setIfInBounds i v) :=
  ⟨row_other _ h.r2 (by omega), row_set _ h.r4, by rw [Array.size_setIfInBounds]; exact h.size, all_set h.one hv⟩
theorem Lp.cell {B : Nat} {wr : World} {C : Array Value} (h : Lp B wr C) (i : Nat) : wr.cell? ⟨B + 1, i, none⟩ = C[i]? := cell_of_row _ _ _ _ _ _ h.r4
theorem Lp.free {B : Nat} {wr : World} {C : Array Value} (h : Lp B wr C) (i : Nat) : wr.frozen? ⟨B + 1, i, none⟩ = false := frozen_of_row _ _ _ _ _ h.r4

set_option maxHeartbeats 1000000 in
set_option maxRecDepth 100000 in
theorem split_short (l : Bs) (w : World) (h : (l.length : Int) ≤ 255) :
    Calls Tryd.prog 112 #[.string (bs l)] w (SplitPost l w) := by
  obtain ⟨ip, hi, hz, hs⟩ := info_pl
  have hsz := bs_size l
  obtain ⟨r2, r4⟩ := rows_pl w
  have L0 : Lp w.heap.size _ zeroPl := ⟨r2, r4, zero_size, zero_one⟩
  go_enter Tryd.func112, Tryd.ntmps112
  go_wp2_with (refine wpList_alloc_at rfl 186 rfl ip zeroPl hi hz ?_)
  go_step3
  go_wp2_with (refine wpList_alloc_at rfl 186 rfl ip zeroPl hi hz ?_)
  go_step3
  go_wp2_with fail
  go_loopw [5] (fun v wr => ∃ n : Nat, v = .int .i64 n ∧ n ≤ 400 ∧ Below w.heap.size w wr ∧ ∃ C, Lp w.heap.size wr C ∧ ((l.length < n ∧ labs l = none) ∨ ∃ D, Sp l n C D)) (fun v _ => 400 - (intOf v).toNat)
  case atStart => exact ⟨0, rfl, by omega, by (repeat first | (with_reducible exact Below.refl _ _) | (with_reducible assumption) | (with_reducible refine below_drewN ?_ _) | (with_reducible refine Below.drew ?_) | (with_reducible refine Below.alloc ?_ (by go_size) _) | (with_reducible refine Below.setCell ?_ (by go_size) _)), zeroPl, L0, .inr ⟨[], rfl, by simp, by simp, by simp, by kernel_rfl, by simp⟩⟩
  case round =>
    obtain ⟨n, rfl, hn, hB, C, hL, hcase⟩ := hrel
    rcases hcase with ⟨hgt, hnone⟩ | ⟨D, hS⟩
    · go_wp2_with (first
        | (refine wpList_load_row rfl 186 (.tmp 4) rfl (w.heap.size + 1) rfl 186 C (0, 0) _ hL.r4 Tryd.underlying186 rfl (pl_size hL.size) ?_)
        | (refine wpList_store_row rfl 186 (.tmp 2) (.tmp 40) rfl w.heap.size C rfl rfl 186 zeroPl hL.r2 (pl_size hL.size) (zero_size.trans hL.size.symm) hL.one ?_))
      rw [Exit.noGoto_ret]
      try simp only [Exit.inBlock, Exit.then]
      refine bodyPost_ret (v := .tuple #[.agg C, .bool ((n : Int) == (l.length : Int) - 1)]) ?_ rfl ?_
      · exact results_split (g := w.heap.size) rfl rfl (setRow_heap _ _ _ _ _ _ hL.r2) hL.size
      · have hc := can_none hnone
        refine ⟨C, ?_, hL.size, hL.one, fun h => ?_, Below.setRow hB (Nat.le_refl _) _⟩
        · rw [hc]; congr 5; simp; omega
        · rw [hc] at h; cases h
    · by_cases hlt : n < l.length
      · have hk := byte_lt l n hlt
        obtain ⟨k, hkd⟩ : ∃ k, k = (l[n]).toNat := ⟨_, rfl⟩
        have hix : ∀ wx : World, (Instr.index 9 (.string (bs l)) (.int .i64 n)).run Tryd.prog wx = .ok (.int .u8 k) wx := fun wx => by
          rw [run_index_string _ _ _ _ _ Tryd.underlying9, dif_pos (by rw [bs_size]; omega), hkd]
          rfl
        have hD := hS.small hlt (by omega)
        have c1 := (hL.cell 128).trans hS.count
        have f1 := hL.free 128
        have f2 := hL.free D.length
        obtain ⟨u, c2⟩ : ∃ u, C[D.length]? = some u := ⟨_, Array.getElem?_eq_getElem (by rw [hL.size]; omega)⟩
        have c2 := (hL.cell D.length).trans c2
        have hL1 := hL.set D.length (.int .u8 n) rfl
        have c3 : (wr.setCell ⟨w.heap.size + 1, D.length, none⟩ (.int .u8 n)).cell? ⟨w.heap.size + 1, 128, none⟩ = some (.int .i64 D.length) := (hL1.cell 128).trans ((Array.getElem?_setIfInBounds_ne (by omega)).trans hS.count)
        have f3 := hL1.free 128
        rw [← hkd] at hk
        have HK := Lib.hid hkd
        clear hkd
        go_wp2_with (first
          | (refine wpList_load_row rfl 186 (.tmp 4) rfl (w.heap.size + 1) rfl 186 _ (0, 0) _ hL1.r4 Tryd.underlying186 rfl (pl_size hL1.size) ?_)
          | (refine wpList_store_row rfl 186 (.tmp 2) (.tmp 40) rfl w.heap.size _ rfl rfl 186 zeroPl hL1.r2 (pl_size hL1.size) (zero_size.trans hL1.size.symm) hL1.one ?_)
          | (refine wpList_store_row rfl 186 (.tmp 2) (.tmp 31) rfl w.heap.size _ rfl rfl 186 zeroPl hL1.r2 (pl_size hL1.size) (zero_size.trans hL1.size.symm) hL1.one ?_))
        · rename_i h0
          have h0 : (l[n]).toNat = 0 := by rw [← HK.out]; have := eq_of_beq h0; omega
          obtain ⟨hc, hP⟩ := hS.stop hlt (by omega) hL.size h0
          rw [Exit.noGoto_ret]
          try simp only [Exit.inBlock, Exit.then]
          refine bodyPost_ret (v := .tuple #[.agg (C.setIfInBounds D.length (.int .u8 n)), .bool ((n : Int) == (l.length : Int) - 1)]) ?_ rfl ?_
          · exact results_split (g := w.heap.size) rfl rfl (setRow_heap _ _ _ _ _ _ hL1.r2) hL1.size
          · refine ⟨_, ?_, hL1.size, hL1.one, hP, Below.setRow (Below.setCell hB (by simp) _) (Nat.le_refl _) _⟩
            rw [hc]; congr 6; rw [Bool.eq_iff_iff]; simp; omega
        · rename_i h0 h6
          have hnone := hS.big hlt (by rw [← HK.out]; omega)
          have hc := can_none hnone
          rw [Exit.noGoto_ret]
          try simp only [Exit.inBlock, Exit.then]
          refine bodyPost_ret (v := .tuple #[.agg (C.setIfInBounds D.length (.int .u8 n)), .bool false]) ?_ rfl ?_
          · exact results_split (g := w.heap.size) rfl rfl (setRow_heap _ _ _ _ _ _ hL1.r2) hL1.size
          · refine ⟨_, by rw [hc], hL1.size, hL1.one, fun h => ?_, Below.setRow (Below.setCell hB (by simp) _) (Nat.le_refl _) _⟩
            rw [hc] at h; cases h
        · rename_i h0 h6
          have h0 : (l[n]).toNat ≠ 0 := by rw [← HK.out]; intro e; simp [e] at h0
          have hst := hS.step hlt (by omega) hL.size h0 (by rw [← HK.out]; omega)
          have hL2 := hL1.set 128 (.int .i64 (D.length + 1)) rfl
          rw [← HK.out] at hst
          refine ⟨⟨n + 1 + k, by congr 1; omega, by omega, Below.setCell (Below.setCell hB (by simp) _) (by simp) _, _, hL2, ?_⟩, ?_⟩
          · rcases hst with hb | hg
            · exact .inl hb
            · exact .inr ⟨_, hg⟩
          · simp [intOf]; omega
      · have hnone := hS.over (by omega)
        have hc := can_none hnone
        go_wp2_with (first
          | (refine wpList_load_row rfl 186 (.tmp 4) rfl (w.heap.size + 1) rfl 186 C (0, 0) _ hL.r4 Tryd.underlying186 rfl (pl_size hL.size) ?_)
          | (refine wpList_store_row rfl 186 (.tmp 2) (.tmp 40) rfl w.heap.size C rfl rfl 186 zeroPl hL.r2 (pl_size hL.size) (zero_size.trans hL.size.symm) hL.one ?_))
        rw [Exit.noGoto_ret]
        try simp only [Exit.inBlock, Exit.then]
        refine bodyPost_ret (v := .tuple #[.agg C, .bool ((n : Int) == (l.length : Int) - 1)]) ?_ rfl ?_
        · exact results_split (g := w.heap.size) rfl rfl (setRow_heap _ _ _ _ _ _ hL.r2) hL.size
        · refine ⟨C, ?_, hL.size, hL.one, fun h => ?_, Below.setRow hB (Nat.le_refl _) _⟩
          · rw [hc]; congr 5; simp; omega
          · rw [hc] at h; cases h

theorem split_any (l : Bs) (w : World) : Calls Tryd.prog 112 #[.string (bs l)] w (SplitPost l w) := by
  by_cases h : 255 < l.length
  · exact split_long l w (by omega)
  · exact split_short l w (by omega)
end Go.Proofs.YtknpkifhkefikaaDoor
namespace Go.Proofs.YtknpkifhkefikaaDoor
open Go.RowKit
set_option linter.unusedVariables false
set_option maxRecDepth 100000

theorem new_row (w : World) (C : Array Value) : ((w.alloc (Obj.cells C 186 (0, 0))).heap[w.heap.size]? = some (.cells C 186 (0, 0))) := row_new _ rfl
theorem kept_row {w : World} {g : Nat} {C C' : Array Value} {t : TypeId} (h : w.heap[g]? = some (.cells C t (0, 0))) : (w.setRow g C').heap[g]? = some (.cells C' t (0, 0)) := setRow_heap _ _ _ _ _ _ h

set_option maxHeartbeats 1000000 in
theorem Can_any (l : Bs) (w : World) : Calls Tryd.prog 78 #[.string (bs l)] w fun e w' => e = .returned (.bool (can l)) ∧ Below w.heap.size w w' := by
  obtain ⟨ip, hi, hz, hs⟩ := info_pl
  go_enter Tryd.func78, Tryd.ntmps78
  go_wp2_with fail
  refine (split_any l w).mono ?_
  rintro e w1 ⟨C, rfl, hC, h1, _, hB⟩
  go_wp2_with (first
    | (refine wpList_alloc_at rfl 186 rfl ip zeroPl hi hz ?_)
    | (refine wpList_store_row rfl 186 (.tmp 3) (.tmp 8) rfl w1.heap.size C rfl rfl 186 zeroPl (new_row _ _) (pl_size hC) (zero_size.trans hC.symm) h1 ?_))
  go_ret
  exact ⟨rfl, Below.setRow (Below.alloc hB hB.size _) hB.size _⟩


theorem st_at {L : List Bs} {i : Nat} (h : i < L.length) : st L (i + 1) = st L i + 1 + (L[i]).length := by
  unfold st
  rw [List.take_succ_eq_append_getElem h, enc_snoc]

/-- A name's bytes from the i-th label on. -/
theorem drop_st (L : List Bs) (i : Nat) : (join L).drop (st L i) = join (L.drop i) := by
  have e : enc L = enc (L.take i) ++ enc (L.drop i) := by rw [← enc_append, List.take_append_drop]
  unfold join st
  rw [e, List.append_assoc, List.drop_left]

theorem label_bytes {L : List Bs} {i : Nat} (h : i < L.length) : ((join L).drop (st L i + 1)).take (st L (i + 1) - (st L i + 1)) = L[i] := by
  rw [← List.drop_drop, drop_st, List.drop_eq_getElem_cons h, st_at h]
  unfold join enc
  simp only [List.cons_append, List.drop_succ_cons, List.drop_zero]
  rw [show st L i + 1 + (L[i]).length - (st L i + 1) = (L[i]).length by omega, List.append_assoc, List.take_left]

theorem st_le {L : List Bs} {i : Nat} (h : i ≤ L.length) : st L i < (join L).length := by
  have := congrArg List.length (drop_st L i)
  simp [join] at this ⊢
  omega

theorem slice_label {l : Bs} {L : List Bs} {i : Nat} (hj : l = join L) (hi : i < L.length) (wx : World) : (Instr.slice 9 (.string (bs l)) (some (.int .i64 ((st L i : Int) + 1))) (some (.int .u8 (st L (i + 1)))) none).run Tryd.prog wx = .ok (.string (bs (L[i]))) wx := by
  subst hj
  have h1 := st_at hi
  have h2 := st_le (L := L) (i := i + 1) (by omega)
  rw [run_slice_string wx 9 _ _ _ _ _ Tryd.underlying9 (by omega) (by omega) (by rw [bs_size]; omega), bs_extract]
  rw [show ((st L i : Int) + 1).toNat = st L i + 1 by omega, Int.toNat_natCast, label_bytes hi]


end Go.Proofs.YtknpkifhkefikaaDoor
namespace Go.Proofs.YtknpkifhkefikaaDoor
open Go.RowKit


theorem nan_int (n : Int) (w : World) : Calls Tryd.prog 109 #[.int .i64 n] w fun e w' => e = .returned (.bool false) ∧ w = w' := by
  go_enter Tryd.func109, Tryd.ntmps109
  go_wp2
  go_ret
  exact ⟨by simp, rfl⟩


def cmpI (a b : Int) : Int := if a < b then -1 else if b < a then 1 else 0
theorem cmp_int (a b : Int) (w : World) : Calls Tryd.prog 69 #[.int .i64 a, .int .i64 b] w fun e w' => e = .returned (.int .i64 (cmpI a b)) ∧ w = w' := by
  unfold cmpI
  by_cases h : a < b
  · rw [if_pos h]
    go_enter Tryd.func69, Tryd.ntmps69
    go_wp2_with ((with_reducible refine (nan_int _ _).mono ?_); rintro e w' ⟨rfl, rfl⟩)
    go_ret
    exact ⟨rfl, rfl⟩
  · rw [if_neg h]
    by_cases k : b < a
    · rw [if_pos k]
      go_enter Tryd.func69, Tryd.ntmps69
      go_wp2_with ((with_reducible refine (nan_int _ _).mono ?_); rintro e w' ⟨rfl, rfl⟩)
      go_ret
      exact ⟨rfl, rfl⟩
    · rw [if_neg k]
      go_enter Tryd.func69, Tryd.ntmps69
      go_wp2_with ((with_reducible refine (nan_int _ _).mono ?_); rintro e w' ⟨rfl, rfl⟩)
      go_ret
      exact ⟨rfl, rfl⟩

theorem info_u8 : (Tryd.prog.info? 5).map (fun i => (i.zero, i.size, i.bytes)) = some (some (.int .u8 0), 1, 1) := by kernel_rfl
set_option maxRecDepth 100000 in
theorem clone_lite (s : ByteArray) (w : World) (hlim : s.size ≤ 281474976710656) :
    Calls Tryd.prog 125 #[.string s] w fun e w' => e = .returned (.string s) ∧ Below w.heap.size w w' := by
  by_cases h0 : s.size = 0
  · have hs : s = ⟨#[]⟩ := by
      apply ByteArray.ext
      exact Array.eq_empty_of_size_eq_zero h0
    subst hs
    go_enter Tryd.func125, Tryd.ntmps125
    go_wp2
    go_ret
    exact ⟨rfl, Below.refl _ _⟩
  · obtain ⟨i0, hi, hz0, hz1, hz2⟩ := info_parts info_u8
    have hinfo : (Tryd.prog.info? 5).map (·.size) = some 1 := by rw [hi]; simp [hz1]
    have hco : Tryd.prog.cellsOf 5 = 1 := by simp [Program.cellsOf, hi, hz1]
    obtain ⟨M, hM⟩ : ∃ M, M = madeCells (Value.int .u8 0).cells (((s.size : Nat) : Int).toNat * i0.size) := ⟨_, rfl⟩
    have hMs : M.size = s.size := by rw [hM, size_madeCells, hz1]; simp
    have hmk : ∀ W : World, (Instr.makeSlice 29 (.int .i64 (s.size : Int)) (.int .i64 (s.size : Int))).run Tryd.prog W = .ok (.slice (some ⟨W.heap.size, 0, none⟩) s.size s.size) (W.alloc (.cells M 5)) := fun W => by
      have h := run_make (P := Tryd.prog) W 29 5 i0 (.int .u8 0) Tryd.underlying29 hi hz0 .i64 .i64 (s.size : Int) (s.size : Int) (by omega) (by omega) (by rw [hz2]; omega) (by omega)
      rw [← hM] at h
      simpa using h
    clear hM
    have hcp := Lib.run_copy_row_string (P := Tryd.prog) (w.alloc (.cells M 5)) 29 9 3 5 w.heap.size 0 s.size s.size s M 5 Tryd.underlying29 hinfo (heap_alloc_new w _) (Nat.le_refl _) (by omega)
    obtain ⟨Y, hY⟩ : ∃ Y, Y = (M.toList.take 0 ++ Lib.byteCells s.data.toList ++ M.toList.drop (0 + s.size)).toArray := ⟨_, rfl⟩
    rw [← hY] at hcp
    have hYl : Y.toList = Lib.byteCells s.data.toList := by
      rw [hY, List.toList_toArray, List.take_zero, List.nil_append, List.drop_of_length_le (by rw [Array.length_toList]; omega), List.append_nil]
    have hYs : Y.size = s.size := by rw [← Array.length_toList, hYl, Lib.byteCells_length, ← Lib.size_eq]
    have hgY : ((w.alloc (.cells M 5)).setRow w.heap.size Y).heap[w.heap.size]? = some (.cells Y 5 (0, 0)) := setRow_heap _ _ M _ 5 (0, 0) (heap_alloc_new w _)
    have hne : s.data.toList ≠ [] := fun e => h0 (by rw [Lib.size_eq, e]; rfl)
    have hUS := Lib.run_unsafeString_row (P := Tryd.prog) ((w.alloc (.cells M 5)).setRow w.heap.size Y) 222 3 9 5 Tryd.underlying222 hco w.heap.size Y.size (by unfold World.shape?; rw [hgY]) s.data.toList hne (by rw [← Lib.size_eq]; omega) (by rw [← Lib.size_eq]; omega)
      (fun j x hx => Lib.cells_of_row hgY Y.size j _ (by rw [List.take_of_length_le (by rw [Array.length_toList]; exact Nat.le_refl _), hYl]; simp [Lib.byteCells, hx]))
    rw [← Lib.size_eq] at hUS
    clear hY
    go_enter Tryd.func125, Tryd.ntmps125
    go_wp2
    go_ret
    have hb1 : Below w.heap.size w (w.alloc (.cells M 5)) := (Below.refl _ w).alloc (Nat.le_refl _) _
    have hb2 : Below w.heap.size (w.alloc (.cells M 5)) ((w.alloc (.cells M 5)).setRow w.heap.size Y) := ⟨rfl, rfl, rfl, by simp, fun k hk => setRow_other _ _ _ _ (by omega)⟩
    exact ⟨rfl, Lib.below_freeze (hb1.trans hb2) (p := ⟨w.heap.size, 0, none⟩) (Nat.le_refl _) _⟩

theorem clone_any (l : Bs) (w : World) (h : l.length ≤ 281474976710656) :
    Calls Tryd.prog 104 #[.string (bs l)] w fun e w' => e = .returned (.string (bs l)) ∧ Below w.heap.size w w' := by
  go_enter Tryd.func104, Tryd.ntmps104
  go_wp2_with fail
  refine (clone_lite (bs l) w (by rw [bs_size]; exact h)).mono ?_
  rintro e w1 ⟨rfl, hB⟩
  go_wp2_with fail
  go_ret
  exact ⟨rfl, hB⟩

end Go.Proofs.YtknpkifhkefikaaDoor
namespace Go.Proofs.YtknpkifhkefikaaDoor
open Go.RowKit
set_option linter.unusedVariables false
set_option maxRecDepth 100000

/-- Bytes in a row of the call's own. -/
structure Byt (w : World) (g : Nat) (l : Bs) : Prop where
  cell : ∀ j (h : j < l.length), w.cell? ⟨g, j, none⟩ = some (.int .u8 (l[j]).toNat)
  free : ∀ j, j < l.length → w.frozen? ⟨g, j, none⟩ = false
  lt : g < w.heap.size

theorem Byt.set {w : World} {g : Nat} {l : Bs} (h : Byt w g l) {k : Nat} (v : UInt8) {n : Int} (hn : n = v.toNat) : Byt (w.setCell ⟨g, k, none⟩ (.int .u8 n)) g (l.set k v) := by
  subst hn
  refine ⟨fun j hj => ?_, fun j hj => ?_, by simpa using h.lt⟩
  · have hj' : j < l.length := by simpa using hj
    by_cases e : k = j
    · subst e
      have hc := h.cell k hj'
      rw [World.cell?_setCell_same _ _ _ hc]
      simp
    · rw [World.cell?_setCell_other _ _ _ _ (fun h => e (by injection h)), h.cell j hj']
      simp [e]
  · have hj' : j < l.length := by simpa using hj
    rw [World.frozen?_setCell]; exact h.free j hj'

theorem conv_bytes (l : Bs) (w : World) : ∃ cap w1, (convert 9 29 (.string (bs l))).run Tryd.prog w = .ok (.slice (some ⟨w.heap.size, 0, none⟩) l.length cap) w1 ∧ Byt w1 w.heap.size l ∧ Below w.heap.size w w1 := by
  have hr := run_bytes_of_string (P := Tryd.prog) w 9 29 5 (bs l) Tryd.underlying9 Tryd.underlying29 Tryd.underlying5
  rw [bs_size] at hr
  have hrow := row_new (w := w.drew) (k := w.heap.size) (.cells (bytesRow (bs l) (grownCap w l.length 0 5)) 5 ((bytesRow (bs l) (grownCap w l.length 0 5)).size, (bytesRow (bs l) (grownCap w l.length 0 5)).size + 1)) rfl
  refine ⟨_, _, hr, ⟨fun j hj => ?_, fun j hj => ?_, by simp⟩, ?_⟩
  · refine (cell_of_row _ _ _ _ _ _ hrow).trans ?_
    simp [bytesRow, Array.getElem?_append, hj]
  · unfold World.frozen?
    rw [hrow]
    simp [bytesRow]
    intros; omega
  · exact Below.alloc (Below.drew (Below.refl _ _)) (Nat.le_refl _) _

def mix (l : Bs) (k : Nat) : Bs := low (l.take k) ++ l.drop k
theorem mix_len (l : Bs) (k : Nat) : (mix l k).length = l.length := by
  unfold mix; rw [List.length_append, low_len, List.length_take, List.length_drop]; omega
theorem mix_zero (l : Bs) : mix l 0 = l := rfl
theorem mix_all (l : Bs) : mix l l.length = low l := by simp [mix]
theorem mix_at (l : Bs) (k : Nat) (h : k < l.length) : (mix l k)[k]'(by rw [mix_len]; exact h) = l[k] := by
  unfold mix
  rw [List.getElem_append_right (by rw [low_len, List.length_take]; omega)]
  simp [low_len, Nat.min_eq_left (Nat.le_of_lt h)]
theorem mix_set (l : Bs) (k : Nat) (h : k < l.length) : (mix l k).set k (small l[k]) = mix l (k + 1) := by
  unfold mix
  rw [List.set_append_right _ _ (by rw [low_len, List.length_take]; omega), low_len, List.length_take, Nat.min_eq_left (Nat.le_of_lt h), Nat.sub_self]
  rw [List.drop_eq_getElem_cons h, List.set_cons_zero, List.take_succ_eq_append_getElem h, low_append, List.append_assoc]
  rfl
theorem mix_same (l : Bs) (k : Nat) (h : k < l.length) (hs : small l[k] = l[k]) : mix l k = mix l (k + 1) := by
  have e := mix_set l k h
  rw [hs, ← mix_at l k h, List.set_getElem_self] at e
  exact e

set_option maxHeartbeats 1000000 in
theorem Lower_yes (l : Bs) (w : World) (h : can l = true) : Calls Tryd.prog 124 #[.string (bs l)] w fun e w' => e = .returned (.string (bs (low l))) ∧ Below w.heap.size w w' := by
  have hl := (can_out h).1
  go_enter Tryd.func124, Tryd.ntmps124
  go_wp2_with fail
  refine (Can_any l w).mono ?_
  rintro e w1 ⟨rfl, hB⟩
  rw [h]
  obtain ⟨cap, w2, hcv, hY, hB2⟩ := conv_bytes l w1
  have hs := hB.size
  have hB3 : Below w.heap.size w w2 := Below.trans hB (hB2.mono hs)
  have hlo : w.heap.size ≤ w1.heap.size := hs
  generalize hg : w1.heap.size = g at hcv hY hlo
  clear hB hB2 hs hg
  go_wp2_with fail
  clear hcv
  rw [← mix_zero l] at hY
  go_loopw [13] (fun v wr => ∃ k : Nat, v = .int .i64 k ∧ k ≤ l.length ∧ Byt wr g (mix l k) ∧ Below w.heap.size w wr) (fun v _ => l.length - (intOf v).toNat)
  case atStart => exact ⟨0, rfl, by omega, hY, hB3⟩
  case round =>
    clear hY hB3
    obtain ⟨k, rfl, hk, hY, hB⟩ := hrel
    by_cases hlt : k < l.length
    · have hc := hY.cell k (by rw [mix_len]; exact hlt)
      rw [mix_at l k hlt] at hc
      have hf := hY.free k (by rw [mix_len]; exact hlt)
      have hsame := mix_same l k hlt
      have hst := mix_set l k hlt
      have hn := small_nat l[k]
      have hb := (l[k]).toNat_lt
      have hset : ∀ n : Int, n = ((small l[k]).toNat : Int) → Byt (wr.setCell ⟨g, k, none⟩ (.int .u8 n)) g ((mix l k).set k (small l[k])) := fun n hn => hY.set (k := k) (small l[k]) (n := n) hn
      rw [hst] at hset
      have hlt' : (k : Int) < (l.length : Int) := by omega
      have H1 := Lib.hid hset
      have H2 := Lib.hid hn
      have H3 := Lib.hid (fun h => UInt8.toNat_inj.1 h : (small l[k]).toNat = (l[k]).toNat → small l[k] = l[k])
      have H4 := Lib.hid hsame
      clear hset hn hsame hst
      generalize (l[k]).toNat = b at *
      by_cases h1 : (b : Int) < 65
      · have h1' : ¬ (65 : Int) ≤ (b : Int) := by omega
        have e := H2.out
        rw [if_neg (by omega)] at e
        rw [H4.out (H3.out e)] at hY
        clear e H1 H2 H3 H4
        go_wp2_with fail
        go_roundw
        case rel => exact ⟨k + 1, by go_num, by omega, hY, hB⟩
        case measure => simp [intOf]; omega
      · by_cases h2 : (b : Int) ≤ 90
        · have e := H2.out
          rw [if_pos (by omega)] at e
          have hY2 := H1.out ((b : Int) - 65 + 97) (by omega)
          clear e H1 H2 H3 H4 hY
          go_wp2_with fail
          go_roundw
          case rel => exact ⟨k + 1, by go_num, by omega, hY2, Below.setCell hB hlo _⟩
          case measure => simp [intOf]; omega
        · have e := H2.out
          rw [if_neg (by omega)] at e
          rw [H4.out (H3.out e)] at hY
          clear e H1 H2 H3 H4
          go_wp2_with fail
          go_roundw
          case rel => exact ⟨k + 1, by go_num, by omega, hY, hB⟩
          case measure => simp [intOf]; omega
    · obtain rfl : k = l.length := by omega
      rw [mix_all] at hY
      have hback := run_convert_bytes_back (P := Tryd.prog) wr 29 9 5 ⟨g, 0, none⟩ cap (low l) Tryd.underlying29 Tryd.underlying5 Tryd.underlying9 (fun j hj => by
        rw [show (⟨g, 0, none⟩ : Addr).add j = ⟨g, j, none⟩ by unfold Addr.add; split <;> simp_all]
        exact hY.cell j hj)
      rw [low_len] at hback
      go_wp2_with fail
      go_ret
      exact ⟨rfl, hB⟩

theorem Lower_any (l : Bs) (w : World) : Calls Tryd.prog 124 #[.string (bs l)] w fun e w' => e = .returned (.string (bs (lower l))) ∧ Below w.heap.size w w' := by
  cases h : can l
  · rw [lower_no h]
    go_enter Tryd.func124, Tryd.ntmps124
    go_wp2_with fail
    refine (Can_any l w).mono ?_
    rintro e w1 ⟨rfl, hB⟩
    go_wp2_with fail
    go_ret
    exact ⟨rfl, hB⟩
  · rw [lower_yes h]
    exact Lower_yes l w h



end Go.Proofs.YtknpkifhkefikaaDoor
