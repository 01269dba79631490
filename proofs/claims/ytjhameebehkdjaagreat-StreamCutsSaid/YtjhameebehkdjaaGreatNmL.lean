/-
  Names as lists of bytes and of labels: no program, no memory.
-/
import Derived.Laws.Concat
import Derived.Laws.Strings2
import Derived.Handy
namespace Go.Proofs.YtjhameebehkdjaaGreat

abbrev Bs := List UInt8
/-- The string of bytes. -/
abbrev bs (l : Bs) : ByteArray := ⟨l.toArray⟩
theorem bs_list (s : ByteArray) : s = bs s.data.toList := by cases s; rfl
theorem bs_size (l : Bs) : (bs l).size = l.length := by simp [ByteArray.size]
theorem bs_toList (l : Bs) : (bs l).toList = l := by rw [ByteArray.toList_eq]
theorem bs_extract (l : Bs) (a b : Nat) : (bs l).extract a b = bs ((l.drop a).take (b - a)) := ByteArray.extract_mk l a b
theorem bs_append (a b : Bs) : bs a ++ bs b = bs (a ++ b) := ByteArray.mk_append_mk a b
theorem bs_at (l : Bs) (i : Nat) (h : i < (bs l).size) : (bs l)[i] = l[i]'(by simpa [ByteArray.size] using h) := rfl
theorem bs_inj {a b : Bs} (h : bs a = bs b) : a = b := by injection h with h; exact List.toArray_inj h

/-- The labels of bytes that begin where a label begins, where they are a name's; the length plays no part. -/
def labs : Bs → Option (List Bs)
  | [] => none
  | k :: r => if k.toNat = 0 then (if r = [] then some [] else none) else if 63 < k.toNat then none else (labs (r.drop k.toNat)).map (r.take k.toNat :: ·)
termination_by l => l.length
decreasing_by simp; omega

/-- Labels, each with its length ahead. -/
def enc : List Bs → Bs
  | [] => []
  | x :: L => UInt8.ofNat x.length :: (x ++ enc L)
def join (L : List Bs) : Bs := enc L ++ [0]
def Lab (x : Bs) : Prop := 1 ≤ x.length ∧ x.length ≤ 63

theorem enc_append (A B : List Bs) : enc (A ++ B) = enc A ++ enc B := by
  induction A with
  | nil => rfl
  | cons x A ih => simp [enc, ih]
theorem toNat_len {x : Bs} (h : Lab x) : (UInt8.ofNat x.length).toNat = x.length := by
  have := h.2
  simp; omega

theorem labs_join : ∀ {L : List Bs}, (∀ x ∈ L, Lab x) → labs (join L) = some L
  | [], _ => by unfold join enc; rw [List.nil_append, labs]; simp
  | x :: L, h => by
    have hx := h x (by simp)
    have hn := toNat_len hx
    have ih := labs_join (L := L) fun y hy => h y (by simp [hy])
    unfold join at ih ⊢
    unfold enc
    rw [List.cons_append, labs, hn, if_neg (by have := hx.1; omega), if_neg (by have := hx.2; omega), List.append_assoc, List.drop_left, List.take_left, ih]
    rfl

theorem labs_some : ∀ (n : Nat) {l : Bs} {L : List Bs}, l.length ≤ n → labs l = some L → l = join L ∧ ∀ x ∈ L, Lab x
  | _, [], L, _, h => by rw [labs] at h; simp at h
  | 0, k :: r, L, hn, h => by simp at hn
  | n + 1, k :: r, L, hn, h => by
    rw [labs] at h
    split at h
    · rename_i h0
      split at h
      · rename_i hr
        obtain rfl := Option.some.inj h
        subst hr
        refine ⟨?_, by simp⟩
        have : k = 0 := UInt8.toNat_inj.1 (by simpa using h0)
        simp [join, enc, this]
      · simp at h
    · rename_i h0
      split at h
      · simp at h
      · rename_i h6
        cases hd : labs (r.drop k.toNat) with
        | none => simp [hd] at h
        | some M =>
          rw [hd] at h
          obtain rfl := Option.some.inj h
          obtain ⟨e, hM⟩ := labs_some n (by simp at hn ⊢; omega) hd
          have hlen : k.toNat < r.length := by
            have := congrArg List.length e
            simp [join] at this
            omega
          have ht : (r.take k.toNat).length = k.toNat := by simp; omega
          refine ⟨?_, ?_⟩
          · unfold join enc
            rw [ht, List.cons_append, List.append_assoc]
            have : enc M ++ [0] = r.drop k.toNat := e.symm
            rw [this, List.take_append_drop]
            simp
          · intro x hx
            rcases List.mem_cons.1 hx with rfl | hx
            · exact ⟨by omega, by omega⟩
            · exact hM x hx

/-- Bytes are a name. -/
def can (l : Bs) : Bool := decide (l.length ≤ 255) && (labs l).isSome
def labels (l : Bs) : List Bs := if can l then (labs l).getD [] else []

theorem can_out {l : Bs} (h : can l = true) : l.length ≤ 255 ∧ labs l = some (labels l) ∧ l = join (labels l) ∧ ∀ x ∈ labels l, Lab x := by
  have hc := h
  unfold can at h
  simp only [Bool.and_eq_true, decide_eq_true_eq] at h
  obtain ⟨L, hL⟩ := Option.isSome_iff_exists.1 h.2
  have hl : labels l = L := by unfold labels; rw [if_pos hc, hL]; rfl
  obtain ⟨e, hM⟩ := labs_some _ (Nat.le_refl _) hL
  rw [hl]
  exact ⟨h.1, hL, e, hM⟩
theorem can_join {L : List Bs} (h : ∀ x ∈ L, Lab x) (hl : (join L).length ≤ 255) : can (join L) = true ∧ labels (join L) = L := by
  have e := labs_join h
  have hc : can (join L) = true := by unfold can; simp [e, hl]
  exact ⟨hc, by unfold labels; rw [if_pos hc, e]; rfl⟩
theorem labels_no {l : Bs} (h : can l = false) : labels l = [] := by unfold labels; rw [if_neg (by simp [h])]
theorem can_long {l : Bs} (h : 255 < l.length) : can l = false := by unfold can; simp; omega

/-- Where the i-th label begins. -/
def st (L : List Bs) (i : Nat) : Nat := (enc (L.take i)).length

theorem enc_len_cons (x : Bs) (L : List Bs) : (enc (x :: L)).length = 1 + x.length + (enc L).length := by simp [enc]; omega
theorem enc_ge : ∀ {L : List Bs}, (∀ x ∈ L, Lab x) → 2 * L.length ≤ (enc L).length
  | [], _ => by simp [enc]
  | x :: L, h => by
    have := enc_ge (L := L) fun y hy => h y (by simp [hy])
    have := (h x (by simp)).1
    rw [enc_len_cons]
    simp; omega
theorem join_len (L : List Bs) : (join L).length = (enc L).length + 1 := by simp [join]
theorem can_count {l : Bs} (h : can l = true) : (labels l).length ≤ 127 := by
  obtain ⟨h1, _, e, hL⟩ := can_out h
  have := enc_ge hL
  have := congrArg List.length e
  rw [join_len] at this
  omega
end Go.Proofs.YtjhameebehkdjaaGreat
