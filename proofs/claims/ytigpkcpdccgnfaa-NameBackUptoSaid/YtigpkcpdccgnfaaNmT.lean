/-
  A name's text, and the name of a text, as lists. No program, no memory.
-/
import Derived.Test.YtigpkcpdccgnfaaNmM
namespace Go.Proofs.Ytigpkcpdccgnfaa
set_option linter.unusedVariables false

def plainN (b : Nat) : Bool := decide ((97 ≤ b ∧ b ≤ 122) ∨ (65 ≤ b ∧ b ≤ 90) ∨ (48 ≤ b ∧ b ≤ 57) ∨ b = 45 ∨ b = 95 ∨ b = 42)
def digN (b : Nat) : Bool := decide (48 ≤ b ∧ b ≤ 57)
/-- A byte of a label as a text has it. -/
def esc (b : UInt8) : Bs := if plainN b.toNat then [b] else [92, UInt8.ofNat (48 + b.toNat / 100), UInt8.ofNat (48 + b.toNat / 10 % 10), UInt8.ofNat (48 + b.toNat % 10)]
def escs (x : Bs) : Bs := x.flatMap esc
def textL (L : List Bs) : Bs := L.flatMap fun x => escs x ++ [46]
def text (l : Bs) : Bs := if can l then (if labels l = [] then [46] else textL (labels l)) else []

/-- The byte that a text begins with, and how many bytes it is written in. -/
def byte1 : Bs → Option (UInt8 × Nat)
  | [] => none
  | c :: r => if plainN c.toNat then some (c, 1) else if c.toNat = 92 then (match r with
      | d1 :: d2 :: d3 :: _ => if digN d1.toNat && digN d2.toNat && digN d3.toNat && decide ((d1.toNat - 48) * 100 + (d2.toNat - 48) * 10 + (d3.toNat - 48) ≤ 255) then some (UInt8.ofNat ((d1.toNat - 48) * 100 + (d2.toNat - 48) * 10 + (d3.toNat - 48)), 4) else none
      | _ => none) else none

theorem byte1_plain {c : UInt8} {r : Bs} (h : plainN c.toNat = true) : byte1 (c :: r) = some (c, 1) := by simp [byte1, h]
theorem byte1_other {c : UInt8} {r : Bs} (h : plainN c.toNat = false) (h2 : c.toNat ≠ 92) : byte1 (c :: r) = none := by simp [byte1, h, h2]
theorem byte1_back {c : UInt8} {d1 d2 d3 : UInt8} {r : Bs} (h : c.toNat = 92) : byte1 (c :: d1 :: d2 :: d3 :: r) = if digN d1.toNat && digN d2.toNat && digN d3.toNat && decide ((d1.toNat - 48) * 100 + (d2.toNat - 48) * 10 + (d3.toNat - 48) ≤ 255) then some (UInt8.ofNat ((d1.toNat - 48) * 100 + (d2.toNat - 48) * 10 + (d3.toNat - 48)), 4) else none := by
  have h0 : plainN 92 = false := by decide
  simp [byte1, h, h0]
theorem byte1_few {c : UInt8} {r : Bs} (h : c.toNat = 92) (hr : r.length < 3) : byte1 (c :: r) = none := by
  have h0 : plainN c.toNat = false := by rw [h]; decide
  match r, hr with
  | [], _ => simp [byte1, h0]
  | [_], _ => simp [byte1, h0]
  | [_, _], _ => simp [byte1, h0]
  | _ :: _ :: _ :: _, hr => simp at hr; omega
theorem byte1_pos {s : Bs} {b : UInt8} {k : Nat} (h : byte1 s = some (b, k)) : 1 ≤ k ∧ k ≤ s.length ∧ k ≤ 4 := by
  unfold byte1 at h
  split at h
  · cases h
  · split at h
    · injection h with h; injection h with h1 h2; subst h2; simp
    · split at h
      · split at h
        · split at h
          · injection h with h; injection h with h1 h2; subst h2; simp
          · cases h
        · cases h
      · cases h

/-- The labels of a text from here on, behind those that are there, and the bytes of the one that is under way. -/
def pa (s : Bs) (L : List Bs) (lab : Bs) : Option (List Bs) :=
  match s with
  | [] => if lab = [] then some L else none
  | c :: r =>
    if c.toNat = 46 then (if 1 ≤ lab.length ∧ lab.length ≤ 63 then pa r (L ++ [lab]) [] else none)
    else match h : byte1 (c :: r) with
      | none => none
      | some (b, k) => pa ((c :: r).drop k) L (lab ++ [b])
termination_by s.length
decreasing_by
  · simp
  · have := byte1_pos h
    simp at this ⊢
    omega

theorem pa_nil (L : List Bs) (lab : Bs) : pa [] L lab = if lab = [] then some L else none := by rw [pa]
theorem pa_dot {s : Bs} {L : List Bs} {lab : Bs} (h : s.head?.map (·.toNat) = some 46) : pa s L lab = if 1 ≤ lab.length ∧ lab.length ≤ 63 then pa s.tail (L ++ [lab]) [] else none := by
  cases s with
  | nil => cases h
  | cons c r => simp at h; rw [pa, if_pos h]; rfl
theorem pa_byte {s : Bs} {L : List Bs} {lab : Bs} {b : UInt8} {k : Nat} (h : byte1 s = some (b, k)) (hd : s.head?.map (·.toNat) ≠ some 46) : pa s L lab = pa (s.drop k) L (lab ++ [b]) := by
  cases s with
  | nil => cases h
  | cons c r =>
    simp at hd
    rw [pa, if_neg hd]
    split
    · rename_i h2; rw [h] at h2; cases h2
    · rename_i b2 k2 h2
      rw [h] at h2
      injection h2 with h2
      injection h2 with h3 h4
      subst h3 h4
      rfl
theorem pa_bad {s : Bs} {L : List Bs} {lab : Bs} (h : byte1 s = none) (hs : s ≠ []) (hd : s.head?.map (·.toNat) ≠ some 46) : pa s L lab = none := by
  cases s with
  | nil => exact absurd rfl hs
  | cons c r =>
    simp at hd
    rw [pa, if_neg hd]
    split
    · rfl
    · rename_i b2 k2 h2; rw [h] at h2; cases h2
theorem byte1_not_dot {s : Bs} {b : UInt8} {k : Nat} (h : byte1 s = some (b, k)) : s.head?.map (·.toNat) ≠ some 46 := by
  cases s with
  | nil => simp
  | cons c r =>
    simp only [List.head?_cons, Option.map_some]
    intro e
    injection e with e
    rw [byte1_other (by rw [e]; decide) (by omega)] at h
    cases h

/-- A label that has too many bytes already leads to nothing. -/
theorem pa_long : ∀ (n : Nat) (s : Bs) (L : List Bs) (lab : Bs), s.length ≤ n → 63 < lab.length → pa s L lab = none
  | _, [], L, lab, _, h => by rw [pa_nil, if_neg]; intro e; subst e; simp at h
  | 0, _ :: _, _, _, hn, _ => by simp at hn
  | n + 1, c :: r, L, lab, hn, h => by
    by_cases hd : (c :: r).head?.map (·.toNat) = some 46
    · rw [pa_dot hd, if_neg (by omega)]
    · cases hb : byte1 (c :: r) with
      | none => exact pa_bad hb (by simp) hd
      | some x =>
        obtain ⟨b, k⟩ := x
        rw [pa_byte hb hd]
        have := byte1_pos hb
        exact pa_long n _ L _ (by simp at this hn ⊢; omega) (by simp; omega)

/-- The name of a text, and the error's number. -/
def parse (s : Bs) : Bs × Int :=
  if s = [46] then ([0], 0)
  else match pa s [] [] with
    | none => ([], 10)
    | some L => if L = [] then ([], 10) else if 255 < (join L).length then ([], 11) else (join L, 0)

/-- The first label of a text, as the program takes it: n bytes are taken already. -/
def fl (s : Bs) (lab : Bs) (n : Nat) : Option (Bs × Nat) :=
  match s with
  | [] => none
  | c :: r =>
    if c.toNat = 46 ∧ lab ≠ [] then some (lab, n + 1)
    else match h : byte1 (c :: r) with
      | none => none
      | some (b, k) => if lab.length = 63 then none else fl ((c :: r).drop k) (lab ++ [b]) (n + k)
termination_by s.length
decreasing_by
  have := byte1_pos h
  simp at this ⊢
  omega
theorem fl_nil (lab : Bs) (n : Nat) : fl [] lab n = none := by rw [fl]
theorem fl_dot {s : Bs} {lab : Bs} {n : Nat} (h : s.head?.map (·.toNat) = some 46) (hl : lab ≠ []) : fl s lab n = some (lab, n + 1) := by
  cases s with
  | nil => cases h
  | cons c r => simp at h; rw [fl, if_pos ⟨h, hl⟩]
theorem fl_byte {s : Bs} {lab : Bs} {n : Nat} {b : UInt8} {k : Nat} (h : byte1 s = some (b, k)) : fl s lab n = if lab.length = 63 then none else fl (s.drop k) (lab ++ [b]) (n + k) := by
  have hd := byte1_not_dot h
  cases s with
  | nil => cases h
  | cons c r =>
    simp at hd
    rw [fl, if_neg (fun e => hd e.1)]
    split
    · rename_i h2; rw [h] at h2; cases h2
    · rename_i b2 k2 h2
      rw [h] at h2
      injection h2 with h2
      injection h2 with h3 h4
      subst h3 h4
      rfl
theorem fl_bad {s : Bs} {lab : Bs} {n : Nat} (h : byte1 s = none) (hd : ¬ (s.head?.map (·.toNat) = some 46 ∧ lab ≠ [])) : fl s lab n = none := by
  cases s with
  | nil => exact fl_nil _ _
  | cons c r =>
    simp only [List.head?_cons, Option.map_some, Option.some.injEq] at hd
    rw [fl, if_neg hd]
    split
    · rfl
    · rename_i b2 k2 h2; rw [h] at h2; cases h2

theorem byte1_dot {s : Bs} (h : s.head?.map (·.toNat) = some 46) : byte1 s = none := by
  cases hb : byte1 s with
  | none => rfl
  | some x => exact absurd h (byte1_not_dot (b := x.1) (k := x.2) hb)

/-- What the first label leaves. -/
theorem pa_fl : ∀ (m : Nat) (s : Bs) (L : List Bs) (lab : Bs) (n : Nat), s.length ≤ m → lab.length ≤ 63 → (s ≠ [] ∨ lab ≠ []) →
    (fl s lab n = none ∧ pa s L lab = none) ∨ (∃ x k, fl s lab n = some (x, n + k) ∧ 1 ≤ k ∧ k ≤ s.length ∧ 1 ≤ x.length ∧ x.length ≤ 63 ∧ pa s L lab = pa (s.drop k) (L ++ [x]) [])
  | _, [], L, lab, n, _, _, hne => by
    left
    rw [fl_nil, pa_nil, if_neg (by simpa using hne)]
    exact ⟨rfl, rfl⟩
  | 0, _ :: _, _, _, _, hm, _, _ => by simp at hm
  | m + 1, c :: r, L, lab, n, hm, hl, _ => by
    by_cases hd : (c :: r).head?.map (·.toNat) = some 46
    · by_cases hlab : lab = []
      · left
        rw [fl_bad (byte1_dot hd) (fun e => e.2 hlab), pa_dot hd, if_neg (by subst hlab; simp)]
        exact ⟨rfl, rfl⟩
      · right
        have h1 : 1 ≤ lab.length := by
          rcases Nat.eq_zero_or_pos lab.length with h | h
          · exact absurd (List.eq_nil_of_length_eq_zero h) hlab
          · exact h
        refine ⟨lab, 1, fl_dot hd hlab, Nat.le_refl _, by simp, h1, hl, ?_⟩
        rw [pa_dot hd, if_pos ⟨h1, hl⟩, List.drop_one]
    · cases hb : byte1 (c :: r) with
      | none =>
        left
        rw [fl_bad hb (fun e => hd e.1), pa_bad hb (by simp) hd]
        exact ⟨rfl, rfl⟩
      | some z =>
        obtain ⟨b, k⟩ := z
        have hk := byte1_pos hb
        rw [fl_byte hb, pa_byte hb hd]
        by_cases h63 : lab.length = 63
        · left
          rw [if_pos h63]
          exact ⟨rfl, pa_long _ _ _ _ (Nat.le_refl _) (by simp; omega)⟩
        · rw [if_neg h63]
          rcases pa_fl m ((c :: r).drop k) L (lab ++ [b]) (n + k) (by simp at hk hm ⊢; omega) (by simp; omega) (.inr (by simp)) with h | ⟨x, j, h1, h2, h3, h4, h5, h6⟩
          · exact .inl h
          · right
            refine ⟨x, k + j, by rw [h1]; congr 2; omega, by omega, ?_, h4, h5, by rw [h6, List.drop_drop]⟩
            rw [List.length_drop] at h3
            omega

theorem pa_labs : ∀ (m : Nat) (s : Bs) (L : List Bs) (lab : Bs) (M : List Bs), s.length ≤ m → (∀ x ∈ L, Lab x) → pa s L lab = some M → ∀ x ∈ M, Lab x
  | _, [], L, lab, M, _, hL, h => by
    rw [pa_nil] at h
    split at h
    · injection h with h; subst h; exact hL
    · cases h
  | 0, _ :: _, _, _, _, hm, _, _ => by simp at hm
  | m + 1, c :: r, L, lab, M, hm, hL, h => by
    by_cases hd : (c :: r).head?.map (·.toNat) = some 46
    · rw [pa_dot hd] at h
      split at h
      · rename_i hl
        refine pa_labs m r (L ++ [lab]) [] M (by simpa using hm) (fun x hx => ?_) h
        rcases List.mem_append.1 hx with hx | hx
        · exact hL x hx
        · simp at hx; subst hx; exact hl
      · cases h
    · cases hb : byte1 (c :: r) with
      | none => rw [pa_bad hb (by simp) hd] at h; cases h
      | some z =>
        obtain ⟨b, k⟩ := z
        have hk := byte1_pos hb
        rw [pa_byte hb hd] at h
        exact pa_labs m _ L _ M (by simp at hk hm ⊢; omega) hL h

theorem parse_ok {s m : Bs} (h : parse s = (m, 0)) : can m = true := by
  unfold parse at h
  split at h
  · injection h with h _
    subst h
    exact (can_join (L := []) (by simp) (by decide)).1
  · split at h
    · injection h with _ h; cases h
    · rename_i L hL
      split at h
      · injection h with _ h; cases h
      · split at h
        · injection h with _ h; cases h
        · rename_i hlen
          injection h with h _
          subst h
          exact (can_join (pa_labs _ s [] [] L (Nat.le_refl _) (by simp) hL) (by omega)).1

theorem esc_all : ∀ n, n < 256 → (esc (UInt8.ofNat n)).length ≤ 4 ∧ 1 ≤ (esc (UInt8.ofNat n)).length := by decide +kernel
theorem byte1_esc_all : ∀ n, n < 256 → (if plainN n then True else digN (UInt8.ofNat (48 + n / 100)).toNat = true ∧ digN (UInt8.ofNat (48 + n / 10 % 10)).toNat = true ∧ digN (UInt8.ofNat (48 + n % 10)).toNat = true ∧ ((UInt8.ofNat (48 + n / 100)).toNat - 48) * 100 + ((UInt8.ofNat (48 + n / 10 % 10)).toNat - 48) * 10 + ((UInt8.ofNat (48 + n % 10)).toNat - 48) = n) := by decide +kernel
theorem byte1_esc (b : UInt8) (r : Bs) : byte1 (esc b ++ r) = some (b, (esc b).length) := by
  have hb := b.toNat_lt
  have h := byte1_esc_all b.toNat (by omega)
  unfold esc
  cases hp : plainN b.toNat with
  | true => simp [byte1, hp]
  | false =>
    rw [hp] at h
    simp only [Bool.false_eq_true, if_false] at h
    obtain ⟨h1, h2, h3, h4⟩ := h
    rw [if_neg (by simp)]
    simp only [List.cons_append, List.nil_append]
    rw [byte1_back (by decide)]
    simp only [h1, h2, h3, h4, Bool.and_self, Bool.true_and]
    rw [if_pos (by simp; omega)]
    simp
theorem pa_esc (x : Bs) : ∀ (r : Bs) (L : List Bs) (lab : Bs), pa (escs x ++ r) L lab = pa r L (lab ++ x) := by
  induction x with
  | nil => intro r L lab; simp [escs]
  | cons b x ih =>
    intro r L lab
    have e : escs (b :: x) ++ r = esc b ++ (escs x ++ r) := by simp [escs]
    have hb := byte1_esc b (escs x ++ r)
    rw [e, pa_byte hb (byte1_not_dot hb), List.drop_left, ih, List.append_assoc]
    rfl
theorem pa_text : ∀ (M L : List Bs), (∀ x ∈ M, Lab x) → pa (textL M) L [] = some (L ++ M)
  | [], L, _ => by simp [textL, pa_nil]
  | x :: M, L, h => by
    have e : textL (x :: M) = escs x ++ (46 :: textL M) := by simp [textL]
    have hx := h x (by simp)
    rw [e, pa_esc, pa_dot (by rfl), List.nil_append, if_pos (show 1 ≤ x.length ∧ x.length ≤ 63 from hx)]
    show pa (textL M) (L ++ [x]) [] = _
    rw [pa_text M (L ++ [x]) (fun y hy => h y (by simp [hy])), List.append_assoc]
    rfl
theorem text_len (L : List Bs) : 2 * L.length ≤ (textL L).length ∨ ∃ x ∈ L, x = [] := by
  induction L with
  | nil => left; simp
  | cons x L ih =>
    rcases ih with h | ⟨y, hy, e⟩
    · cases x with
      | nil => exact .inr ⟨[], by simp, rfl⟩
      | cons b x =>
        left
        have := (esc_all b.toNat (by have := b.toNat_lt; omega)).2
        have eb : UInt8.ofNat b.toNat = b := by simp
        rw [eb] at this
        simp [textL, escs] at h ⊢
        omega
    · exact .inr ⟨y, by simp [hy], e⟩
theorem parse_text {l : Bs} (h : can l = true) : parse (text l) = (l, 0) := by
  obtain ⟨hl, _, e, hL⟩ := can_out h
  unfold text
  rw [if_pos h]
  by_cases h0 : labels l = []
  · rw [if_pos h0]
    rw [h0] at e
    subst e
    rfl
  · rw [if_neg h0]
    unfold parse
    rw [if_neg]
    · rw [pa_text _ _ hL]
      simp only [List.nil_append]
      rw [if_neg h0, ← e, if_neg (by omega)]
    · intro e2
      rcases text_len (labels l) with h1 | ⟨y, hy, rfl⟩
      · rw [e2] at h1
        have := List.length_pos_iff.2 h0
        simp at h1
        omega
      · have := (hL _ hy).1
        simp at this
theorem text_root : text [0] = [46] := by
  have := can_join (L := []) (by simp) (by decide)
  rw [show join [] = [0] from rfl] at this
  unfold text
  rw [if_pos this.1, if_pos this.2]
theorem parse_err {s : Bs} (h : (parse s).2 ≠ 0) : (parse s).1 = [] := by
  unfold parse at h ⊢
  split
  · rename_i e; rw [if_pos e] at h; exact absurd rfl h
  · rename_i e
    rw [if_neg e] at h
    split
    · rfl
    · split
      · rfl
      · split
        · rfl
        · rename_i L hL h1 h2
          rw [hL] at h
          simp only [h1, h2, if_false] at h
          exact absurd rfl h
theorem parse_nums (s : Bs) : (parse s).2 = 0 ∨ (parse s).2 = 10 ∨ (parse s).2 = 11 := by
  unfold parse
  split
  · simp
  · split
    · simp
    · split
      · simp
      · split <;> simp
end Go.Proofs.Ytigpkcpdccgnfaa
