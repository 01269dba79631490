/-
  Bodies in chunks: plain bytes; a machine of states.
-/
import Derived.Test.YtjhameebehkdjaaGreatDoorGa
namespace Go.Proofs.YtjhameebehkdjaaGreatDoor
open Go.RowKit
set_option linter.unusedVariables false
set_option maxRecDepth 100000

/-- A reader of chunks: where it is, and what came. -/
structure Ck where
  most : Nat
  pl : Nat
  dig : Nat
  left : Nat
  body : Bs
  whole : Bool
  fault : Nat
def digC (c : UInt8) : Option Nat :=
  if 48 ≤ c.toNat ∧ c.toNat ≤ 57 then some (c.toNat - 48)
  else if 97 ≤ c.toNat ∧ c.toNat ≤ 102 then some (c.toNat - 87)
  else if 65 ≤ c.toNat ∧ c.toNat ≤ 70 then some (c.toNat - 55)
  else none
/-- A byte: the error (0: none), and the state. -/
def stepC (s : Ck) (c : UInt8) : Nat × Ck :=
  if s.pl = 0 ∧ (digC c).isSome ∧ s.dig < 6 then (0, { s with left := 16 * s.left + (digC c).getD 0, dig := s.dig + 1 })
  else if s.pl = 0 ∧ c.toNat = 13 then
    if s.dig = 0 then (120, s) else if s.most < s.left + s.body.length then (4, s) else (0, { s with pl := 1 })
  else if s.pl = 1 ∧ c.toNat = 10 then (0, { s with pl := if s.left = 0 then 5 else 2 })
  else if s.pl = 2 then (0, { s with body := s.body ++ [c], left := s.left - 1, pl := if s.left = 1 then 3 else 2 })
  else if s.pl = 3 ∧ c.toNat = 13 then (0, { s with pl := 4 })
  else if s.pl = 4 ∧ c.toNat = 10 then (0, { s with pl := 0, dig := 0 })
  else if s.pl = 5 ∧ c.toNat = 13 then (0, { s with pl := 6 })
  else if s.pl = 6 ∧ c.toNat = 10 then (0, { s with whole := true })
  else (120, s)
/-- Bytes: how many it took, whether the body is whole, the error; and the state. -/
def goC : Nat → Ck → Bs → (Nat × Bool × Nat) × Ck
  | i, s, [] => ((i, s.whole, 0), s)
  | i, s, c :: b => if s.whole then ((i, true, 0), s) else if (stepC s c).1 = 0 then goC (i + 1) (stepC s c).2 b else ((0, false, (stepC s c).1), { (stepC s c).2 with fault := (stepC s c).1 })
def feedC (s : Ck) (b : Bs) : (Nat × Bool × Nat) × Ck := if s.fault = 0 then goC 0 s b else ((0, false, s.fault), s)
def newC (most : Int) : Ck := ⟨(min (max most 0) 65535).toNat, 0, 0, 0, [], false, 0⟩
/-- A number's digits. -/
def hexd (c : Nat) : UInt8 := if c < 10 then UInt8.ofNat (48 + c) else UInt8.ofNat (87 + c)
def hexC (n : Nat) : Bs := if n < 16 then [hexd n] else hexC (n / 16) ++ [hexd (n % 16)]
decreasing_by omega
def endC : Bs := [48, 13, 10, 13, 10]
def chunkC (d : Bs) : Bs := hexC d.length ++ [13, 10] ++ d ++ [13, 10]
/-- A body in chunks of so many bytes. -/
def encC (size : Nat) : Nat → Bs → Bs
  | 0, _ => endC
  | _, [] => endC
  | f + 1, b => chunkC (b.take size) ++ encC size f (b.drop size)
def encK (size : Nat) (b : Bs) : Bs := encC size b.length b

/-! What goes on without a word. -/
/-- Bytes taken whole: the state behind them, with no body's end and no error among them. -/
def okC : Ck → Bs → Option Ck
  | s, [] => some s
  | s, c :: b => if s.whole then none else if (stepC s c).1 = 0 then okC (stepC s c).2 b else none
theorem okC_app : ∀ (a b : Bs) (s : Ck), okC s (a ++ b) = (okC s a).bind fun t => okC t b
  | [], b, s => rfl
  | c :: a, b, s => by
    simp only [List.cons_append, okC]
    split
    · rfl
    · split
      · exact okC_app a b _
      · rfl
theorem goC_ok : ∀ (b : Bs) (i : Nat) (s t : Ck), okC s b = some t → ∀ r, goC i s (b ++ r) = goC (i + b.length) t r
  | [], i, s, t, h, r => by
    injection h with h
    subst h
    rfl
  | c :: b, i, s, t, h, r => by
    simp only [okC] at h
    split at h
    · cases h
    · rename_i hw
      split at h
      · rename_i he
        simp only [List.cons_append, goC, List.length_cons]
        rw [if_neg hw, if_pos he, goC_ok b (i + 1) _ t h r]
        congr 1
        omega
      · cases h
theorem stepC_fault (s : Ck) (c : UInt8) : (stepC s c).2.fault = s.fault := by
  unfold stepC
  repeat' split
  all_goals rfl
theorem okC_fault : ∀ (b : Bs) (s t : Ck), okC s b = some t → t.fault = s.fault
  | [], s, t, h => by injection h with h; rw [h]
  | c :: b, s, t, h => by
    simp only [okC] at h
    split at h
    · cases h
    · split at h
      · rw [okC_fault b _ t h, stepC_fault]
      · cases h
theorem feedC_ok {s t : Ck} {b : Bs} (hf : s.fault = 0) (h : okC s b = some t) : feedC s b = ((b.length, t.whole, 0), t) := by
  unfold feedC
  rw [if_pos hf]
  have := goC_ok b 0 s t h []
  rw [List.append_nil] at this
  rw [this, Nat.zero_add]
  rfl

theorem hexd_dig {c : Nat} (h : c < 16) : digC (hexd c) = some c := by
  have : ∀ c : Fin 16, digC (hexd c) = some c.val := by decide
  exact this ⟨c, h⟩
theorem hexd_ne {c : Nat} (h : c < 16) : (digC (hexd c)).isSome = true := by rw [hexd_dig h]; rfl
theorem step_dig {c : Nat} (hc : c < 16) (most dig left : Nat) (body : Bs) (hd : dig < 6) : stepC ⟨most, 0, dig, left, body, false, 0⟩ (hexd c) = (0, ⟨most, 0, dig + 1, 16 * left + c, body, false, 0⟩) := by
  unfold stepC
  rw [if_pos ⟨rfl, hexd_ne hc, hd⟩, hexd_dig hc]
  rfl
/-- How many digits a number has. -/
def lenC (n : Nat) : Nat := (hexC n).length
theorem hexC_small {n : Nat} (h : n < 16) : hexC n = [hexd n] := by rw [hexC, if_pos h]
theorem hexC_big {n : Nat} (h : ¬ n < 16) : hexC n = hexC (n / 16) ++ [hexd (n % 16)] := by rw [hexC, if_neg h]
theorem hexC_len : ∀ (k n : Nat), 0 < k → n < 16 ^ k → 0 < (hexC n).length ∧ (hexC n).length ≤ k
  | k + 1, n, _, h => by
    by_cases h16 : n < 16
    · rw [hexC_small h16]; simp
    · rw [hexC_big h16, List.length_append]
      have hk : 0 < k := by
        cases k with
        | zero => simp at h; omega
        | succ k => omega
      have := hexC_len k (n / 16) hk (by rw [Nat.pow_succ] at h; omega)
      simp
      omega
theorem okC_one {s t : Ck} {c : UInt8} (hw : s.whole = false) (h : stepC s c = (0, t)) : okC s [c] = some t := by
  simp only [okC, hw, Bool.false_eq_true, if_false, h, if_true]
theorem okC_cons {s t : Ck} {c : UInt8} {b : Bs} (hw : s.whole = false) (h : stepC s c = (0, t)) : okC s (c :: b) = okC t b := by
  simp only [okC, hw, Bool.false_eq_true, if_false, h, if_true]
theorem ok_hex : ∀ (k n most dig : Nat) (body : Bs), n < 16 ^ k → 0 < k → dig + k ≤ 6 → ∃ j, 0 < j ∧ j ≤ k ∧ okC ⟨most, 0, dig, 0, body, false, 0⟩ (hexC n) = some ⟨most, 0, dig + j, n, body, false, 0⟩
  | k + 1, n, most, dig, body, h, _, hd => by
    by_cases h16 : n < 16
    · rw [hexC_small h16]
      refine ⟨1, by omega, by omega, ?_⟩
      rw [okC_one rfl (step_dig h16 most dig 0 body (by omega))]
      simp
    · have hk : 0 < k := by
        cases k with
        | zero => simp at h; omega
        | succ k => omega
      obtain ⟨j, j1, j2, hj⟩ := ok_hex k (n / 16) most dig body (by rw [Nat.pow_succ] at h; omega) hk (by omega)
      rw [hexC_big h16, okC_app, hj]
      refine ⟨j + 1, by omega, by omega, ?_⟩
      rw [Option.bind_some, okC_one rfl (step_dig (Nat.mod_lt _ (by omega)) most (dig + j) (n / 16) body (by omega))]
      rw [show 16 * (n / 16) + n % 16 = n by omega]
      rfl
/-- At a chunk's beginning. -/
def atC (most : Nat) (body : Bs) : Ck := ⟨most, 0, 0, 0, body, false, 0⟩
theorem ok_data : ∀ (d : Bs) (most dig : Nat) (body : Bs), 0 < d.length → okC ⟨most, 2, dig, d.length, body, false, 0⟩ d = some ⟨most, 3, dig, 0, body ++ d, false, 0⟩
  | [c], most, dig, body, _ => by simp [okC, stepC]
  | c :: c2 :: d, most, dig, body, _ => by
    have ih := ok_data (c2 :: d) most dig (body ++ [c]) (by simp)
    rw [okC]
    simp only [Bool.false_eq_true, if_false]
    have e : stepC ⟨most, 2, dig, (c :: c2 :: d).length, body, false, 0⟩ c = (0, ⟨most, 2, dig, (c2 :: d).length, body ++ [c], false, 0⟩) := by
      simp [stepC]
    rw [e, if_pos rfl]
    simp only
    rw [ih]
    simp
theorem ok_chunk {most : Nat} {body d : Bs} (h0 : 0 < d.length) (h1 : d.length < 16 ^ 6) (h2 : body.length + d.length ≤ most) : okC (atC most body) (chunkC d) = some (atC most (body ++ d)) := by
  obtain ⟨j, j1, j2, hj⟩ := ok_hex 6 d.length most 0 body h1 (by omega) (by omega)
  have e1 : stepC ⟨most, 0, 0 + j, d.length, body, false, 0⟩ 13 = (0, ⟨most, 1, 0 + j, d.length, body, false, 0⟩) := by
    have q1 : ¬ 0 + j = 0 := by omega
    have q2 : ¬ most < d.length + body.length := by omega
    have q3 : (digC 13).isSome = false := by decide
    unfold stepC
    rw [if_neg (by simp [q3]), if_pos ⟨rfl, rfl⟩, if_neg q1, if_neg q2]
  have e2 : stepC ⟨most, 1, 0 + j, d.length, body, false, 0⟩ 10 = (0, ⟨most, 2, 0 + j, d.length, body, false, 0⟩) := by
    have : d.length ≠ 0 := by omega
    simp [stepC, this]
  have e3 : stepC ⟨most, 3, 0 + j, 0, body ++ d, false, 0⟩ 13 = (0, ⟨most, 4, 0 + j, 0, body ++ d, false, 0⟩) := by simp [stepC]
  have e4 : stepC ⟨most, 4, 0 + j, 0, body ++ d, false, 0⟩ 10 = (0, ⟨most, 0, 0, 0, body ++ d, false, 0⟩) := by simp [stepC]
  unfold chunkC atC
  rw [List.append_assoc, List.append_assoc, okC_app, hj, Option.bind_some]
  simp only [List.cons_append, List.nil_append]
  rw [okC_cons rfl e1, okC_cons rfl e2, okC_app, ok_data d most (0 + j) body h0, Option.bind_some, okC_cons rfl e3, okC_one rfl e4]
theorem ok_end (most : Nat) (body : Bs) (h : body.length ≤ most) : okC (atC most body) endC = some ⟨most, 6, 1, 0, body, true, 0⟩ := by
  have : ¬ most < body.length := by omega
  simp [endC, okC, stepC, atC, digC, this]
theorem enc_nil (size f : Nat) : encC size f [] = endC := by cases f <;> rfl
theorem enc_step {size f : Nat} {b : Bs} (h : b ≠ []) : encC size (f + 1) b = chunkC (b.take size) ++ encC size f (b.drop size) := by
  cases b with
  | nil => exact absurd rfl h
  | cons c b => rfl
/-- What is written is read as the body. -/
theorem ok_enc : ∀ (f : Nat) (size most : Nat) (body b : Bs), b.length ≤ f → 0 < size → size < 16 ^ 6 → body.length + b.length ≤ most → okC (atC most body) (encC size f b) = some ⟨most, 6, 1, 0, body ++ b, true, 0⟩
  | 0, size, most, body, b, h, _, _, hm => by
    have : b = [] := List.length_eq_zero_iff.1 (by omega)
    subst this
    rw [enc_nil, ok_end most body (by simpa using hm), List.append_nil]
  | f + 1, size, most, body, b, h, hs, h6, hm => by
    by_cases hb : b = []
    · subst hb
      rw [enc_nil, ok_end most body (by simpa using hm), List.append_nil]
    · have hl : 0 < b.length := List.length_pos_iff.2 hb
      have ht : (b.take size).length = min size b.length := List.length_take
      rw [enc_step hb, okC_app, ok_chunk (by omega) (by omega) (by omega)]
      simp only [Option.bind_some]
      rw [ok_enc f size most _ _ (by simp; omega) hs h6 (by simp; omega)]
      simp
theorem goC_app {s t : Ck} {b : Bs} (h : okC s b = some t) (i : Nat) (r : Bs) : goC i s (b ++ r) = goC (i + b.length) t r := goC_ok b i s t h r
theorem full_enc : ∀ (f : Nat) (size most : Nat) (body b : Bs), b.length ≤ f → 0 < size → size < 16 ^ 6 → body.length ≤ most → most < body.length + b.length → ∀ i, ∃ t, goC i (atC most body) (encC size f b) = ((0, false, 4), t) ∧ t.fault = 4 ∧ t.body <+: body ++ b ∧ t.body.length ≤ most
  | 0, size, most, body, b, h, _, _, hm, hb, i => by omega
  | f + 1, size, most, body, b, h, hs, h6, hm, hb, i => by
    have hb0 : b ≠ [] := fun e => by subst e; simp at hb; omega
    have hl : 0 < b.length := List.length_pos_iff.2 hb0
    have ht : (b.take size).length = min size b.length := List.length_take
    rw [enc_step hb0]
    by_cases hfit : body.length + (b.take size).length ≤ most
    · rw [goC_app (ok_chunk (by omega) (by omega) hfit)]
      obtain ⟨t, h1, h2, h3, h4⟩ := full_enc f size most (body ++ b.take size) (b.drop size) (by simp; omega) hs h6 (by simp; omega) (by simp; omega) (i + (chunkC (b.take size)).length)
      exact ⟨t, h1, h2, by simpa using h3, h4⟩
    · obtain ⟨j, j1, j2, hj⟩ := ok_hex 6 (b.take size).length most 0 body (by omega) (by omega) (by omega)
      have e : chunkC (b.take size) ++ encC size f (b.drop size) = hexC (b.take size).length ++ (13 :: (10 :: (b.take size ++ [13, 10]) ++ encC size f (b.drop size))) := by simp [chunkC]
      have e1 : stepC ⟨most, 0, 0 + j, (b.take size).length, body, false, 0⟩ 13 = (4, ⟨most, 0, 0 + j, (b.take size).length, body, false, 0⟩) := by
        have q1 : ¬ 0 + j = 0 := by omega
        have q2 : most < (b.take size).length + body.length := by omega
        have q3 : (digC 13).isSome = false := by decide
        unfold stepC
        rw [if_neg (by simp [q3]), if_pos ⟨rfl, rfl⟩, if_neg q1, if_pos q2]
      rw [e, goC_app (s := atC most body) hj]
      simp only [goC, Bool.false_eq_true, if_false]
      rw [e1]
      exact ⟨_, rfl, rfl, List.prefix_append _ _, hm⟩
/-- What has been taken of a whole body's bytes, but the last. -/
theorem ok_part {s t : Ck} {a r : Bs} (h : okC s (a ++ r) = some t) (hr : r ≠ []) : ∃ u, okC s a = some u ∧ u.whole = false ∧ okC u r = some t := by
  rw [okC_app] at h
  cases hu : okC s a with
  | none => rw [hu] at h; cases h
  | some u =>
    rw [hu, Option.bind_some] at h
    refine ⟨u, rfl, ?_, h⟩
    cases r with
    | nil => exact absurd rfl hr
    | cons c r =>
      rw [okC] at h
      split at h
      · cases h
      · rename_i hw
        simpa using hw
theorem feedC_part {s t : Ck} {b : Bs} {n : Nat} (hf : s.fault = 0) (h : okC s b = some t) (hn : n < b.length) : ∃ u, feedC s (b.take n) = ((n, false, 0), u) ∧ u.fault = 0 ∧ okC u (b.drop n) = some t := by
  obtain ⟨u, h1, h2, h3⟩ := ok_part (a := b.take n) (r := b.drop n) (by rw [List.take_append_drop]; exact h) (fun e => by have := congrArg List.length e; simp at this; omega)
  refine ⟨u, ?_, by rw [okC_fault _ _ _ h1, hf], h3⟩
  rw [feedC_ok hf h1, h2, List.length_take, Nat.min_eq_left (by omega)]
theorem goC_whole {t : Ck} (h : t.whole = true) (i : Nat) (r : Bs) : goC i t r = ((i, true, 0), t) := by
  cases r with
  | nil => simp [goC, h]
  | cons c r => simp [goC, h]
theorem feedC_rest {s t : Ck} {b : Bs} (r : Bs) (hf : s.fault = 0) (h : okC s b = some t) (hw : t.whole = true) : feedC s (b ++ r) = ((b.length, true, 0), t) ∧ feedC t r = ((0, true, 0), t) := by
  have ht : t.fault = 0 := by rw [okC_fault _ _ _ h, hf]
  unfold feedC
  rw [if_pos hf, if_pos ht, goC_app h, goC_whole hw, goC_whole hw, Nat.zero_add]
  exact ⟨rfl, rfl⟩
theorem newC_at {most : Int} (h0 : 0 ≤ most) (h1 : most ≤ 65535) : newC most = atC most.toNat [] := by
  unfold newC atC
  congr 1
  omega
end Go.Proofs.YtjhameebehkdjaaGreatDoor
