/-
  Data of types: there and back, as plain lists. No program, no memory.
-/
import Derived.Test.YtbeggckkgaoacaaRdM
namespace Go.Proofs.Ytbeggckkgaoacaa
set_option linter.unusedVariables false
set_option maxRecDepth 100000

theorem four_B {n : Nat} (h : n < 4294967296) (r : Bs) : four (fourB n ++ r) = n := by
  simp [four, fourB]
  omega
theorem B_four {l : Bs} (h : 4 ≤ l.length) : fourB (four l) = l.take 4 := by
  match l, h with
  | a :: b :: c :: d :: r, _ =>
    have ha := a.toNat_lt
    have hb := b.toNat_lt
    have hc := c.toNat_lt
    have hd := d.toNat_lt
    simp only [four, fourB, List.take_succ_cons, List.take_zero, List.getD_cons_zero, List.getD_cons_succ]
    have key : ∀ (x : UInt8) (n : Nat), n % 256 = x.toNat → UInt8.ofNat n = x := fun x n h => by
      rw [← UInt8.toNat_inj]; simpa using h
    rw [key a _ (by omega), key b _ (by omega), key c _ (by omega), key d _ (by omega)]
  | [], h => simp at h
  | [_], h => simp at h
  | [_, _], h => simp at h
  | [_, _, _], h => simp at h
theorem four_lt (l : Bs) : four l < 4294967296 := by
  unfold four
  have h0 := (l.getD 0 0).toNat_lt
  have h1 := (l.getD 1 0).toNat_lt
  have h2 := (l.getD 2 0).toNat_lt
  have h3 := (l.getD 3 0).toNat_lt
  omega

theorem fit_nat {n : Nat} (h : n < 4294967296) : fit (n : Int) = true := by simp [fit]; omega

/-- What Make makes, SOA reads. -/
theorem soa_there {m r : Bs} {a b c d e : Nat} (hm : can m = true) (hr : can r = true) (ha : a < 4294967296) (hb : b < 4294967296) (hc : c < 4294967296) (hd : d < 4294967296) (he : e < 4294967296) :
    soa (m ++ r ++ putL [(a : Int), b, c, d, e]) = some ⟨m, r, a, b, c, d, e⟩ := by
  have hp : putL [(a : Int), b, c, d, e] = fourB a ++ (fourB b ++ (fourB c ++ (fourB d ++ fourB e))) := by simp [putL]
  obtain ⟨P, hP⟩ : ∃ P, P = putL [(a : Int), b, c, d, e] := ⟨_, rfl⟩
  have hPl : P.length = 20 := by rw [hP, putL_len]; rfl
  rw [← hP] at hp ⊢
  have h1 : nameLen (m ++ r ++ P) = some m.length := by rw [List.append_assoc]; exact can_nameLen hm _
  have hd1 : (m ++ r ++ P).drop m.length = r ++ P := by rw [List.append_assoc, List.drop_left]
  have h2 : nameLen ((m ++ r ++ P).drop m.length) = some r.length := by rw [hd1]; exact can_nameLen hr _
  rw [soa_at h1 h2, if_pos (by rw [List.length_append, List.length_append, hPl])]
  have hk : ∀ k, (m ++ r ++ P).drop (m.length + r.length + k) = P.drop k := fun k => by
    rw [← List.drop_drop, show m.length + r.length = (m ++ r).length by simp, List.drop_left]
  have h0 : (m ++ r ++ P).drop (m.length + r.length) = P := hk 0
  rw [hk, hk, hk, hk, h0, hd1, List.take_left]
  rw [show (m ++ r ++ P).take m.length = m by rw [List.append_assoc, List.take_left]]
  have lb : ∀ n, (fourB n).length = 4 := fun _ => rfl
  have e0 : four P = a := by rw [hp]; exact four_B ha _
  have e1 : four (P.drop 4) = b := by rw [hp, ← lb a, List.drop_left]; exact four_B hb _
  have e2 : four (P.drop 8) = c := by
    rw [show 8 = 4 + 4 from rfl, ← List.drop_drop, hp, ← lb a, List.drop_left, lb a, ← lb b, List.drop_left]; exact four_B hc _
  have e3 : four (P.drop 12) = d := by
    rw [show 12 = 4 + 4 + 4 from rfl, ← List.drop_drop, ← List.drop_drop, hp, ← lb a, List.drop_left, lb a, ← lb b, List.drop_left, lb b, ← lb c, List.drop_left]; exact four_B hd _
  have e4 : four (P.drop 16) = e := by
    rw [show 16 = 4 + 4 + 4 + 4 from rfl, ← List.drop_drop, ← List.drop_drop, ← List.drop_drop, hp, ← lb a, List.drop_left, lb a, ← lb b, List.drop_left, lb b, ← lb c, List.drop_left, lb c, ← lb d, List.drop_left]
    have := four_B he []
    rwa [List.append_nil] at this
  rw [e0, e1, e2, e3, e4]

/-- What SOA reads, Make makes. -/
theorem soa_back {l : Bs} {s : Soa} (h : soa l = some s) : can s.m = true ∧ can s.r = true ∧ s.a < 4294967296 ∧ s.b < 4294967296 ∧ s.c < 4294967296 ∧ s.d < 4294967296 ∧ s.e < 4294967296 ∧ l = s.m ++ s.r ++ putL [(s.a : Int), s.b, s.c, s.d, s.e] := by
  cases h1 : nameLen l with
  | none => rw [soa_none1 h1] at h; cases h
  | some i =>
    cases h2 : nameLen (l.drop i) with
    | none => rw [soa_none2 h1 h2] at h; cases h
    | some j =>
      rw [soa_at h1 h2] at h
      split at h
      · rename_i hl
        injection h with h
        subst h
        have hi := nameLen_le h1
        have hj := nameLen_le h2
        refine ⟨(can_take hi.2.1).2 h1, (can_take hj.2.1).2 h2, four_lt _, four_lt _, four_lt _, four_lt _, four_lt _, ?_⟩
        have hp : ∀ a b c d e : Nat, putL [(a : Int), b, c, d, e] = fourB a ++ (fourB b ++ (fourB c ++ (fourB d ++ fourB e))) := fun _ _ _ _ _ => by simp [putL]
        simp only [hp]
        obtain ⟨P, hP⟩ : ∃ P, P = l.drop (i + j) := ⟨_, rfl⟩
        have hPl : P.length = 20 := by rw [hP, List.length_drop]; omega
        have hk : ∀ k, l.drop (i + j + k) = P.drop k := fun k => by rw [hP, List.drop_drop]
        rw [hk, hk, hk, hk, ← hP]
        rw [B_four (by omega), B_four (by rw [List.length_drop]; omega), B_four (by rw [List.length_drop]; omega), B_four (by rw [List.length_drop]; omega), B_four (by rw [List.length_drop]; omega)]
        have hs : P = P.take 4 ++ ((P.drop 4).take 4 ++ ((P.drop 8).take 4 ++ ((P.drop 12).take 4 ++ (P.drop 16).take 4))) := by
          have q4 : (P.drop 16).take 4 = P.drop 16 := List.take_of_length_le (by rw [List.length_drop]; omega)
          have q3 : (P.drop 12).take 4 ++ P.drop 16 = P.drop 12 := by rw [show P.drop 16 = (P.drop 12).drop 4 by rw [List.drop_drop]]; exact List.take_append_drop ..
          have q2 : (P.drop 8).take 4 ++ P.drop 12 = P.drop 8 := by rw [show P.drop 12 = (P.drop 8).drop 4 by rw [List.drop_drop]]; exact List.take_append_drop ..
          have q1 : (P.drop 4).take 4 ++ P.drop 8 = P.drop 4 := by rw [show P.drop 8 = (P.drop 4).drop 4 by rw [List.drop_drop]]; exact List.take_append_drop ..
          rw [q4, q3, q2, q1, List.take_append_drop]
        rw [← hs, hP, ← List.drop_drop, List.append_assoc, List.take_append_drop, List.take_append_drop]
      · cases h

/-- No name is the beginning of another. -/
theorem can_more {n x : Bs} (h : can n = true) (hx : x ≠ []) : can (n ++ x) = false := by
  cases hc : can (n ++ x) with
  | false => rfl
  | true =>
    have h1 := can_nameLen h x
    have h2 := can_nameLen hc []
    rw [List.append_nil, h1] at h2
    injection h2 with h2
    rw [List.length_append] at h2
    have := List.length_pos_iff.2 hx
    omega

/-- Texts, options of a list. -/
def txt1 (x : Bs) : Bs := UInt8.ofNat x.length :: x
def opt1 (x : Bs) : Bs := 0 :: 9 :: 0 :: UInt8.ofNat x.length :: x
theorem txs_more {x r : Bs} (h : x.length ≤ 255) : txs (txt1 x ++ r) = txs r := by
  unfold txt1
  rw [List.cons_append, txs]
  have e : (UInt8.ofNat x.length).toNat = x.length := by simp; omega
  rw [e, if_neg (by simp), List.drop_left]
theorem txs_all {X : List Bs} (h : ∀ x ∈ X, x.length ≤ 255) (r : Bs) : txs (X.flatMap txt1 ++ r) = txs r := by
  induction X with
  | nil => rfl
  | cons x X ih =>
    rw [List.flatMap_cons, List.append_assoc, txs_more (h x (by simp)), ih fun y hy => h y (by simp [hy])]
theorem opts_one {x r : Bs} (h : x.length ≤ 255) : opts (opt1 x ++ r) = opts r := by
  unfold opt1
  simp only [List.cons_append]
  rw [opts_cons]
  have e : (UInt8.ofNat x.length).toNat = x.length := by simp; omega
  rw [e, if_neg (by simp)]
  simp
theorem opts_all {X : List Bs} (h : ∀ x ∈ X, x.length ≤ 255) (r : Bs) : opts (X.flatMap opt1 ++ r) = opts r := by
  induction X with
  | nil => rfl
  | cons x X ih =>
    rw [List.flatMap_cons, List.append_assoc, opts_one (h x (by simp)), ih fun y hy => h y (by simp [hy])]
theorem txs_one : txs [1] = false := by simp [txs]
end Go.Proofs.Ytbeggckkgaoacaa
