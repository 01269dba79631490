/-
  The landed reader of chunks against the plain machine.
-/
import Derived.Test.YtjhameebehkdjaaGreatDoorCkO
namespace Go.Proofs.YtjhameebehkdjaaGreatDoor
open Go.RowKit
set_option linter.unusedVariables false
set_option maxRecDepth 100000

/-- What the landed reader has where the plain machine is at s. -/
structure LkOk (s : Ck) (st dg lf : Nat) (mk : Bs) (bh : Nat) : Prop where
  bad : s.fault ≠ 0 → st = 3
  whole : s.whole = true → st = 3
  p0 : s.fault = 0 → s.whole = false → s.pl = 0 → st = 0 ∧ dg = s.dig ∧ lf = s.left
  p1 : s.fault = 0 → s.whole = false → s.pl = 1 → st = 2 ∧ dg = 0 ∧ lf = s.left ∧ ((s.left = 0 ∧ mk = [10, 13, 10] ∧ bh = 3) ∨ (s.left ≠ 0 ∧ mk = [10] ∧ bh = 1))
  p2 : s.fault = 0 → s.whole = false → s.pl = 2 → st = 1 ∧ dg = 0 ∧ lf = s.left
  p3 : s.fault = 0 → s.whole = false → s.pl = 3 → st = 2 ∧ dg = 0 ∧ lf = 0 ∧ mk = [13, 10] ∧ bh = 0
  p4 : s.fault = 0 → s.whole = false → s.pl = 4 → st = 2 ∧ dg = 0 ∧ lf = 0 ∧ mk = [10] ∧ bh = 0
  p5 : s.fault = 0 → s.whole = false → s.pl = 5 → st = 2 ∧ mk = [13, 10] ∧ bh = 3
  p6 : s.fault = 0 → s.whole = false → s.pl = 6 → st = 2 ∧ mk = [10] ∧ bh = 3
theorem LkOk.new (m : Int) : LkOk (newC m) 0 0 0 [] 0 := by
  constructor <;> simp [newC]
theorem LkOk.fail {s : Ck} {e dg lf : Nat} {mk : Bs} {bh : Nat} (he : e ≠ 0) : LkOk { s with fault := e } 3 dg lf mk bh := by
  constructor <;> intros <;> first | rfl | (exfalso; simp at *; done) | (exfalso; simp at *; omega)
/-- From byte k on. -/
def fromC (k : Nat) (t : Ck) (b : Bs) : (Nat × Bool × Nat) × Ck := if t.fault = 0 then goC k t b else ((0, false, t.fault), t)
theorem fromC_go {k : Nat} {t : Ck} {b : Bs} (h : t.fault = 0) : fromC k t b = goC k t b := by unfold fromC; rw [if_pos h]
theorem feedC_from (s : Ck) (b : Bs) : feedC s b = fromC 0 s b := rfl
/-- The machine's next byte. -/
theorem fromC_cons {k : Nat} {t : Ck} {c : UInt8} {b : Bs} (hf : t.fault = 0) (hw : t.whole = false) : fromC k t (c :: b) = if (stepC t c).1 = 0 then fromC (k + 1) (stepC t c).2 b else ((0, false, (stepC t c).1), { t with fault := (stepC t c).1 }) := by
  rw [fromC_go hf]
  conv => lhs; unfold goC
  rw [if_neg (by rw [hw]; simp)]
  by_cases h : (stepC t c).1 = 0
  · rw [if_pos h, if_pos h, fromC_go (by rw [stepC_fault, hf])]
  · rw [if_neg h, if_neg h, (stepC_err h).1]
theorem fromC_stop {k : Nat} {t : Ck} {b : Bs} (h : t.whole = true ∨ b = [] ∨ t.fault ≠ 0) : fromC k t b = if t.fault = 0 then ((k, t.whole, 0), t) else ((0, false, t.fault), t) := by
  unfold fromC
  by_cases hf : t.fault = 0
  · rw [if_pos hf, if_pos hf]
    rcases h with h | h | h
    · rw [goC_whole h, h]
    · subst h; rfl
    · exact absurd hf h
  · rw [if_neg hf, if_neg hf]
/-- A mark that must come. -/
theorem marks_step {s : Ck} {st dg lf : Nat} {mk : Bs} {bh : Nat} (h : LkOk s st dg lf mk bh) (ok : CkOk s) (hf : s.fault = 0) (hw : s.whole = false) (h0 : s.pl ≠ 0) (h2 : s.pl ≠ 2) :
    st = 2 ∧ bh ≤ 3 ∧ ∃ x m, mk = x :: m ∧ ∀ c : UInt8, (c ≠ x → stepC s c = (120, s)) ∧ (c = x → ∃ t, stepC s c = (0, t) ∧ t.body = s.body ∧ t.most = s.most ∧ t.fault = 0 ∧ (m = [] → LkOk t bh dg lf [] bh) ∧ (m ≠ [] → LkOk t 2 dg lf m bh)) := by
  have hpl := ok.pl
  have ne : ∀ (c : UInt8) (n : Nat) (x : UInt8), x.toNat = n → c ≠ x → ¬ c.toNat = n := fun c n x hx hc e => hc (UInt8.toNat_inj.1 (by omega))
  have hcase : s.pl = 1 ∨ s.pl = 3 ∨ s.pl = 4 ∨ s.pl = 5 ∨ s.pl = 6 := by omega
  rcases hcase with hp | hp | hp | hp | hp
  · obtain ⟨e1, e2, e3, ⟨e4, e5, e6⟩ | ⟨e4, e5, e6⟩⟩ := h.p1 hf hw hp
    · subst e5 e6
      refine ⟨e1, by omega, 10, [13, 10], rfl, fun c => ⟨fun hc => ?_, fun hc => ?_⟩⟩
      · have := ne c 10 10 rfl hc
        simp [stepC, hp, this]
      · subst hc
        refine ⟨{ s with pl := 5 }, by simp [stepC, hp, e4], rfl, rfl, hf, by simp, fun _ => ?_⟩
        constructor <;> simp [hf, hw, e4]
    · subst e5 e6
      refine ⟨e1, by omega, 10, [], rfl, fun c => ⟨fun hc => ?_, fun hc => ?_⟩⟩
      · have := ne c 10 10 rfl hc
        simp [stepC, hp, this]
      · subst hc
        refine ⟨{ s with pl := 2 }, by simp [stepC, hp, e4], rfl, rfl, hf, fun _ => ?_, by simp⟩
        constructor <;> simp [hf, hw, e4, e2, e3]
  · obtain ⟨e1, e2, e3, e4, e5⟩ := h.p3 hf hw hp
    subst e4 e5
    refine ⟨e1, by omega, 13, [10], rfl, fun c => ⟨fun hc => ?_, fun hc => ?_⟩⟩
    · have := ne c 13 13 rfl hc
      simp [stepC, hp, this]
    · subst hc
      refine ⟨{ s with pl := 4 }, by simp [stepC, hp], rfl, rfl, hf, by simp, fun _ => ?_⟩
      constructor <;> simp [hf, hw, e2, e3]
  · obtain ⟨e1, e2, e3, e4, e5⟩ := h.p4 hf hw hp
    have hl := ok.none (.inr hp)
    subst e4 e5
    refine ⟨e1, by omega, 10, [], rfl, fun c => ⟨fun hc => ?_, fun hc => ?_⟩⟩
    · have := ne c 10 10 rfl hc
      simp [stepC, hp, this]
    · subst hc
      refine ⟨{ s with pl := 0, dig := 0 }, by simp [stepC, hp], rfl, rfl, hf, fun _ => ?_, by simp⟩
      constructor <;> simp [hf, hw, e2, e3, hl]
  · obtain ⟨e1, e4, e5⟩ := h.p5 hf hw hp
    subst e4 e5
    refine ⟨e1, by omega, 13, [10], rfl, fun c => ⟨fun hc => ?_, fun hc => ?_⟩⟩
    · have := ne c 13 13 rfl hc
      simp [stepC, hp, this]
    · subst hc
      refine ⟨{ s with pl := 6 }, by simp [stepC, hp], rfl, rfl, hf, by simp, fun _ => ?_⟩
      constructor <;> simp [hf, hw]
  · obtain ⟨e1, e4, e5⟩ := h.p6 hf hw hp
    subst e4 e5
    refine ⟨e1, by omega, 10, [], rfl, fun c => ⟨fun hc => ?_, fun hc => ?_⟩⟩
    · have := ne c 10 10 rfl hc
      simp [stepC, hp, this]
    · subst hc
      refine ⟨{ s with whole := true }, by simp [stepC, hp], rfl, rfl, hf, fun _ => ?_, by simp⟩
      constructor <;> simp [hf]
/-- Bytes of a chunk, up to its last one. -/
def afterD (s : Ck) (d : Bs) : Ck := { s with body := s.body ++ d.take s.left, left := s.left - d.length, pl := if s.left ≤ d.length then 3 else 2 }
theorem step_data {s : Ck} (c : UInt8) (hp : s.pl = 2) : stepC s c = (0, { s with body := s.body ++ [c], left := s.left - 1, pl := if s.left = 1 then 3 else 2 }) := by
  unfold stepC
  rw [if_neg (by omega), if_neg (by omega), if_neg (by omega), if_pos hp]
theorem goC_data : ∀ (d : Bs) (i : Nat) (s : Ck), s.pl = 2 → s.whole = false → 0 < s.left → CkOk s → d ≠ [] → goC i s d = goC (i + min s.left d.length) (afterD s d) (d.drop s.left) ∧ CkOk (afterD s d)
  | [], i, s, _, _, _, _, h => absurd rfl h
  | [c], i, s, hp, hw, hl, ok, _ => by
    have e := step_data c hp
    have ea : afterD s [c] = { s with body := s.body ++ [c], left := s.left - 1, pl := if s.left = 1 then 3 else 2 } := by
      unfold afterD
      rw [List.take_of_length_le (by simp; omega)]
      congr 1
      by_cases h1 : s.left = 1
      · simp [h1]
      · rw [if_neg h1, if_neg (by simp; omega)]
    have hk := stepC_ok ok c
    rw [e] at hk
    rw [ea]
    refine ⟨?_, hk⟩
    conv => lhs; unfold goC
    rw [if_neg (by rw [hw]; simp), e, if_pos rfl]
    rw [show min s.left [c].length = 1 by simp; omega, List.drop_eq_nil_of_le (by simp; omega)]
  | c :: c2 :: d, i, s, hp, hw, hl, ok, _ => by
    have e := step_data c hp
    have hk := stepC_ok ok c
    rw [e] at hk
    by_cases h1 : s.left = 1
    · rw [if_pos h1] at e hk
      have ea : afterD s (c :: c2 :: d) = { s with body := s.body ++ [c], left := s.left - 1, pl := 3 } := by
        unfold afterD
        rw [if_pos (by simp; omega), h1]
        simp
      rw [ea]
      refine ⟨?_, hk⟩
      conv => lhs; unfold goC
      rw [if_neg (by rw [hw]; simp), e, if_pos rfl, h1]
      simp
    · rw [if_neg h1] at e hk
      obtain ⟨g1, g2⟩ := goC_data (c2 :: d) (i + 1) { s with body := s.body ++ [c], left := s.left - 1, pl := 2 } rfl hw (by simp only; omega) hk (by simp)
      have ea : afterD { s with body := s.body ++ [c], left := s.left - 1, pl := 2 } (c2 :: d) = afterD s (c :: c2 :: d) := by
        unfold afterD
        obtain ⟨q, hq⟩ : ∃ q, s.left = q + 1 := ⟨s.left - 1, by omega⟩
        have t1 : (if q + 1 - 1 ≤ (c2 :: d).length then 3 else 2) = (if q + 1 ≤ (c :: c2 :: d).length then 3 else 2) := by
          by_cases h2 : q + 1 ≤ (c :: c2 :: d).length
          · rw [if_pos h2, if_pos (by simp at h2 ⊢; omega)]
          · rw [if_neg h2, if_neg (by simp at h2 ⊢; omega)]
        have t2 : q + 1 - 1 - (c2 :: d).length = q + 1 - (c :: c2 :: d).length := by simp
        simp only [Nat.add_sub_cancel] at t1 t2
        simp only [hq, List.append_assoc, List.singleton_append, List.take_succ_cons, Nat.add_sub_cancel, t1, t2]
      rw [ea] at g1 g2
      refine ⟨?_, g2⟩
      conv => lhs; unfold goC
      rw [if_neg (by rw [hw]; simp), e, if_pos rfl]
      simp only
      rw [g1]
      obtain ⟨q, hq⟩ : ∃ q, s.left = q + 1 := ⟨s.left - 1, by omega⟩
      simp only [hq, List.drop_succ_cons, Nat.add_sub_cancel]
      rw [show i + 1 + min q (c2 :: d).length = i + min (q + 1) (c :: c2 :: d).length by simp; omega]
theorem LkOk.data {s : Ck} {dg : Nat} {mk mk2 : Bs} {bh : Nat} (d : Bs) (hf : s.fault = 0) (hw : s.whole = false) : (s.left ≤ d.length → LkOk (afterD s d) 2 0 0 [13, 10] 0) ∧ (d.length < s.left → LkOk (afterD s d) 1 0 (s.left - d.length) mk bh) := by
  refine ⟨fun h => ?_, fun h => ?_⟩
  · have e : (afterD s d).pl = 3 := by unfold afterD; simp only; rw [if_pos h]
    constructor <;> simp [e] <;> simp [afterD, hf, hw]
  · have e : (afterD s d).pl = 2 := by unfold afterD; simp only; rw [if_neg (by omega)]
    constructor <;> simp [e] <;> simp [afterD, hf, hw]
/-- A length's digit, its end. -/
theorem len_digit {s : Ck} {c : UInt8} {d : Nat} (hp : s.pl = 0) (hc : digC c = some d) (hd : s.dig < 6) : stepC s c = (0, { s with left := 16 * s.left + d, dig := s.dig + 1 }) := by
  unfold stepC
  rw [if_pos ⟨hp, by rw [hc]; rfl, hd⟩, hc]
  rfl
theorem len_bad {s : Ck} {c : UInt8} (hp : s.pl = 0) (hc : (digC c).isSome = false ∨ ¬ s.dig < 6) (h : ¬ c.toNat = 13 ∨ s.dig = 0) : stepC s c = (120, s) := by
  unfold stepC
  rw [if_neg (fun h => by rcases hc with h1 | h1; rw [h1] at h; exact absurd h.2.1 (by simp); exact h1 h.2.2)]
  by_cases h13 : c.toNat = 13
  · rw [if_pos ⟨hp, h13⟩, if_pos (h.resolve_left (fun e => e h13))]
  · rw [if_neg (fun h => h13 h.2), if_neg (by omega), if_neg (by omega), if_neg (by omega), if_neg (by omega), if_neg (by omega), if_neg (by omega)]
theorem len_end {s : Ck} {c : UInt8} (hp : s.pl = 0) (hc : (digC c).isSome = false ∨ ¬ s.dig < 6) (h13 : c.toNat = 13) (hd : ¬ s.dig = 0) : stepC s c = if s.most < s.left + s.body.length then (4, s) else (0, { s with pl := 1 }) := by
  unfold stepC
  rw [if_neg (fun h => by rcases hc with h1 | h1; rw [h1] at h; exact absurd h.2.1 (by simp); exact h1 h.2.2), if_pos ⟨hp, h13⟩, if_neg hd]
end Go.Proofs.YtjhameebehkdjaaGreatDoor
