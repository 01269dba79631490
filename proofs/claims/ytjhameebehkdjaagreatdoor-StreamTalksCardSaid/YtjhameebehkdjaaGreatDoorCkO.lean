/-
  The plain machine of chunks: what holds at each step; what is asked of a reader of chunks: New, Feed, Body.
-/
import Derived.Test.YtjhameebehkdjaaGreatDoorCkA
import Derived.Test.YtjhameebehkdjaaGreatDoorMo
import Derived.Test.YtjhameebehkdjaaGreatDoorEnN
namespace Go.Proofs.YtjhameebehkdjaaGreatDoor
open Go.RowKit
set_option linter.unusedVariables false
set_option maxRecDepth 100000

/-- What digit answers. -/
def dgn (n : Nat) : Int := if 48 ≤ n ∧ n ≤ 57 then (n : Int) - 48 else if 97 ≤ n ∧ n ≤ 102 then (n : Int) - 87 else if 65 ≤ n ∧ n ≤ 70 then (n : Int) - 55 else -1
theorem dgn_some {c : UInt8} (h : (digC c).isSome) : 0 ≤ dgn c.toNat ∧ dgn c.toNat = ((digC c).getD 0 : Nat) ∧ (digC c).getD 0 < 16 := by
  unfold digC at *
  unfold dgn
  by_cases h1 : 48 ≤ c.toNat ∧ c.toNat ≤ 57
  · simp only [if_pos h1, Option.getD_some]; omega
  · by_cases h2 : 97 ≤ c.toNat ∧ c.toNat ≤ 102
    · simp only [if_neg h1, if_pos h2, Option.getD_some]; omega
    · by_cases h3 : 65 ≤ c.toNat ∧ c.toNat ≤ 70
      · simp only [if_neg h1, if_neg h2, if_pos h3, Option.getD_some]; omega
      · simp [if_neg h1, if_neg h2, if_neg h3] at h
theorem dgn_none {c : UInt8} (h : (digC c).isSome = false) : dgn c.toNat = -1 := by
  unfold digC at h
  unfold dgn
  split at h
  · cases h
  · split at h
    · cases h
    · split at h
      · cases h
      · rename_i h1 h2 h3
        rw [if_neg h1, if_neg h2, if_neg h3]
/-- What a call may turn. -/
def FX (g : Nat) (v : Value) : Nat → Prop := fun k => k = g ∨ v.ownBlock = some k
theorem grown_set (g i : Nat) (u : Value) (w : World) : w.grownBy (w.setCell ⟨g, i, none⟩ u) (some g) := by
  have := grownBy_setCells g [u] i w
  simpa [World.setCells] using this
structure CkOk (s : Ck) : Prop where
  most : s.most ≤ 65535
  pl : s.pl ≤ 6
  dig : s.dig ≤ 6
  left : s.left < 16777216
  num : s.pl = 0 → s.left < 16 ^ s.dig
  fits : s.body.length ≤ s.most
  room : s.pl = 1 ∨ s.pl = 2 → s.left + s.body.length ≤ s.most
  some : s.pl = 2 → 0 < s.left
  none : s.pl = 3 ∨ s.pl = 4 → s.left = 0
  fault : s.fault ≤ 1000
theorem pow16 {k : Nat} (h : k ≤ 6) : 16 ^ k ≤ 16777216 := by
  have : 16 ^ k ≤ 16 ^ 6 := Nat.pow_le_pow_right (by omega) h
  simpa using this
theorem newC_ok (m : Int) : CkOk (newC m) := by
  constructor <;> simp [newC]
  omega
theorem stepC_ok {s : Ck} (h : CkOk s) (c : UInt8) : CkOk (stepC s c).2 := by
  obtain ⟨h1, h2, h3, h4, h5, h6, h7, h8, h9, h10⟩ := h
  unfold stepC
  split
  · rename_i k
    have hd := h5 k.1
    have hb := (dgn_some k.2.1).2.2
    have hp : 16 * 16 ^ s.dig = 16 ^ (s.dig + 1) := by rw [Nat.pow_succ]; omega
    have hq := pow16 (show s.dig + 1 ≤ 6 by omega)
    constructor <;> simp only <;> first | assumption | omega
  · split
    · split
      · constructor <;> assumption
      · split
        · constructor <;> assumption
        · constructor <;> simp only <;> first | assumption | omega
    · split
      · rename_i k
        have := h7 (.inl k.1)
        by_cases hz : s.left = 0
        · constructor <;> simp only [if_pos hz] <;> first | assumption | omega
        · constructor <;> simp only [if_neg hz] <;> first | assumption | omega
      · split
        · rename_i k
          have := h7 (.inr k)
          have := h8 k
          by_cases hz : s.left = 1
          · constructor <;> simp only [if_pos hz, List.length_append, List.length_singleton] <;> first | assumption | omega
          · constructor <;> simp only [if_neg hz, List.length_append, List.length_singleton] <;> first | assumption | omega
        · split
          · rename_i k
            have := h9 (.inl k.1)
            constructor <;> simp only <;> first | assumption | omega
          · split
            · rename_i k
              have := h9 (.inr k.1)
              constructor <;> simp only <;> first | assumption | (simp only [this, Nat.pow_zero]; omega) | omega
            · split
              · constructor <;> simp only <;> first | assumption | omega
              · split
                · constructor <;> simp only <;> first | assumption | omega
                · constructor <;> assumption

theorem stepC_err0 (s : Ck) (c : UInt8) : (stepC s c).1 = 0 ∨ ((stepC s c).2 = s ∧ (stepC s c).1 ≤ 120) := by
  unfold stepC
  repeat' split
  all_goals first | exact .inl rfl | exact .inr ⟨rfl, Nat.le_refl _⟩ | exact .inr ⟨rfl, by simp⟩
theorem stepC_err {s : Ck} {c : UInt8} (h : (stepC s c).1 ≠ 0) : (stepC s c).2 = s ∧ (stepC s c).1 ≤ 120 := (stepC_err0 s c).resolve_left h
theorem goC_ok2 : ∀ (b : Bs) (i : Nat) (s : Ck), CkOk s → CkOk (goC i s b).2
  | [], i, s, h => h
  | c :: b, i, s, h => by
    unfold goC
    split
    · exact h
    · split
      · exact goC_ok2 b _ _ (stepC_ok h c)
      · rename_i he
        have := stepC_err he
        have h2 := stepC_ok h c
        exact ⟨h2.most, h2.pl, h2.dig, h2.left, h2.num, h2.fits, h2.room, h2.some, h2.none, by simp only; omega⟩
theorem feedC_ok2 {s : Ck} (b : Bs) (h : CkOk s) : CkOk (feedC s b).2 := by
  unfold feedC
  split
  · exact goC_ok2 b 0 s h
  · exact h
abbrev RdrC := World → (Nat → Prop) → Value → Ck → Prop
def NewCP (CR : RdrC) (w : World) (s : Ck) (e : Ending) (w' : World) : Prop := ∃ p F, e = .returned p ∧ CR w' F p s ∧ Below w.heap.size w w' ∧ ∀ k, F k → w.heap.size ≤ k
def FeedCP (CR : RdrC) (w : World) (F : Nat → Prop) (p : Value) (r : (Nat × Bool × Nat) × Ck) (e : Ending) (w' : World) : Prop := ∃ F', e = .returned (.tuple #[.int .i64 r.1.1, .bool r.1.2.1, .int .i64 r.1.2.2]) ∧ CR w' F' p r.2 ∧ Mod F w w' ∧ ∀ k, F' k → F k ∨ w.heap.size ≤ k
def BodyCP (w : World) (x : Bs) (e : Ending) (w' : World) : Prop := ∃ v, e = .returned v ∧ OwnB w' w.heap.size v x ∧ Below w.heap.size w w'
structure CkI (fN fF fB : FuncId) (CR : RdrC) : Prop where
  mod : ∀ {S F : Nat → Prop} {w w1 : World} {p : Value} {s : Ck}, CR w F p s → Mod S w w1 → (∀ i, F i → ¬ S i) → CR w1 F p s
  lt : ∀ {F : Nat → Prop} {w : World} {p : Value} {s : Ck}, CR w F p s → ∀ k, F k → k < w.heap.size
  new : ∀ (most : Int) (w : World), -9223372036854775808 ≤ most → most ≤ 9223372036854775807 → Calls Tryz.prog fN #[.int .i64 most] w (NewCP CR w (newC most))
  feed : ∀ {F : Nat → Prop} {p : Value} {s : Ck} {b : Bs} {A : Option Addr} {c : Nat} {w : World}, CR w F p s → Sl w A c b → (b ≠ [] → Off F A) → Calls Tryz.prog fF #[p, .slice A b.length c] w (FeedCP CR w F p (feedC s b))
  body : ∀ {F : Nat → Prop} {p : Value} {s : Ck} {w : World}, CR w F p s → Calls Tryz.prog fB #[p] w (BodyCP w s.body)
theorem CkI.on {fN fF fB : FuncId} {CR : RdrC} (I : CkI fN fF fB CR) {F : Nat → Prop} {w w1 : World} {p : Value} {s : Ck} (h : CR w F p s) (k : Below w.heap.size w w1) : CR w1 F p s := I.mod (S := fun _ => False) h (Mod.below k) (fun _ _ e => e)
end Go.Proofs.YtjhameebehkdjaaGreatDoor
