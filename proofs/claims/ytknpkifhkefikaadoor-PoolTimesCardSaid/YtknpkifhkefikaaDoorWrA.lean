/-
  A writer of messages: plain bytes and places.
-/
import Derived.Test.YtknpkifhkefikaaDoorGa
import Derived.Test.YtknpkifhkefikaaDoorWa
import Derived.Test.YtknpkifhkefikaaDoorWmA
namespace Go.Proofs.YtknpkifhkefikaaDoor
open Go.RowKit
set_option linter.unusedVariables false
set_option maxRecDepth 100000

/-- What is written, and where names are. -/
structure Wt where
  b : Bs
  P : Bs → Option Nat
def tw (n : Nat) : Bs := [UInt8.ofNat (n / 256), UInt8.ofNat n]
def putP (P : Bs → Option Nat) (n : Bs) (a : Nat) : Bs → Option Nat := fun m => if m = n then some a else P m
def twW (n : Nat) (X : Wt) : Wt := ⟨X.b ++ tw n, X.P⟩
def nameW : List Bs → Wt → Wt
  | [], X => ⟨X.b ++ [0], X.P⟩
  | x :: L, X => match X.P (join (x :: L)) with
    | some p => ⟨X.b ++ tw (49152 + p), X.P⟩
    | none => nameW L ⟨X.b ++ UInt8.ofNat x.length :: x, if X.b.length < 16384 then putP X.P (join (x :: L)) X.b.length else X.P⟩
/-- The places are those of pointers. -/
def Wt.Ok (X : Wt) : Prop := ∀ n p, X.P n = some p → p < 16384
theorem putP_ok {X : Wt} {n : Bs} (h : X.Ok) (b : Bs) : Wt.Ok ⟨b, if X.b.length < 16384 then putP X.P n X.b.length else X.P⟩ := by
  intro m p hp
  simp only at hp
  split at hp
  · unfold putP at hp
    split at hp
    · injection hp with hp; omega
    · exact h m p hp
  · exact h m p hp
theorem nameW_ok : ∀ (L : List Bs) {X : Wt}, X.Ok → (nameW L X).Ok
  | [], X, h => fun m p hp => h m p hp
  | x :: L, X, h => by
    unfold nameW
    split
    · exact fun m p hp => h m p hp
    · exact nameW_ok L (putP_ok h _)
theorem tw_len (n : Nat) : (tw n).length = 2 := rfl
theorem nameW_len : ∀ (L : List Bs) (X : Wt), (∀ x ∈ L, Lab x) → X.b.length ≤ (nameW L X).b.length ∧ (nameW L X).b.length ≤ X.b.length + (join L).length
  | [], X, _ => by simp [nameW, join, enc]
  | x :: L, X, h => by
    have hj : (join (x :: L)).length = 1 + x.length + (join L).length := by simp [join, enc]; omega
    have hx := (h x (by simp)).1
    have hp : 1 ≤ (join L).length := by simp [join]
    unfold nameW
    split
    · simp only [List.length_append, tw_len]; omega
    · have ih := nameW_len L ⟨X.b ++ UInt8.ofNat x.length :: x, if X.b.length < 16384 then putP X.P (join (x :: L)) X.b.length else X.P⟩ fun y hy => h y (by simp [hy])
      simp only [List.length_append, List.length_cons] at ih
      omega
/-- What is written already stays. -/
theorem nameW_pre : ∀ (L : List Bs) (X : Wt), X.b <+: (nameW L X).b
  | [], X => ⟨[0], rfl⟩
  | x :: L, X => by
    unfold nameW
    split
    · exact ⟨_, rfl⟩
    · exact List.IsPrefix.trans ⟨_, rfl⟩ (nameW_pre L ⟨X.b ++ UInt8.ofNat x.length :: x, _⟩)

def nmW (n : Bs) (X : Wt) : Wt := nameW (labels n) X
theorem nmW_ok {X : Wt} (n : Bs) (h : X.Ok) : (nmW n X).Ok := nameW_ok _ h
theorem nmW_len {n : Bs} (X : Wt) (h : can n = true) : X.b.length ≤ (nmW n X).b.length ∧ (nmW n X).b.length ≤ X.b.length + n.length := by
  obtain ⟨_, _, e, hL⟩ := can_out h
  have := nameW_len (labels n) X hL
  rw [← e] at this
  exact this
theorem twW_ok {X : Wt} (n : Nat) (h : X.Ok) : (twW n X).Ok := fun m p hp => h m p hp
theorem twW_len (n : Nat) (X : Wt) : (twW n X).b.length = X.b.length + 2 := by simp [twW, tw_len]

def quW (q : Qu) (X : Wt) : Wt := twW q.c.toNat (twW q.t.toNat (nmW q.n X))
def aheadW (t : Int) : Nat := (shapeP t).1
def nmsW : List Bs → Wt → Wt
  | [], X => X
  | n :: l, X => nmsW l (nmW n X)
def sumL : List Bs → Nat
  | [] => 0
  | n :: l => n.length + sumL l
def daW (t : Int) (d : Bs) (X : Wt) : Wt :=
  let X2 := nmsW (namesD t d) ⟨X.b ++ [0, 0] ++ d.take (aheadW t), X.P⟩
  let b3 := X2.b ++ d.drop (aheadW t + sumL (namesD t d))
  let size := b3.length - (X.b.length + 2)
  ⟨(b3.set X.b.length (UInt8.ofNat (size / 256))).set (X.b.length + 1) (UInt8.ofNat size), X2.P⟩
def rrW (r : Rr) (X : Wt) : Wt := daW r.t r.d (twW r.ttl.toNat (twW (r.ttl.toNat / 65536) (twW r.c.toNat (twW r.t.toNat (nmW r.n X)))))
theorem nmsW_ok : ∀ (l : List Bs) {X : Wt}, X.Ok → (nmsW l X).Ok
  | [], _, h => h
  | n :: l, _, h => nmsW_ok l (nmW_ok n h)
theorem nmsW_len : ∀ (l : List Bs) (X : Wt), (∀ n ∈ l, can n = true) → X.b.length ≤ (nmsW l X).b.length ∧ (nmsW l X).b.length ≤ X.b.length + sumL l
  | [], X, _ => by simp [nmsW, sumL]
  | n :: l, X, h => by
    have h1 := nmW_len X (h n (by simp))
    have h2 := nmsW_len l (nmW n X) fun m hm => h m (by simp [hm])
    unfold nmsW sumL
    omega
theorem quW_ok {X : Wt} (q : Qu) (h : X.Ok) : (quW q X).Ok := twW_ok _ (twW_ok _ (nmW_ok _ h))
theorem daW_ok {X : Wt} (t : Int) (d : Bs) (h : X.Ok) : (daW t d X).Ok := nmsW_ok (namesD t d) (X := ⟨X.b ++ [0, 0] ++ d.take (aheadW t), X.P⟩) h
theorem rrW_ok {X : Wt} (r : Rr) (h : X.Ok) : (rrW r X).Ok := daW_ok _ _ (twW_ok _ (twW_ok _ (twW_ok _ (twW_ok _ (nmW_ok _ h)))))
theorem quW_len {q : Qu} (X : Wt) (h : can q.n = true) : X.b.length + 4 ≤ (quW q X).b.length ∧ (quW q X).b.length ≤ X.b.length + 259 := by
  have h1 := nmW_len X h
  have h2 := (can_out h).1
  unfold quW
  rw [twW_len, twW_len]
  omega
/-- The names in data are names, and no longer than these. -/
theorem namesD_can {t : Int} {d : Bs} (h : canD t d = true) : (∀ n ∈ namesD t d, can n = true) ∧ aheadW t + sumL (namesD t d) ≤ d.length ∧ d.length ≤ 65535 := by
  have hc := h
  unfold canD at h
  unfold namesD
  rw [if_pos hc]
  split at h
  · cases h
  rename_i hf
  have hd : d.length ≤ 65535 := by omega
  by_cases h1 : t = 2 ∨ t = 5 ∨ t = 12
  · rw [if_pos h1]
    have ha : aheadW t = 0 := by unfold aheadW shapeP; rw [if_pos h1]
    rw [if_neg (by omega), if_neg (by omega), if_pos h1] at h
    rw [ha]
    exact ⟨by simpa using h, by simp [sumL], hd⟩
  by_cases h2 : t = 15
  · subst h2
    have ha : aheadW 15 = 2 := rfl
    simp at h
    rw [ha, if_neg (by omega), if_pos rfl]
    exact ⟨by simpa using h.2, by simp [sumL]; omega, hd⟩
  by_cases h3 : t = 6
  · subst h3
    have ha : aheadW 6 = 0 := rfl
    simp at h
    rw [ha, if_neg (by omega), if_neg (by omega), if_pos rfl]
    unfold soa at h ⊢
    split at h
    · cases h
    rename_i i hi
    split at h
    · cases h
    rename_i j hj
    split at h
    · rename_i hl
      simp only [if_pos hl]
      have hi1 := nameLen_le hi
      have hj1 := nameLen_le hj
      refine ⟨?_, by simp [sumL]; omega, hd⟩
      intro n hn
      simp at hn
      rcases hn with rfl | rfl
      · exact (can_take hi1.2.1).2 hi
      · exact (can_take hj1.2.1).2 hj
    · cases h
  · have ha : aheadW t = 0 := by unfold aheadW shapeP; rw [if_neg h1, if_neg h2, if_neg h3]
    rw [if_neg h1, if_neg h2, if_neg h3, ha]
    exact ⟨by simp, by simp [sumL], hd⟩
theorem daW_len {t : Int} {d : Bs} (X : Wt) (h : canD t d = true) : X.b.length + 2 ≤ (daW t d X).b.length ∧ (daW t d X).b.length ≤ X.b.length + 2 + d.length := by
  obtain ⟨h1, h2, _⟩ := namesD_can h
  have h3 := nmsW_len (namesD t d) ⟨X.b ++ [0, 0] ++ d.take (aheadW t), X.P⟩ h1
  unfold daW
  simp only [List.length_set, List.length_append, List.length_drop, List.length_take, List.length_cons, List.length_nil] at h3 ⊢
  omega
theorem rrW_len {r : Rr} (X : Wt) (h : can r.n = true) (hd : canD r.t r.d = true) : X.b.length + 10 ≤ (rrW r X).b.length ∧ (rrW r X).b.length ≤ X.b.length + 265 + r.d.length := by
  have h1 := nmW_len X h
  have h2 := (can_out h).1
  have h3 := daW_len (twW r.ttl.toNat (twW (r.ttl.toNat / 65536) (twW r.c.toNat (twW r.t.toNat (nmW r.n X))))) hd
  simp only [twW_len] at h3
  unfold rrW
  omega
/-- Part by part, up to where it gets too long. -/
def partsW {α : Type} (f : α → Wt → Wt) : List α → Wt → Option Wt
  | [], X => some X
  | x :: l, X => if 65535 < (f x X).b.length then none else partsW f l (f x X)
theorem partsW_app {α : Type} (f : α → Wt → Wt) : ∀ (l m : List α) (X : Wt), partsW f (l ++ m) X = (partsW f l X).bind (partsW f m)
  | [], m, X => rfl
  | x :: l, m, X => by
    rw [List.cons_append]
    unfold partsW
    by_cases h : 65535 < (f x X).b.length
    · rw [if_pos h, if_pos h]
      rfl
    · rw [if_neg h, if_neg h]
      exact partsW_app f l m _
def canQ (q : Qu) : Bool := can q.n && (decide (0 ≤ q.t) && (decide (q.t ≤ 65535) && (decide (0 ≤ q.c) && decide (q.c ≤ 65535))))
def canR (r : Rr) : Bool := can r.n && (decide (0 ≤ r.t) && (decide (r.t ≤ 65535) && (decide (0 ≤ r.c) && (decide (r.c ≤ 65535) && (decide (0 ≤ r.ttl) && (decide (r.ttl ≤ 4294967295) && canD r.t r.d))))))
def Msg.rs (m : Msg) : List Rr := m.an ++ (m.au ++ m.ad)
end Go.Proofs.YtknpkifhkefikaaDoor
