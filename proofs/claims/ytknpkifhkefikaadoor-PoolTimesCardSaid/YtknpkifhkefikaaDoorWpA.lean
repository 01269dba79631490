/-
  How long a message is whose records bear the question's name: plain.
-/
import Derived.Test.YtknpkifhkefikaaDoorWrA
namespace Go.Proofs.YtknpkifhkefikaaDoor
open Go.RowKit
set_option linter.unusedVariables false
set_option maxRecDepth 100000

theorem join_len_cons (x : Bs) (L : List Bs) : (join (x :: L)).length = 1 + x.length + (join L).length := by simp [join, enc]; omega
theorem nameW_keep : ∀ (L : List Bs) (X : Wt) (m : Bs), (join L).length < m.length → (nameW L X).P m = X.P m
  | [], X, m, _ => rfl
  | x :: L, X, m, h => by
    have hj := join_len_cons x L
    unfold nameW
    split
    · rfl
    · rw [nameW_keep L _ m (by omega)]
      simp only
      split
      · unfold putP
        rw [if_neg]
        intro e
        rw [e] at h
        omega
      · rfl
theorem nameW_new : ∀ (L : List Bs) (X : Wt), (∀ m : Bs, m.length ≤ (join L).length → X.P m = none) → (nameW L X).b = X.b ++ join L
  | [], X, _ => rfl
  | x :: L, X, h => by
    have hj := join_len_cons x L
    unfold nameW
    rw [h _ (Nat.le_refl _)]
    simp only
    rw [nameW_new L]
    · simp [join, enc]
    · intro m hm
      simp only
      have h1 := h m (by omega)
      split
      · unfold putP
        rw [if_neg]
        · exact h1
        · intro e
          rw [e] at hm
          omega
      · exact h1
theorem nameW_puts (x : Bs) (L : List Bs) (X : Wt) (h : X.P (join (x :: L)) = none) (hl : X.b.length < 16384) : (nameW (x :: L) X).P (join (x :: L)) = some X.b.length := by
  have hj := join_len_cons x L
  unfold nameW
  rw [h]
  simp only
  rw [nameW_keep L _ _ (by omega)]
  simp only [if_pos hl]
  unfold putP
  rw [if_pos rfl]
/-- A name that is there, or the root's. -/
def ThereW (n : Bs) (X : Wt) : Prop := n ≠ [0] → ∃ p, X.P n = some p
def ownW (n : Bs) : Nat := if n = [0] then 1 else 2
theorem nmW_there {n : Bs} {X : Wt} (hc : can n = true) (h : ThereW n X) : (nmW n X).b.length = X.b.length + ownW n ∧ (nmW n X).P = X.P := by
  obtain ⟨_, _, e, hL⟩ := can_out hc
  unfold nmW ownW
  cases hl : labels n with
  | nil =>
    rw [hl] at e
    have e2 : n = [0] := e
    rw [if_pos e2]
    exact ⟨by simp [nameW], rfl⟩
  | cons x L =>
    rw [hl] at e
    have hx : 1 ≤ x.length := (hL x (by rw [hl]; simp)).1
    have hne : n ≠ [0] := fun e2 => by
      have := congrArg List.length (e.symm.trans e2)
      rw [join_len_cons] at this
      simp [join] at this
      omega
    obtain ⟨p, hp⟩ := h hne
    rw [e] at hp
    rw [if_neg hne]
    unfold nameW
    rw [hp]
    exact ⟨by simp [tw_len], rfl⟩
theorem nmW_first {n : Bs} {X : Wt} (hc : can n = true) (h : ∀ m, X.P m = none) (hl : X.b.length < 16384) : (nmW n X).b.length = X.b.length + n.length ∧ ThereW n (nmW n X) := by
  obtain ⟨_, _, e, hL⟩ := can_out hc
  refine ⟨?_, fun hne => ?_⟩
  · unfold nmW
    rw [nameW_new _ _ (fun m _ => h m), ← e, List.length_append]
  · unfold nmW
    cases hl2 : labels n with
    | nil =>
      rw [hl2] at e
      exact absurd e hne
    | cons x L =>
      rw [hl2] at e
      refine ⟨X.b.length, ?_⟩
      rw [e]
      exact nameW_puts x L X (h _) hl
theorem names300 (d : Bs) (hd : d.length ≤ 65535) : canD 300 d = true ∧ namesD 300 d = [] ∧ aheadW 300 = 0 := by
  have hc : canD 300 d = true := by unfold canD; rw [if_neg (by omega)]; simp
  exact ⟨hc, by unfold namesD; rw [if_pos hc]; simp, rfl⟩
theorem daW_there {d : Bs} (Y : Wt) (hd : d.length ≤ 65535) : (daW 300 d Y).b.length = Y.b.length + (2 + d.length) ∧ (daW 300 d Y).P = Y.P := by
  obtain ⟨_, h3, h4⟩ := names300 d hd
  unfold daW
  rw [h3, h4]
  refine ⟨?_, rfl⟩
  simp [nmsW, sumL]
  omega
theorem rrW_there {n d : Bs} {X : Wt} (hc : can n = true) (hd : d.length ≤ 65535) (h : ThereW n X) : (rrW ⟨n, 300, 1, 0, d⟩ X).b.length = X.b.length + (ownW n + 10 + d.length) ∧ (rrW ⟨n, 300, 1, 0, d⟩ X).P = X.P := by
  obtain ⟨h1, h2⟩ := nmW_there hc h
  unfold rrW
  obtain ⟨h3, h4⟩ := daW_there (twW (0 : Int).toNat (twW ((0 : Int).toNat / 65536) (twW (1 : Int).toNat (twW (300 : Int).toNat (nmW n X))))) hd
  refine ⟨?_, h4.trans h2⟩
  rw [h3, twW_len, twW_len, twW_len, twW_len, h1]
  omega
theorem parts_there {n d : Bs} (hc : can n = true) (hd : d.length ≤ 40) : ∀ (k : Nat) (X : Wt), ThereW n X → X.b.length + k * (ownW n + 10 + d.length) ≤ 65535 → ∃ X', partsW rrW (List.replicate k ⟨n, 300, 1, 0, d⟩) X = some X' ∧ X'.b.length = X.b.length + k * (ownW n + 10 + d.length)
  | 0, X, _, _ => ⟨X, rfl, by simp⟩
  | k + 1, X, h, hl => by
    obtain ⟨h1, h2⟩ := rrW_there (d := d) hc (by omega) h
    have ih := parts_there hc hd k (rrW ⟨n, 300, 1, 0, d⟩ X) (fun hne => by rw [h2]; exact h hne)
    generalize ownW n + 10 + d.length = E at *
    rw [Nat.succ_mul] at hl ⊢
    generalize k * E = K at *
    rw [List.replicate_succ, partsW, if_neg (by omega)]
    obtain ⟨X', h3, h4⟩ := ih (by omega)
    exact ⟨X', h3, by omega⟩
end Go.Proofs.YtknpkifhkefikaaDoor
