/-
  What is read of a message's bytes, as plain data.
  What was written is read: names through their pointers, data, records, messages. Plain data.
-/
import Derived.Test.YtknpkifhkefikaaDoorWrA
namespace Go.Proofs.YtknpkifhkefikaaDoor
set_option linter.unusedVariables false
set_option maxRecDepth 100000

/-- What is read, and where it ends; or the error. -/
inductive Rd (α : Type) where
  | ok (x : α) (z : Nat)
  | no (e : Nat)
def Rd.then {α β : Type} (r : Rd α) (f : α → Nat → Rd β) : Rd β := match r with
  | .ok x z => f x z
  | .no e => .no e
theorem Rd.then_ok {α β : Type} (x : α) (z : Nat) (f : α → Nat → Rd β) : (Rd.ok x z).then f = f x z := rfl
theorem Rd.then_no {α β : Type} (e : Nat) (f : α → Nat → Rd β) : (Rd.no e : Rd α).then f = .no e := rfl
theorem Rd.then_out {α β : Type} {r : Rd α} {f : α → Nat → Rd β} {y : β} {z : Nat} (h : r.then f = .ok y z) : ∃ x k, r = .ok x k ∧ f x k = .ok y z := by
  cases r with
  | ok x k => exact ⟨x, k, rfl, h⟩
  | no e => cases h
def vN (l : Bs) : Nat := l.foldl (fun n x => n * 256 + x.toNat) 0
def takR (sh : Nat) (b : Bs) (p k : Nat) : Rd Bs := if b.length < p + k then .no sh else .ok ((b.drop p).take k) (p + k)
def numR (sh : Nat) (b : Bs) (p k : Nat) : Rd Nat := (takR sh b p k).then fun l z => .ok (vN l) z
/-- The bytes of a name, and where it ends at its own place. -/
def nmR (sh : Nat) (b : Bs) (g p bh : Nat) (acc : Bs) : Rd Bs :=
  if h : p < b.length then
    if 192 ≤ b[p].toNat then
      if h2 : p + 1 < b.length then
        if hp : (b[p].toNat - 192) * 256 + b[p + 1].toNat < g then
          nmR sh b ((b[p].toNat - 192) * 256 + b[p + 1].toNat) ((b[p].toNat - 192) * 256 + b[p + 1].toNat) (if bh = 0 then p + 2 else bh) acc
        else .no 40
      else .no sh
    else if 63 < b[p].toNat then .no 10
    else if hk : p + 1 + b[p].toNat ≤ b.length then
      if b[p].toNat = 0 then .ok (acc ++ [0]) (if bh = 0 then p + 1 else bh)
      else if 255 < acc.length + b[p].toNat + 2 then .no 11
      else nmR sh b g (p + 1 + b[p].toNat) bh (acc ++ b[p] :: (b.drop (p + 1)).take b[p].toNat)
    else .no sh
  else .no sh
termination_by (g, b.length - p)
decreasing_by
  · exact Prod.Lex.left _ _ hp
  · exact Prod.Lex.right _ (by omega)
theorem nmR_end {sh : Nat} {b : Bs} {g p bh : Nat} {acc : Bs} (h : ¬ p < b.length) : nmR sh b g p bh acc = .no sh := by rw [nmR, dif_neg h]
theorem nmR_half {sh : Nat} {b : Bs} {g p bh : Nat} {acc : Bs} (h : p < b.length) (h1 : 192 ≤ b[p].toNat) (h2 : ¬ p + 1 < b.length) : nmR sh b g p bh acc = .no sh := by rw [nmR, dif_pos h, if_pos h1, dif_neg h2]
theorem nmR_ahead {sh : Nat} {b : Bs} {g p bh : Nat} {acc : Bs} (h : p < b.length) (h1 : 192 ≤ b[p].toNat) (h2 : p + 1 < b.length) (h3 : ¬ (b[p].toNat - 192) * 256 + b[p + 1].toNat < g) : nmR sh b g p bh acc = .no 40 := by rw [nmR, dif_pos h, if_pos h1, dif_pos h2, dif_neg h3]
theorem nmR_back {sh : Nat} {b : Bs} {g p bh : Nat} {acc : Bs} (h : p < b.length) (h1 : 192 ≤ b[p].toNat) (h2 : p + 1 < b.length) (h3 : (b[p].toNat - 192) * 256 + b[p + 1].toNat < g) : nmR sh b g p bh acc = nmR sh b ((b[p].toNat - 192) * 256 + b[p + 1].toNat) ((b[p].toNat - 192) * 256 + b[p + 1].toNat) (if bh = 0 then p + 2 else bh) acc := by rw [nmR, dif_pos h, if_pos h1, dif_pos h2, dif_pos h3]
theorem nmR_wide {sh : Nat} {b : Bs} {g p bh : Nat} {acc : Bs} (h : p < b.length) (h1 : ¬ 192 ≤ b[p].toNat) (h2 : 63 < b[p].toNat) : nmR sh b g p bh acc = .no 10 := by rw [nmR, dif_pos h, if_neg h1, if_pos h2]
theorem nmR_cut {sh : Nat} {b : Bs} {g p bh : Nat} {acc : Bs} (h : p < b.length) (h2 : ¬ 63 < b[p].toNat) (h3 : ¬ p + 1 + b[p].toNat ≤ b.length) : nmR sh b g p bh acc = .no sh := by rw [nmR, dif_pos h, if_neg (by omega), if_neg h2, dif_neg h3]
theorem nmR_root {sh : Nat} {b : Bs} {g p bh : Nat} {acc : Bs} (h : p < b.length) (h0 : b[p].toNat = 0) : nmR sh b g p bh acc = .ok (acc ++ [0]) (if bh = 0 then p + 1 else bh) := by rw [nmR, dif_pos h, if_neg (by omega), if_neg (by omega), dif_pos (by omega), if_pos h0]
theorem nmR_long {sh : Nat} {b : Bs} {g p bh : Nat} {acc : Bs} (h : p < b.length) (h2 : ¬ 63 < b[p].toNat) (h3 : p + 1 + b[p].toNat ≤ b.length) (h0 : b[p].toNat ≠ 0) (h4 : 255 < acc.length + b[p].toNat + 2) : nmR sh b g p bh acc = .no 11 := by rw [nmR, dif_pos h, if_neg (by omega), if_neg h2, dif_pos h3, if_neg h0, if_pos h4]
theorem nmR_label {sh : Nat} {b : Bs} {g p bh : Nat} {acc : Bs} (h : p < b.length) (h2 : ¬ 63 < b[p].toNat) (h3 : p + 1 + b[p].toNat ≤ b.length) (h0 : b[p].toNat ≠ 0) (h4 : ¬ 255 < acc.length + b[p].toNat + 2) : nmR sh b g p bh acc = nmR sh b g (p + 1 + b[p].toNat) bh (acc ++ b[p] :: (b.drop (p + 1)).take b[p].toNat) := by
  rw [nmR, dif_pos h, if_neg (by omega), if_neg h2, dif_pos h3, if_neg h0, if_neg h4]
/-- A name that is read ends within the bytes. -/
theorem nmR_le (sh : Nat) (b : Bs) (g p bh : Nat) (acc : Bs) {n : Bs} {z : Nat} (hb : bh ≤ b.length) (h : nmR sh b g p bh acc = .ok n z) : z ≤ b.length ∧ (acc.length ≤ 254 → n.length ≤ 255) := by
  by_cases h0 : p < b.length
  · by_cases h1 : 192 ≤ b[p].toNat
    · by_cases h2 : p + 1 < b.length
      · by_cases h3 : (b[p].toNat - 192) * 256 + b[p + 1].toNat < g
        · rw [nmR_back h0 h1 h2 h3] at h
          exact nmR_le sh b _ _ _ _ (by split <;> omega) h
        · rw [nmR_ahead h0 h1 h2 h3] at h; cases h
      · rw [nmR_half h0 h1 h2] at h; cases h
    · by_cases h2 : 63 < b[p].toNat
      · rw [nmR_wide h0 h1 h2] at h; cases h
      · by_cases hz : b[p].toNat = 0
        · rw [nmR_root h0 hz] at h
          injection h with e1 e2
          subst e1 e2
          exact ⟨by split <;> omega, fun h => by rw [List.length_append]; simp; omega⟩
        · by_cases h3 : p + 1 + b[p].toNat ≤ b.length
          · by_cases h4 : 255 < acc.length + b[p].toNat + 2
            · rw [nmR_long h0 h2 h3 hz h4] at h; cases h
            · rw [nmR_label h0 h2 h3 hz h4] at h
              have := nmR_le sh b g _ bh _ hb h
              refine ⟨this.1, fun _ => this.2 ?_⟩
              rw [List.length_append, List.length_cons, List.length_take]
              omega
          · rw [nmR_cut h0 h2 h3] at h; cases h
  · rw [nmR_end h0] at h; cases h
termination_by (g, b.length - p)
decreasing_by
  · exact Prod.Lex.left _ _ h3
  · exact Prod.Lex.right _ (by omega)
/-- Bytes behind play no part where a name is read. -/
theorem nmR_more (sh sh' : Nat) (b c : Bs) (g p bh : Nat) (acc : Bs) {n : Bs} {z : Nat} (h : nmR sh b g p bh acc = .ok n z) : nmR sh' (b ++ c) g p bh acc = .ok n z := by
  have hl : b.length ≤ (b ++ c).length := by simp
  by_cases h0 : p < b.length
  · have h0' : p < (b ++ c).length := by omega
    have e0 : (b ++ c)[p] = b[p] := List.getElem_append_left h0
    by_cases h1 : 192 ≤ b[p].toNat
    · by_cases h2 : p + 1 < b.length
      · have h2' : p + 1 < (b ++ c).length := by omega
        have e2 : (b ++ c)[p + 1] = b[p + 1] := List.getElem_append_left h2
        by_cases h3 : (b[p].toNat - 192) * 256 + b[p + 1].toNat < g
        · rw [nmR_back h0 h1 h2 h3] at h
          rw [nmR_back h0' (by rw [e0]; exact h1) h2' (by rw [e0, e2]; exact h3)]
          simp only [e0, e2]
          exact nmR_more sh sh' b c _ _ _ _ h
        · rw [nmR_ahead h0 h1 h2 h3] at h; cases h
      · rw [nmR_half h0 h1 h2] at h; cases h
    · by_cases h2 : 63 < b[p].toNat
      · rw [nmR_wide h0 h1 h2] at h; cases h
      · by_cases hz : b[p].toNat = 0
        · rw [nmR_root h0 hz] at h
          rw [nmR_root h0' (by rw [e0]; exact hz)]
          exact h
        · by_cases h3 : p + 1 + b[p].toNat ≤ b.length
          · by_cases h4 : 255 < acc.length + b[p].toNat + 2
            · rw [nmR_long h0 h2 h3 hz h4] at h; cases h
            · rw [nmR_label h0 h2 h3 hz h4] at h
              rw [nmR_label h0' (by rw [e0]; exact h2) (by rw [e0]; omega) (by rw [e0]; exact hz) (by rw [e0]; exact h4)]
              simp only [e0]
              rw [List.drop_append_of_le_length (by omega), List.take_append_of_le_length (by rw [List.length_drop]; omega)]
              exact nmR_more sh sh' b c g _ bh _ h
          · rw [nmR_cut h0 h2 h3] at h; cases h
  · rw [nmR_end h0] at h; cases h
termination_by (g, b.length - p)
decreasing_by
  · exact Prod.Lex.left _ _ h3
  · exact Prod.Lex.right _ (by omega)

/-- So many names, one behind the other. -/
def nsR (sh : Nat) (b : Bs) : Nat → Nat → Bs → Rd Bs
  | 0, p, acc => .ok acc p
  | k + 1, p, acc => (nmR sh b p p 0 []).then fun n z => nsR sh b k z (acc ++ n)
def daR (b : Bs) (t : Int) (p size : Nat) : Rd Bs :=
  (takR 20 b p size).then fun _ z => (takR 30 (b.take z) p (shapeP t).1).then fun a z1 => (nsR 30 (b.take z) (shapeP t).2.1 z1 a).then fun d z2 =>
    if canD t (d ++ (b.take z).drop z2) = true then .ok (d ++ (b.take z).drop z2) z else .no 30
def reR (b : Bs) (p : Nat) : Rd Rr :=
  (nmR 20 b p p 0 []).then fun n z1 => (numR 20 b z1 2).then fun t z2 => (numR 20 b z2 2).then fun c z3 => (numR 20 b z3 4).then fun ttl z4 => (numR 20 b z4 2).then fun size z5 => (daR b t z5 size).then fun d z6 => .ok ⟨n, t, c, ttl, d⟩ z6
def quR (b : Bs) (p : Nat) : Rd Qu :=
  (nmR 20 b p p 0 []).then fun n z1 => (numR 20 b z1 2).then fun t z2 => (numR 20 b z2 2).then fun c z3 => .ok ⟨n, t, c⟩ z3
def manyR {α : Type} (f : Nat → Rd α) : Nat → Nat → List α → Rd (List α)
  | 0, p, acc => .ok acc p
  | k + 1, p, acc => (f p).then fun x z => manyR f k z (acc ++ [x])
abbrev Parts := List Qu × List Rr × List Rr × List Rr
def msR (b : Bs) (n0 n1 n2 n3 : Nat) : Rd Parts :=
  (manyR (quR b) n0 12 []).then fun q z => (manyR (reR b) n1 z []).then fun r1 z1 => (manyR (reR b) n2 z1 []).then fun r2 z2 => (manyR (reR b) n3 z2 []).then fun r3 z3 =>
    if z3 < b.length then .no 41 else .ok (q, r1, r2, r3) z3

theorem takR_le {sh : Nat} {b : Bs} {p k : Nat} {x : Bs} {z : Nat} (h : takR sh b p k = .ok x z) : z ≤ b.length ∧ z = p + k ∧ x = (b.drop p).take k := by
  unfold takR at h
  split at h
  · cases h
  · injection h with e1 e2
    subst e1 e2
    exact ⟨by omega, rfl, rfl⟩
theorem numR_le {sh : Nat} {b : Bs} {p k x z : Nat} (h : numR sh b p k = .ok x z) : z ≤ b.length ∧ z = p + k := by
  obtain ⟨y, z', h1, h2⟩ := Rd.then_out h
  injection h2 with e1 e2
  subst e2
  exact ⟨(takR_le h1).1, (takR_le h1).2.1⟩
theorem vN_snoc (l : Bs) (x : UInt8) : vN (l ++ [x]) = vN l * 256 + x.toNat := by simp [vN]
theorem vN_lt : ∀ (n : Nat) (l : Bs), l.length = n → vN l < 256 ^ n
  | 0, l, h => by rw [List.length_eq_zero_iff] at h; subst h; simp [vN]
  | n + 1, l, h => by
    have hne : l ≠ [] := by intro e; subst e; simp at h
    rw [← List.dropLast_concat_getLast hne, vN_snoc]
    have ih := vN_lt n l.dropLast (by rw [List.length_dropLast]; omega)
    have := (l.getLast hne).toNat_lt
    rw [Nat.pow_succ]
    omega
theorem numR_lt {sh : Nat} {b : Bs} {p k x z : Nat} (h : numR sh b p k = .ok x z) : x < 256 ^ k := by
  obtain ⟨y, z', h1, h2⟩ := Rd.then_out h
  injection h2 with e1 e2
  obtain ⟨h3, h4, h5⟩ := takR_le h1
  have : y.length = k := by rw [h5, List.length_take, List.length_drop]; omega
  have := vN_lt k y this
  omega
theorem nsR_le {sh : Nat} {b : Bs} : ∀ {k p : Nat} {acc x : Bs} {z : Nat}, p ≤ b.length → nsR sh b k p acc = .ok x z → z ≤ b.length
  | 0, p, acc, x, z, hp, h => by injection h with e1 e2; omega
  | k + 1, p, acc, x, z, hp, h => by
    obtain ⟨n, z1, h1, h2⟩ := Rd.then_out h
    exact nsR_le (nmR_le sh b p p 0 [] (by omega) h1).1 h2
theorem daR_le {b : Bs} {t : Int} {p size : Nat} {x : Bs} {z : Nat} (h : daR b t p size = .ok x z) : z ≤ b.length ∧ z = p + size := by
  obtain ⟨y, z1, h1, h2⟩ := Rd.then_out h
  obtain ⟨y2, z2, h3, h4⟩ := Rd.then_out h2
  obtain ⟨y3, z3, h5, h6⟩ := Rd.then_out h4
  split at h6
  · injection h6 with e1 e2
    subst e2
    exact ⟨(takR_le h1).1, (takR_le h1).2.1⟩
  · cases h6
theorem reR_le {b : Bs} {p : Nat} {x : Rr} {z : Nat} (h : reR b p = .ok x z) : z ≤ b.length := by
  obtain ⟨_, _, h1, h⟩ := Rd.then_out h
  obtain ⟨_, _, h2, h⟩ := Rd.then_out h
  obtain ⟨_, _, h3, h⟩ := Rd.then_out h
  obtain ⟨_, _, h4, h⟩ := Rd.then_out h
  obtain ⟨_, _, h5, h⟩ := Rd.then_out h
  obtain ⟨_, _, h6, h⟩ := Rd.then_out h
  injection h with e1 e2
  subst e2
  exact (daR_le h6).1
theorem quR_le {b : Bs} {p : Nat} {x : Qu} {z : Nat} (h : quR b p = .ok x z) : z ≤ b.length := by
  obtain ⟨_, _, h1, h⟩ := Rd.then_out h
  obtain ⟨_, _, h2, h⟩ := Rd.then_out h
  obtain ⟨_, _, h3, h⟩ := Rd.then_out h
  injection h with e1 e2
  subst e2
  exact (numR_le h3).1

/-- A byte more. -/
theorem takR_more {sh : Nat} (sh' : Nat) {b : Bs} (c : Bs) {p k : Nat} {x : Bs} {z : Nat} (h : takR sh b p k = .ok x z) : takR sh' (b ++ c) p k = .ok x z := by
  obtain ⟨h1, h2, h3⟩ := takR_le h
  unfold takR
  rw [if_neg (by rw [List.length_append]; omega), h3, h2, List.drop_append_of_le_length (by omega), List.take_append_of_le_length (by rw [List.length_drop]; omega)]
theorem numR_more {sh : Nat} (sh' : Nat) {b : Bs} (c : Bs) {p k x z : Nat} (h : numR sh b p k = .ok x z) : numR sh' (b ++ c) p k = .ok x z := by
  obtain ⟨y, z', h1, h2⟩ := Rd.then_out h
  unfold numR
  rw [takR_more sh' c h1]
  exact h2
theorem daR_more {b : Bs} (c : Bs) {t : Int} {p size : Nat} {x : Bs} {z : Nat} (h : daR b t p size = .ok x z) : daR (b ++ c) t p size = .ok x z := by
  obtain ⟨y, z1, h1, h2⟩ := Rd.then_out h
  unfold daR
  rw [takR_more 20 c h1, Rd.then_ok, List.take_append_of_le_length (takR_le h1).1]
  exact h2
theorem quR_more {b : Bs} (c : Bs) {p : Nat} {x : Qu} {z : Nat} (h : quR b p = .ok x z) : quR (b ++ c) p = .ok x z := by
  obtain ⟨_, _, h1, h⟩ := Rd.then_out h
  obtain ⟨_, _, h2, h⟩ := Rd.then_out h
  obtain ⟨_, _, h3, h⟩ := Rd.then_out h
  unfold quR
  rw [nmR_more 20 20 b c _ _ _ _ h1, Rd.then_ok, numR_more 20 c h2, Rd.then_ok, numR_more 20 c h3, Rd.then_ok]
  exact h
theorem reR_more {b : Bs} (c : Bs) {p : Nat} {x : Rr} {z : Nat} (h : reR b p = .ok x z) : reR (b ++ c) p = .ok x z := by
  obtain ⟨_, _, h1, h⟩ := Rd.then_out h
  obtain ⟨_, _, h2, h⟩ := Rd.then_out h
  obtain ⟨_, _, h3, h⟩ := Rd.then_out h
  obtain ⟨_, _, h4, h⟩ := Rd.then_out h
  obtain ⟨_, _, h5, h⟩ := Rd.then_out h
  obtain ⟨_, _, h6, h⟩ := Rd.then_out h
  unfold reR
  rw [nmR_more 20 20 b c _ _ _ _ h1, Rd.then_ok, numR_more 20 c h2, Rd.then_ok, numR_more 20 c h3, Rd.then_ok, numR_more 20 c h4, Rd.then_ok, numR_more 20 c h5, Rd.then_ok, daR_more c h6, Rd.then_ok]
  exact h
theorem manyR_more {α : Type} {f g : Nat → Rd α} (hf : ∀ p x z, f p = .ok x z → g p = .ok x z) : ∀ {k p : Nat} {acc L : List α} {z : Nat}, manyR f k p acc = .ok L z → manyR g k p acc = .ok L z
  | 0, p, acc, L, z, h => h
  | k + 1, p, acc, L, z, h => by
    obtain ⟨x, z1, h1, h2⟩ := Rd.then_out h
    unfold manyR
    rw [hf _ _ _ h1, Rd.then_ok]
    exact manyR_more hf h2
theorem manyR_le {α : Type} {f : Nat → Rd α} {m : Nat} (hf : ∀ p x z, f p = .ok x z → z ≤ m) : ∀ {k p : Nat} {acc L : List α} {z : Nat}, p ≤ m → manyR f k p acc = .ok L z → z ≤ m
  | 0, p, acc, L, z, hp, h => by injection h with e1 e2; omega
  | k + 1, p, acc, L, z, hp, h => by
    obtain ⟨x, z1, h1, h2⟩ := Rd.then_out h
    exact manyR_le hf (hf _ _ _ h1) h2
/-- A byte behind a message that is read. -/
theorem msR_trail {b : Bs} (c : UInt8) {n0 n1 n2 n3 : Nat} {x : Parts} {z : Nat} (hb : 12 ≤ b.length) (h : msR b n0 n1 n2 n3 = .ok x z) : msR (b ++ [c]) n0 n1 n2 n3 = .no 41 := by
  obtain ⟨_, _, h1, h⟩ := Rd.then_out h
  obtain ⟨_, _, h2, h⟩ := Rd.then_out h
  obtain ⟨_, _, h3, h⟩ := Rd.then_out h
  obtain ⟨_, z4, h4, h⟩ := Rd.then_out h
  have b1 := manyR_le (m := b.length) (fun p x z => quR_le) hb h1
  have b2 := manyR_le (m := b.length) (fun p x z => reR_le) b1 h2
  have b3 := manyR_le (m := b.length) (fun p x z => reR_le) b2 h3
  have b4 := manyR_le (m := b.length) (fun p x z => reR_le) b3 h4
  unfold msR
  rw [manyR_more (g := quR (b ++ [c])) (fun p x z => quR_more [c]) h1, Rd.then_ok, manyR_more (g := reR (b ++ [c])) (fun p x z => reR_more [c]) h2, Rd.then_ok, manyR_more (g := reR (b ++ [c])) (fun p x z => reR_more [c]) h3, Rd.then_ok, manyR_more (g := reR (b ++ [c])) (fun p x z => reR_more [c]) h4, Rd.then_ok, if_pos (by simp; omega)]
end Go.Proofs.YtknpkifhkefikaaDoor
namespace Go.Proofs.YtknpkifhkefikaaDoor
set_option linter.unusedVariables false
set_option maxRecDepth 100000

/-- Labels are read at a place; where they end at that place. -/
inductive RdsN (b : Bs) : Nat → Nat → List Bs → Nat → Prop where
  | zero {g p : Nat} (h : [0] <+: b.drop p) : RdsN b g p [] (p + 1)
  | label {g p : Nat} {x : Bs} {L : List Bs} {z : Nat} (hx : Lab x) (hb : (UInt8.ofNat x.length :: x) <+: b.drop p) (h : RdsN b g (p + 1 + x.length) L z) : RdsN b g p (x :: L) z
  | ptr {g p q : Nat} {L : List Bs} {z : Nat} (hq : q < g) (hq2 : q < 16384) (hb : tw (49152 + q) <+: b.drop p) (h : RdsN b q q L z) : RdsN b g p L (p + 2)
theorem drop_pre {a b : Bs} (h : a <+: b) (p : Nat) : a.drop p <+: b.drop p := by
  obtain ⟨c, rfl⟩ := h
  rw [List.drop_append]
  exact ⟨_, rfl⟩
theorem RdsN.more {b b' : Bs} (hb : b <+: b') {g p : Nat} {L : List Bs} {z : Nat} (h : RdsN b g p L z) : RdsN b' g p L z := by
  induction h with
  | zero h => exact .zero (h.trans (drop_pre hb _))
  | label hx h _ ih => exact .label hx (h.trans (drop_pre hb _)) ih
  | ptr hq hq2 h _ ih => exact .ptr hq hq2 (h.trans (drop_pre hb _)) ih
theorem RdsN.wide {b : Bs} {g p : Nat} {L : List Bs} {z : Nat} (h : RdsN b g p L z) : ∀ {g' : Nat}, g ≤ g' → RdsN b g' p L z := by
  induction h with
  | zero h => exact fun _ => .zero h
  | label hx h _ ih => exact fun hg => .label hx h (ih hg)
  | ptr hq hq2 h h2 _ => exact fun hg => .ptr (Nat.lt_of_lt_of_le hq hg) hq2 h h2
theorem pre_at {k : UInt8} {r b : Bs} {p : Nat} (h : (k :: r) <+: b.drop p) : ∃ hp : p < b.length, b[p] = k ∧ r <+: b.drop (p + 1) := by
  obtain ⟨c, hc⟩ := h
  have hp : p < b.length := by
    have := congrArg List.length hc
    simp at this
    omega
  rw [List.drop_eq_getElem_cons hp, List.cons_append] at hc
  injection hc with h1 h2
  exact ⟨hp, h1.symm, c, h2⟩
theorem pre_take {r b : Bs} (h : r <+: b) : b.take r.length = r := by
  obtain ⟨c, rfl⟩ := h
  exact List.take_left
theorem tw_ptr {q : Nat} (h : q < 16384) : (UInt8.ofNat ((49152 + q) / 256)).toNat = 192 + q / 256 ∧ (UInt8.ofNat (49152 + q)).toNat = q % 256 := by
  constructor <;> simp <;> omega
theorem RdsN.nmR {sh : Nat} {b : Bs} {g p : Nat} {L : List Bs} {z : Nat} (h : RdsN b g p L z) : ∀ (bh : Nat) (acc : Bs), acc.length + (join L).length ≤ 255 → nmR sh b g p bh acc = .ok (acc ++ join L) (if bh = 0 then z else bh) := by
  induction h with
  | zero h =>
    intro bh acc hl
    obtain ⟨hp, h0, _⟩ := pre_at h
    rw [nmR_root hp (by rw [h0]; rfl)]
    rfl
  | @label g p x L z hx hb h ih =>
    intro bh acc hl
    obtain ⟨hp, h0, h1⟩ := pre_at hb
    have hn := toNat_len hx
    have hle : x.length ≤ b.length - (p + 1) := by have := h1.length_le; rw [List.length_drop] at this; exact this
    have hj : (join (x :: L)).length = 1 + x.length + (join L).length := by simp [join, enc]; omega
    have hjp : 1 ≤ (join L).length := by simp [join]
    have hx1 := hx.1
    have hx2 := hx.2
    have e0 : (b[p]).toNat = x.length := by rw [h0, hn]
    rw [nmR_label hp (by omega) (by omega) (by omega) (by omega), e0, pre_take h1, h0, ih bh _ (by rw [List.length_append, List.length_cons]; omega)]
    have : acc ++ UInt8.ofNat x.length :: x ++ join L = acc ++ join (x :: L) := by simp [join, enc]
    rw [this]
  | @ptr g p q L z hq hq2 hb h ih =>
    intro bh acc hl
    obtain ⟨hp, h0, h1⟩ := pre_at hb
    obtain ⟨hp1, h2, _⟩ := pre_at h1
    obtain ⟨e1, e2⟩ := tw_ptr hq2
    have e3 : (b[p]).toNat = 192 + q / 256 := by rw [h0, e1]
    have e4 : (b[p + 1]).toNat = q % 256 := by rw [h2, e2]
    have e5 : ((b[p]).toNat - 192) * 256 + (b[p + 1]).toNat = q := by omega
    rw [nmR_back hp (by omega) hp1 (by omega), e5, ih _ acc hl]
    congr 1
    by_cases hb0 : bh = 0
    · rw [if_pos hb0, if_neg (by omega)]
    · rw [if_neg hb0, if_neg hb0]

def GoodAt (b n : Bs) (p : Nat) : Prop := p < 16384 ∧ p < b.length ∧ ∃ L z, n = join L ∧ (∀ x ∈ L, Lab x) ∧ RdsN b p p L z
def Wt.Good (X : Wt) : Prop := ∀ n p, X.P n = some p → GoodAt X.b n p
theorem GoodAt.more {b b' n : Bs} {p : Nat} (h : GoodAt b n p) (hb : b <+: b') : GoodAt b' n p := by
  obtain ⟨h1, h2, L, z, h3, h4, h5⟩ := h
  exact ⟨h1, Nat.lt_of_lt_of_le h2 hb.length_le, L, z, h3, h4, h5.more hb⟩
theorem join_inj {L M : List Bs} (hL : ∀ x ∈ L, Lab x) (hM : ∀ x ∈ M, Lab x) (h : join L = join M) : L = M := by
  have h1 := labs_join hL
  rw [h, labs_join hM] at h1
  injection h1 with h1
  exact h1.symm
theorem nameW_reads : ∀ (L : List Bs) (X : Wt) (s : Nat), (∀ x ∈ L, Lab x) → s ≤ X.b.length → (∀ n p, X.P n = some p → n.length ≤ (join L).length → GoodAt X.b n p ∧ p < s) →
    RdsN (nameW L X).b s X.b.length L (nameW L X).b.length ∧ ∀ n p, (nameW L X).P n = some p → X.P n = some p ∨ GoodAt (nameW L X).b n p
  | [], X, s, hL, hs, hP => by
    refine ⟨?_, fun n p h => .inl h⟩
    show RdsN (X.b ++ [0]) s X.b.length [] (X.b ++ [0]).length
    rw [List.length_append]
    exact .zero (by rw [List.drop_left]; exact List.prefix_rfl)
  | x :: L, X, s, hL, hs, hP => by
    have hx := hL x (by simp)
    have hj : (join (x :: L)).length = 1 + x.length + (join L).length := by simp [join, enc]; omega
    unfold nameW
    split
    · rename_i p hp
      obtain ⟨⟨g1, g2, M, z, g3, g4, g5⟩, g6⟩ := hP _ _ hp (Nat.le_refl _)
      have := join_inj hL g4 g3
      subst this
      refine ⟨?_, fun n p h => .inl h⟩
      show RdsN (X.b ++ tw (49152 + p)) s X.b.length (x :: L) (X.b ++ tw (49152 + p)).length
      rw [List.length_append, tw_len]
      exact .ptr g6 g1 (by rw [List.drop_left]; exact List.prefix_rfl) (g5.more ⟨_, rfl⟩)
    · rename_i hp
      obtain ⟨X1, hX1⟩ : ∃ X1 : Wt, X1 = ⟨X.b ++ UInt8.ofNat x.length :: x, if X.b.length < 16384 then putP X.P (join (x :: L)) X.b.length else X.P⟩ := ⟨_, rfl⟩
      rw [← hX1]
      have e1 : X1.b = X.b ++ UInt8.ofNat x.length :: x := by rw [hX1]
      have p1 : X.b <+: X1.b := by rw [e1]; exact ⟨_, rfl⟩
      have l1 : X1.b.length = X.b.length + 1 + x.length := by rw [e1, List.length_append, List.length_cons]; omega
      have q1 : ∀ n q, X1.P n = some q → X.P n = some q ∨ (n = join (x :: L) ∧ q = X.b.length ∧ q < 16384) := by
        intro n q h
        rw [hX1] at h
        simp only at h
        split at h
        · unfold putP at h
          split at h
          · injection h with h
            exact .inr ⟨by assumption, h.symm, by omega⟩
          · exact .inl h
        · exact .inl h
      obtain ⟨r1, r2⟩ := nameW_reads L X1 s (fun y hy => hL y (by simp [hy])) (by omega) (fun n q h hn => by
        rcases q1 n q h with h | ⟨h, -, -⟩
        · obtain ⟨a1, a2⟩ := hP n q h (by omega)
          exact ⟨a1.more p1, a2⟩
        · rw [h] at hn
          omega)
      have p2 := nameW_pre L X1
      have hd : (UInt8.ofNat x.length :: x) <+: (nameW L X1).b.drop X.b.length := by
        refine List.IsPrefix.trans ?_ (drop_pre p2 _)
        rw [e1, List.drop_left]
        exact List.prefix_rfl
      rw [l1] at r1
      refine ⟨.label hx hd r1, fun n q h => ?_⟩
      rcases r2 n q h with h | h
      · rcases q1 n q h with h | ⟨h, h2, h3⟩
        · exact .inl h
        · refine .inr ⟨h3, ?_, x :: L, (nameW L X1).b.length, h, hL, ?_⟩
          · have := p2.length_le
            omega
          · rw [h2]
            exact .label hx hd (r1.wide hs)
      · exact .inr h
theorem nmW_reads {n : Bs} {X : Wt} (hn : can n = true) (hX : X.Good) : (nmW n X).Good ∧ X.b <+: (nmW n X).b ∧ ∀ sh b', (nmW n X).b <+: b' → nmR sh b' X.b.length X.b.length 0 [] = .ok n (nmW n X).b.length := by
  obtain ⟨h1, _, e, hL⟩ := can_out hn
  obtain ⟨r1, r2⟩ := nameW_reads (labels n) X X.b.length hL (Nat.le_refl _) (fun m p h _ => ⟨hX m p h, (hX m p h).2.1⟩)
  refine ⟨fun m p h => ?_, nameW_pre _ _, fun sh b' hb => ?_⟩
  · rcases r2 m p h with h | h
    · exact (hX m p h).more (nameW_pre _ _)
    · exact h
  · have := (r1.more hb).nmR (sh := sh) 0 [] (by rw [← e]; simpa using h1)
    rw [← e] at this
    exact this
theorem Wt.Good.more {X : Wt} (h : X.Good) (c : Bs) : Wt.Good ⟨X.b ++ c, X.P⟩ := fun n p hp => (h n p hp).more ⟨c, rfl⟩
theorem tw_val (n : Nat) (h : n < 65536) : vN (tw n) = n := by
  have h1 : (UInt8.ofNat (n / 256)).toNat = n / 256 := by simp; omega
  have h2 : (UInt8.ofNat n).toNat = n % 256 := by simp
  simp only [vN, tw, List.foldl_cons, List.foldl_nil, h1, h2]
  omega
theorem takR_pre {sh : Nat} {b : Bs} {p k : Nat} {x : Bs} (h : x <+: b.drop p) (hk : x.length = k) (hp : p ≤ b.length) : takR sh b p k = .ok x (p + k) := by
  have hl := h.length_le
  rw [List.length_drop] at hl
  unfold takR
  rw [if_neg (by omega), ← hk, pre_take h]
theorem app_pre {a s b : Bs} (h : (a ++ s) <+: b) : s <+: b.drop a.length ∧ a.length + s.length ≤ b.length ∧ a <+: b := by
  have h1 := drop_pre h a.length
  rw [List.drop_left] at h1
  have h2 := h.length_le
  rw [List.length_append] at h2
  exact ⟨h1, h2, List.IsPrefix.trans ⟨s, rfl⟩ h⟩
theorem numR_tw {sh : Nat} {b a : Bs} {v : Nat} (h : (a ++ tw v) <+: b) (hv : v < 65536) : numR sh b a.length 2 = .ok v (a ++ tw v).length := by
  obtain ⟨h1, h2, _⟩ := app_pre h
  unfold numR
  rw [takR_pre (k := 2) h1 (tw_len v) (by omega), Rd.then_ok, tw_val v hv, List.length_append, tw_len]
theorem numR_four {sh : Nat} {b a : Bs} {v : Nat} (h : (a ++ tw (v / 65536) ++ tw v) <+: b) (hv : v < 4294967296) : numR sh b a.length 4 = .ok v (a ++ tw (v / 65536) ++ tw v).length := by
  rw [List.append_assoc] at h
  obtain ⟨h1, h2, _⟩ := app_pre h
  have e1 : (UInt8.ofNat (v / 65536 / 256)).toNat = v / 16777216 := by simp; omega
  have e2 : (UInt8.ofNat (v / 65536)).toNat = v / 65536 % 256 := by simp
  have e3 : (UInt8.ofNat (v / 256)).toNat = v / 256 % 256 := by simp
  have e4 : (UInt8.ofNat v).toNat = v % 256 := by simp
  have e : vN (tw (v / 65536) ++ tw v) = v := by
    simp only [vN, tw, List.cons_append, List.nil_append, List.foldl_cons, List.foldl_nil, e1, e2, e3, e4]
    omega
  unfold numR
  rw [takR_pre (k := 4) h1 (by simp [tw_len]) (by omega), Rd.then_ok, e]
  simp [tw_len]
theorem canQ_out {q : Qu} (h : canQ q = true) : can q.n = true ∧ 0 ≤ q.t ∧ q.t ≤ 65535 ∧ 0 ≤ q.c ∧ q.c ≤ 65535 := by
  unfold canQ at h
  simp only [Bool.and_eq_true, decide_eq_true_eq] at h
  exact h
theorem canR_out {r : Rr} (h : canR r = true) : can r.n = true ∧ 0 ≤ r.t ∧ r.t ≤ 65535 ∧ 0 ≤ r.c ∧ r.c ≤ 65535 ∧ 0 ≤ r.ttl ∧ r.ttl ≤ 4294967295 ∧ canD r.t r.d = true := by
  unfold canR at h
  simp only [Bool.and_eq_true, decide_eq_true_eq] at h
  exact h
theorem quW_reads {q : Qu} {X : Wt} (hq : canQ q = true) (hX : X.Good) : (quW q X).Good ∧ X.b <+: (quW q X).b ∧ ∀ b', (quW q X).b <+: b' → quR b' X.b.length = .ok q (quW q X).b.length := by
  obtain ⟨h1, h2, h3, h4, h5⟩ := canQ_out hq
  obtain ⟨g1, g2, g3⟩ := nmW_reads h1 hX
  refine ⟨(g1.more _).more _, g2.trans ⟨tw q.t.toNat ++ tw q.c.toNat, by simp [quW, twW]⟩, fun b' hb => ?_⟩
  have hb : ((nmW q.n X).b ++ tw q.t.toNat ++ tw q.c.toNat) <+: b' := hb
  have hb1 := (app_pre hb).2.2
  have hb2 := (app_pre hb1).2.2
  have e1 : ((q.t.toNat : Nat) : Int) = q.t := Int.toNat_of_nonneg h2
  have e2 : ((q.c.toNat : Nat) : Int) = q.c := Int.toNat_of_nonneg h4
  unfold quR
  rw [g3 20 b' hb2, Rd.then_ok, numR_tw hb1 (by omega), Rd.then_ok, numR_tw hb (by omega), Rd.then_ok, e1, e2]
  rfl
/-- What is written behind hangs on how much there is ahead, not on what. -/
theorem nameW_ext : ∀ (L : List Bs) (P : Bs → Option Nat) (k : Nat), ∃ x P', ∀ b : Bs, b.length = k → nameW L ⟨b, P⟩ = ⟨b ++ x, P'⟩
  | [], P, k => ⟨[0], P, fun b _ => rfl⟩
  | y :: L, P, k => by
    cases hp : P (join (y :: L)) with
    | some p => exact ⟨tw (49152 + p), P, fun b _ => by unfold nameW; simp only [hp]⟩
    | none =>
      obtain ⟨x, P', h⟩ := nameW_ext L (if k < 16384 then putP P (join (y :: L)) k else P) (k + (1 + y.length))
      refine ⟨UInt8.ofNat y.length :: y ++ x, P', fun b hb => ?_⟩
      unfold nameW
      simp only [hp, hb]
      rw [h _ (by rw [List.length_append, List.length_cons, hb]; omega), List.append_assoc]
theorem nmsW_ext : ∀ (l : List Bs) (P : Bs → Option Nat) (k : Nat), ∃ x P', ∀ b : Bs, b.length = k → nmsW l ⟨b, P⟩ = ⟨b ++ x, P'⟩
  | [], P, k => ⟨[], P, fun b _ => by simp [nmsW]⟩
  | n :: l, P, k => by
    obtain ⟨x, P1, h⟩ := nameW_ext (labels n) P k
    obtain ⟨y, P2, h2⟩ := nmsW_ext l P1 (k + x.length)
    refine ⟨x ++ y, P2, fun b hb => ?_⟩
    unfold nmsW nmW
    rw [h b hb, h2 _ (by rw [List.length_append, hb]), List.append_assoc]
theorem nmsW_reads : ∀ (l : List Bs) (X : Wt), (∀ n ∈ l, can n = true) → X.Good → (nmsW l X).Good ∧ X.b <+: (nmsW l X).b ∧ ∀ sh b' acc, (nmsW l X).b <+: b' → nsR sh b' l.length X.b.length acc = .ok (acc ++ l.flatten) (nmsW l X).b.length
  | [], X, _, hX => ⟨hX, List.prefix_rfl, fun sh b' acc _ => by simp [nsR, nmsW]⟩
  | n :: l, X, hl, hX => by
    obtain ⟨g1, g2, g3⟩ := nmW_reads (hl n (by simp)) hX
    obtain ⟨k1, k2, k3⟩ := nmsW_reads l (nmW n X) (fun m hm => hl m (by simp [hm])) g1
    refine ⟨k1, g2.trans k2, fun sh b' acc hb => ?_⟩
    show nsR sh b' (l.length + 1) X.b.length acc = _
    unfold nsR
    rw [g3 sh b' (k2.trans hb), Rd.then_ok, k3 sh b' _ hb, List.flatten_cons, List.append_assoc]
    rfl
theorem set_two (A r : Bs) (h l : UInt8) : ((A ++ 0 :: 0 :: r).set A.length h).set (A.length + 1) l = A ++ h :: l :: r := by
  induction A with
  | nil => rfl
  | cons a A ih => simp only [List.cons_append, List.length_cons, List.set_cons_succ, ih]
/-- Data are what stands ahead of their names, these, and what stands behind. -/
theorem namesD_parts {t : Int} {d : Bs} (h : canD t d = true) : d = d.take (aheadW t) ++ (namesD t d).flatten ++ d.drop (aheadW t + sumL (namesD t d)) ∧ (namesD t d).length = (shapeP t).2.1 := by
  have hc := h
  unfold canD at h
  unfold namesD
  rw [if_pos hc]
  split at h
  · cases h
  by_cases h1 : t = 2 ∨ t = 5 ∨ t = 12
  · have ha : shapeP t = (0, 1, 0) := by unfold shapeP; rw [if_pos h1]
    rw [if_pos h1]
    unfold aheadW
    rw [ha]
    simp [sumL]
  by_cases h2 : t = 15
  · subst h2
    have ha : shapeP 15 = (2, 1, 0) := rfl
    rw [if_neg h1, if_pos rfl]
    unfold aheadW
    rw [ha]
    simp at h
    simp [sumL]
    omega
  by_cases h3 : t = 6
  · subst h3
    have ha : shapeP 6 = (0, 2, 20) := rfl
    simp at h
    rw [if_neg h1, if_neg h2, if_pos rfl]
    unfold aheadW
    rw [ha]
    unfold soa at h ⊢
    split at h
    · cases h
    rename_i i hi
    split at h
    · cases h
    rename_i j hj
    split at h
    · rename_i hl
      have hi1 := nameLen_le hi
      have hj1 := nameLen_le hj
      rw [List.length_drop] at hj1
      simp only [if_pos hl]
      refine ⟨?_, rfl⟩
      have e1 : sumL [d.take i, (d.drop i).take j] = i + j := by
        simp only [sumL, List.length_take, List.length_drop]
        omega
      rw [e1]
      simp only [List.take_zero, List.nil_append, List.flatten_cons, List.flatten_nil, List.append_nil, Nat.zero_add]
      rw [List.append_assoc, ← List.drop_drop, List.take_append_drop, List.take_append_drop]
    · cases h
  · have ha : shapeP t = (0, 0, 0) := by unfold shapeP; rw [if_neg h1, if_neg h2, if_neg h3]
    rw [if_neg h1, if_neg h2, if_neg h3]
    unfold aheadW
    rw [ha]
    simp [sumL]
theorem daW_reads {t : Int} {d : Bs} {X : Wt} (h : canD t d = true) (hX : X.Good) : (daW t d X).Good ∧ X.b <+: (daW t d X).b ∧ ∃ size, ∀ b', (daW t d X).b <+: b' → numR 20 b' X.b.length 2 = .ok size (X.b.length + 2) ∧ daR b' t (X.b.length + 2) size = .ok d (daW t d X).b.length := by
  obtain ⟨n1, n2, n3⟩ := namesD_can h
  obtain ⟨p1, p2⟩ := namesD_parts h
  obtain ⟨x, P', hx⟩ := nmsW_ext (namesD t d) X.P (X.b.length + 2 + aheadW t)
  have hat : (d.take (aheadW t)).length = aheadW t := by rw [List.length_take]; omega
  have hlen := daW_len X h
  obtain ⟨size, hsz⟩ : ∃ s, s = (d.take (aheadW t)).length + x.length + (d.drop (aheadW t + sumL (namesD t d))).length := ⟨_, rfl⟩
  have e : daW t d X = ⟨X.b ++ tw size ++ d.take (aheadW t) ++ x ++ d.drop (aheadW t + sumL (namesD t d)), P'⟩ := by
    unfold daW
    rw [hx _ (by rw [List.length_append, List.length_append, hat]; rfl)]
    have e1 : X.b ++ [0, 0] ++ d.take (aheadW t) ++ x ++ d.drop (aheadW t + sumL (namesD t d)) = X.b ++ 0 :: 0 :: (d.take (aheadW t) ++ x ++ d.drop (aheadW t + sumL (namesD t d))) := by simp
    simp only [e1]
    rw [set_two]
    have e2 : (X.b ++ 0 :: 0 :: (d.take (aheadW t) ++ x ++ d.drop (aheadW t + sumL (namesD t d)))).length - (X.b.length + 2) = size := by
      rw [hsz]
      simp only [List.length_append, List.length_cons]
      omega
    rw [e2]
    simp [tw]
  have g0 : Wt.Good ⟨X.b ++ tw size ++ d.take (aheadW t), X.P⟩ := by rw [List.append_assoc]; exact hX.more _
  obtain ⟨k1, k2, k3⟩ := nmsW_reads (namesD t d) ⟨X.b ++ tw size ++ d.take (aheadW t), X.P⟩ n1 g0
  rw [hx (X.b ++ tw size ++ d.take (aheadW t)) (by rw [List.length_append, List.length_append, hat]; rfl)] at k1 k2 k3
  rw [e] at hlen ⊢
  simp only at hlen k3
  obtain ⟨D, hD⟩ : ∃ D, D = X.b ++ tw size ++ d.take (aheadW t) ++ x ++ d.drop (aheadW t + sumL (namesD t d)) := ⟨_, rfl⟩
  have hDl : D.length = X.b.length + 2 + size := by
    rw [hD, hsz]
    simp only [List.length_append, tw_len]
    omega
  refine ⟨k1.more _, ⟨tw size ++ d.take (aheadW t) ++ x ++ d.drop (aheadW t + sumL (namesD t d)), by simp⟩, size, fun b' hb => ?_⟩
  simp only [← hD] at hb hlen ⊢
  have hb4 := hb.length_le
  have a3 : (X.b ++ tw size ++ d.take (aheadW t) ++ x) <+: D := ⟨_, hD.symm⟩
  have a2 := (app_pre a3).2.2
  have a1 := (app_pre a2).2.2
  constructor
  · rw [numR_tw (a1.trans hb) (by omega), List.length_append, tw_len]
  · have t1 : takR 20 b' (X.b.length + 2) size = .ok ((b'.drop (X.b.length + 2)).take size) D.length := by
      unfold takR
      rw [if_neg (by omega), hDl]
    have t2 : b'.take D.length = D := pre_take hb
    have t3 := takR_pre (sh := 30) (app_pre a2).1 hat (by have := (app_pre a2).2.1; omega)
    have e3 : (X.b ++ tw size).length = X.b.length + 2 := by rw [List.length_append, tw_len]
    rw [e3] at t3
    have e4 : (X.b ++ tw size ++ d.take (aheadW t)).length = X.b.length + 2 + aheadW t := by rw [List.length_append, e3, hat]
    have t4 := k3 30 D (d.take (aheadW t)) a3
    rw [e4, p2] at t4
    have t5 : D.drop (X.b ++ tw size ++ d.take (aheadW t) ++ x).length = d.drop (aheadW t + sumL (namesD t d)) := by rw [hD, List.drop_left]
    unfold daR
    rw [t1, Rd.then_ok, t2]
    show (takR 30 D (X.b.length + 2) (aheadW t)).then _ = _
    rw [t3, Rd.then_ok, t4, Rd.then_ok, t5, ← p1, if_pos h]
theorem rrW_reads {r : Rr} {X : Wt} (hr : canR r = true) (hX : X.Good) : (rrW r X).Good ∧ X.b <+: (rrW r X).b ∧ ∀ b', (rrW r X).b <+: b' → reR b' X.b.length = .ok r (rrW r X).b.length := by
  obtain ⟨h1, h2, h3, h4, h5, h6, h7, h8⟩ := canR_out hr
  obtain ⟨g1, g2, g3⟩ := nmW_reads h1 hX
  obtain ⟨Y, hY⟩ : ∃ Y, Y = twW r.ttl.toNat (twW (r.ttl.toNat / 65536) (twW r.c.toNat (twW r.t.toNat (nmW r.n X)))) := ⟨_, rfl⟩
  have gY : Y.Good := by rw [hY]; exact ((((g1.more _).more _).more _).more _)
  have eY : Y.b = (nmW r.n X).b ++ tw r.t.toNat ++ tw r.c.toNat ++ tw (r.ttl.toNat / 65536) ++ tw r.ttl.toNat := by rw [hY]; rfl
  obtain ⟨k1, k2, size, k3⟩ := daW_reads h8 gY
  have eR : rrW r X = daW r.t r.d Y := by rw [hY]; rfl
  rw [eR]
  have p4 : (nmW r.n X).b <+: Y.b := ⟨tw r.t.toNat ++ tw r.c.toNat ++ tw (r.ttl.toNat / 65536) ++ tw r.ttl.toNat, by rw [eY]; simp⟩
  refine ⟨k1, (g2.trans p4).trans k2, fun b' hb => ?_⟩
  obtain ⟨m1, m2⟩ := k3 b' hb
  have hb5 := k2.trans hb
  rw [eY] at hb5
  have hb4 := (app_pre (app_pre hb5).2.2).2.2
  have hb3 := (app_pre hb4).2.2
  have hb2 := (app_pre hb3).2.2
  have e1 : ((r.t.toNat : Nat) : Int) = r.t := Int.toNat_of_nonneg h2
  have e2 : ((r.c.toNat : Nat) : Int) = r.c := Int.toNat_of_nonneg h4
  have e3 : ((r.ttl.toNat : Nat) : Int) = r.ttl := Int.toNat_of_nonneg h6
  have e4 := numR_four (sh := 20) hb5 (by omega)
  rw [← eY] at e4
  unfold reR
  rw [g3 20 b' hb2, Rd.then_ok, numR_tw hb3 (by omega), Rd.then_ok, numR_tw hb4 (by omega), Rd.then_ok, e4, Rd.then_ok, m1, Rd.then_ok, e1, m2, Rd.then_ok, e2, e3]
theorem partsW_reads {α : Type} {f : α → Wt → Wt} {g : Bs → Nat → Rd α} {ok : α → Bool} (hf : ∀ x X, ok x = true → X.Good → (f x X).Good ∧ X.b <+: (f x X).b ∧ ∀ b', (f x X).b <+: b' → g b' X.b.length = .ok x (f x X).b.length) :
    ∀ (l : List α) (X Y : Wt), (∀ x ∈ l, ok x = true) → X.Good → partsW f l X = some Y → Y.Good ∧ X.b <+: Y.b ∧ ∀ b' acc, Y.b <+: b' → manyR (g b') l.length X.b.length acc = .ok (acc ++ l) Y.b.length
  | [], X, Y, _, hX, h => by
    injection h with h
    subst h
    exact ⟨hX, List.prefix_rfl, fun b' acc _ => by simp [manyR]⟩
  | x :: l, X, Y, hl, hX, h => by
    obtain ⟨g1, g2, g3⟩ := hf x X (hl x (by simp)) hX
    unfold partsW at h
    split at h
    · cases h
    obtain ⟨k1, k2, k3⟩ := partsW_reads hf l (f x X) Y (fun y hy => hl y (by simp [hy])) g1 h
    refine ⟨k1, g2.trans k2, fun b' acc hb => ?_⟩
    show manyR (g b') (l.length + 1) X.b.length acc = _
    unfold manyR
    rw [g3 b' (k2.trans hb), Rd.then_ok, k3 b' _ hb, List.append_assoc]
    rfl
/-- The parts of a message that is written are read. -/
theorem parts_read {m : Msg} {X Y : Wt} (hq : ∀ q ∈ m.q, canQ q = true) (hr : ∀ r ∈ m.rs, canR r = true) (hX : X.Good) (hl : X.b.length = 12) (h : (partsW quW m.q X).bind (partsW rrW m.rs) = some Y) : X.b <+: Y.b ∧ msR Y.b m.q.length m.an.length m.au.length m.ad.length = .ok (m.q, m.an, m.au, m.ad) Y.b.length := by
  obtain ⟨X1, h1, h2⟩ := Option.bind_eq_some_iff.1 h
  unfold Msg.rs at h2 hr
  rw [partsW_app] at h2
  obtain ⟨X2, h2, h3⟩ := Option.bind_eq_some_iff.1 h2
  rw [partsW_app] at h3
  obtain ⟨X3, h3, h4⟩ := Option.bind_eq_some_iff.1 h3
  obtain ⟨a1, a2, a3⟩ := partsW_reads (g := quR) (ok := canQ) (fun x X => quW_reads) m.q X X1 hq hX h1
  obtain ⟨b1, b2, b3⟩ := partsW_reads (g := reR) (ok := canR) (fun x X => rrW_reads) m.an X1 X2 (fun r h => hr r (by simp [h])) a1 h2
  obtain ⟨c1, c2, c3⟩ := partsW_reads (g := reR) (ok := canR) (fun x X => rrW_reads) m.au X2 X3 (fun r h => hr r (by simp [h])) b1 h3
  obtain ⟨d1, d2, d3⟩ := partsW_reads (g := reR) (ok := canR) (fun x X => rrW_reads) m.ad X3 Y (fun r h => hr r (by simp [h])) c1 h4
  refine ⟨((a2.trans b2).trans c2).trans d2, ?_⟩
  unfold msR
  rw [← hl, a3 Y.b [] ((b2.trans c2).trans d2), Rd.then_ok, b3 Y.b [] (c2.trans d2), Rd.then_ok, c3 Y.b [] d2, Rd.then_ok, d3 Y.b [] List.prefix_rfl, Rd.then_ok, if_neg (by omega)]
  simp
end Go.Proofs.YtknpkifhkefikaaDoor
