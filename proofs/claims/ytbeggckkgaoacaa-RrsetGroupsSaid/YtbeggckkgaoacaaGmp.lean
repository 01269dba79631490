/-
  The document's groups, as plain lists: the first record of each, and all of it.
-/
import Derived.Test.YtbeggckkgaoacaaGrA
namespace Go.Proofs.Ytbeggckkgaoacaa
open Go.RowKit
set_option linter.unusedVariables false
set_option maxRecDepth 100000

/-- A record that plays a part, of the set of another one. -/
def hit (x o : Rr) : Bool := canRR o && isK (keyR x) o
def docFirst (P : List Rr) (x : Rr) : Bool := canRR x && !(P.any (hit x))
theorem any_hit (P : List Rr) (x : Rr) : P.any (hit x) = (P.filter canRR).any (isK (keyR x)) := by
  rw [List.any_filter]; rfl
theorem firsts_any (Y : List Rr) (k : Bs × Int × Int) : (firstsP Y).any (isK k) = Y.any (isK k) := by
  rw [Bool.eq_iff_iff, any_isK, any_isK]
  exact (firsts_all Y).2 k
theorem next_firsts {L : List Rr} {i : Nat} (h : i < L.length) : firstsP ((L.take (i + 1)).filter canRR) = if docFirst (L.take i) L[i] then firstsP ((L.take i).filter canRR) ++ [L[i]] else firstsP ((L.take i).filter canRR) := by
  have htk : L.take (i + 1) = L.take i ++ [L[i]] := List.take_succ_eq_append_getElem h
  rw [htk, List.filter_append]
  unfold docFirst
  rw [any_hit]
  generalize L[i] = x
  cases hc : canRR x
  · have : [x].filter canRR = [] := by simp [hc]
    rw [this]
    simp
  · have : [x].filter canRR = [x] := by simp [hc]
    rw [this, firsts_snoc, firsts_any]
    cases h2 : ((L.take i).filter canRR).any (isK (keyR x)) <;> simp
theorem grp_eq (L : List Rr) (x : Rr) : (L.filter canRR).filter (isK (keyR x)) = L.filter (hit x) := by
  rw [List.filter_filter]
  congr 1
  funext o
  unfold hit
  exact Bool.and_comm _ _
theorem grp_head {L : List Rr} {i : Nat} (h : i < L.length) (hf : docFirst (L.take i) L[i] = true) : (L.filter (hit L[i])).head? = some L[i] := by
  have e : L = L.take i ++ L[i] :: L.drop (i + 1) := by
    rw [List.getElem_cons_drop, List.take_append_drop]
  generalize L[i] = x at *
  generalize L.take i = P at *
  generalize L.drop (i + 1) = R at *
  subst e
  unfold docFirst at hf
  simp only [Bool.and_eq_true, Bool.not_eq_true', List.any_eq_false] at hf
  rw [List.filter_append]
  have h1 : P.filter (hit x) = [] := List.filter_eq_nil_iff.2 fun o ho => hf.2 o ho
  have h2 : hit x x = true := by unfold hit; rw [hf.1, isK_self]; rfl
  rw [h1, List.nil_append, List.filter_cons_of_pos h2]
  rfl
theorem least_start {g : List Rr} {x : Rr} (h : g.head? = some x) : leastP (lastN x.ttl) g = leastP 86400 g := by
  match g, h with
  | y :: g, h =>
    injection h with h
    subst h
    have h1 := last_bdN y.ttl
    simp only [leastP, List.foldl_cons]
    congr 1
    omega
def outD (rank now : Int) (L F : List Rr) : List St := (F.map fun f => setP rank now (L.filter (hit f))).filter canS
theorem outD_all (rank now : Int) (L : List Rr) : outD rank now L (firstsP (L.filter canRR)) = groupP rank now L := by
  unfold outD groupP groupsP
  rw [List.map_map]
  congr 2
  funext f
  show _ = setP rank now ((L.filter canRR).filter (isK (keyR f)))
  rw [grp_eq]
theorem outD_next (rank now : Int) (L F : List Rr) (x : Rr) : outD rank now L (F ++ [x]) = outD rank now L F ++ (if canS (setP rank now (L.filter (hit x))) then [setP rank now (L.filter (hit x))] else []) := by
  unfold outD
  rw [List.map_append, List.filter_append]
  congr 1
  simp [List.filter_cons]
theorem outD_len (rank now : Int) (L F : List Rr) : (outD rank now L F).length ≤ F.length := by
  unfold outD
  refine Nat.le_trans (List.length_filter_le _ _) ?_
  rw [List.length_map]
  exact Nat.le_refl _
theorem hit_next {L : List Rr} {k : Nat} (h : k < L.length) (x : Rr) : (L.take (k + 1)).filter (hit x) = if hit x L[k] then (L.take k).filter (hit x) ++ [L[k]] else (L.take k).filter (hit x) := by
  rw [List.take_succ_eq_append_getElem h, List.filter_append]
  cases hc : hit x L[k]
  · simp [hc]
  · simp [hc]
theorem anyhit_next {L : List Rr} {k : Nat} (h : k < L.length) (x : Rr) : (L.take (k + 1)).any (hit x) = ((L.take k).any (hit x) || hit x L[k]) := by
  rw [List.take_succ_eq_append_getElem h, List.any_append]
  simp
end Go.Proofs.Ytbeggckkgaoacaa
