/-
  Requests of HTTP: the landed Ask.
  Requests one behind the other, cut in any way: the plain half of HttpAsked.
  Requests in a row, one of them with where its body lies; a list of one text, new in memory.
-/
import Derived.Test.YtjhameebehkdjaaGreatDoorHtX
import Derived.Test.YtjhameebehkdjaaGreatDoorCkF
import Derived.Test.YtjhameebehkdjaaGreatDoorHuG
namespace Go.Proofs.YtjhameebehkdjaaGreatDoor
open Go.RowKit
set_option linter.unusedVariables false
set_option maxRecDepth 100000

theorem chunkH_eq (b : Bs) : chunkH b = (sAsk ++ (lEnc ++ crlf) ++ crlf) ++ encK 100 b := by
  have e : sAsk = catL [reqL, lHost, lType] := by decide
  unfold chunkH
  rw [e]
  simp [catL, crlf]
/-- The bytes of a request. -/
def askB' (ch : Bool) (b : Bs) : Bs := if ch then chunkH b else askH b.length ++ b
theorem go_askB (ch : Bool) (b r : Bs) (h : b.length ≤ 65535) : goH (.hd []) ((if ch then chunkH b else askH b.length ++ b) ++ r) = thenH (nextH true b) (goH (.hd []) r) := by
  cases ch
  · exact go_ask b r h
  · exact go_chunks b r h
/-- Requests behind each other. -/
def askAll (L : List (Bool × Bs)) : Bs := L.flatMap fun x => if x.1 then chunkH x.2 else askH x.2.length ++ x.2
theorem go_all : ∀ (L : List (Bool × Bs)), (∀ x ∈ L, x.2.length ≤ 65535) → goH (.hd []) (askAll L) = (.hd [], L.map (fun x => (x.2, true)), false)
  | [], _ => rfl
  | x :: L, h => by
    have e : askAll (x :: L) = (if x.1 then chunkH x.2 else askH x.2.length ++ x.2) ++ askAll L := by simp [askAll]
    rw [e, go_askB _ _ _ (h x (by simp)), go_all L (fun y hy => h y (by simp [hy]))]
    rfl
end Go.Proofs.YtjhameebehkdjaaGreatDoor
namespace Go.Proofs.YtjhameebehkdjaaGreatDoor
open Go.RowKit
set_option linter.unusedVariables false
set_option maxRecDepth 100000

/-- The first k texts, each cut, with what each is asked by. -/
def prsH (ch : Nat → Bool) (L : List Bs) (k : Nat) : List (Bool × Bs) := (List.range k).map fun i => (ch i, (L.getD i []).take 500)
def txsH (P : List (Bool × Bs)) : List Bs := P.map (·.2)
theorem prsH_len (ch : Nat → Bool) (L : List Bs) (k : Nat) : (prsH ch L k).length = k := by simp [prsH]
theorem prsH_snoc (ch : Nat → Bool) (L : List Bs) {k : Nat} (h : k < L.length) : prsH ch L (k + 1) = prsH ch L k ++ [(ch k, L[k].take 500)] := by
  unfold prsH
  have e : L.getD k [] = L[k] := by simp [List.getD, h]
  rw [List.range_succ, List.map_append, List.map_singleton, e]
theorem txsH_snoc (P : List (Bool × Bs)) (x : Bool × Bs) : txsH (P ++ [x]) = txsH P ++ [x.2] := by simp [txsH]
theorem askAll_snoc (P : List (Bool × Bs)) (x : Bool × Bs) : askAll (P ++ [x]) = askAll P ++ askB' x.1 x.2 := by
  unfold askAll askB'
  rw [List.flatMap_append]
  simp
theorem prsH_le (ch : Nat → Bool) (L : List Bs) (k : Nat) : ∀ x ∈ prsH ch L k, x.2.length ≤ 500 := fun x hx => by
  obtain ⟨i, _, rfl⟩ := List.mem_map.1 hx
  rw [List.length_take]
  omega
theorem askN_len (ch : Bool) (b : Bs) (h : b.length ≤ 500) : (askB' ch b).length ≤ 3200 := by
  unfold askB'
  cases ch
  · have h1 := askH_len (n := b.length) (by omega)
    simp only [Bool.false_eq_true, if_false, List.length_append]
    omega
  · have h1 := encC_len b.length 100 b (by omega) (by omega)
    have h2 : (sAsk ++ (lEnc ++ crlf) ++ crlf).length = 111 := by decide
    simp only [if_true]
    rw [chunkH_eq, List.length_append, h2]
    unfold encK
    omega
theorem askAll_len : ∀ (P : List (Bool × Bs)), (∀ x ∈ P, x.2.length ≤ 500) → (askAll P).length ≤ P.length * 3200
  | [], _ => by simp [askAll]
  | x :: P, h => by
    have h1 := askAll_len P (fun y hy => h y (by simp [hy]))
    have h2 := askN_len x.1 x.2 (h x (by simp))
    have e : askAll (x :: P) = askB' x.1 x.2 ++ askAll P := by simp [askAll, askB']
    rw [e, List.length_append, List.length_cons, Nat.add_mul]
    omega
/-- What is still to be told: the texts, each of a request that is kept; the reader ends ahead of the next head. -/
def Left (s : Hs) (x : Bs) (G W : List Bs) : Prop := ∃ R : List Rq, goH s x = (.hd [], R, false) ∧ G ++ R.map (·.1) = W ∧ ∀ r ∈ R, r.2 = true
theorem Left.start (P : List (Bool × Bs)) (h : ∀ x ∈ P, x.2.length ≤ 500) : Left (.hd []) (askAll P) [] (txsH P) := by
  refine ⟨_, go_all P (fun x hx => by have := h x hx; omega), ?_, ?_⟩
  · simp [txsH]
  · intro r hr
    obtain ⟨x, _, rfl⟩ := List.mem_map.1 hr
    rfl
/-- One more feed, of the first N bytes: what it tells is of kept requests, and the rest is left. -/
theorem Left.step {s : Hs} {x : Bs} {G W : List Bs} (N : Nat) (h : Left s x G W) : (goH s (x.take N)).2.2 = false ∧ (∀ r ∈ (goH s (x.take N)).2.1, r.2 = true) ∧ Left (goH s (x.take N)).1 (x.drop N) (G ++ (goH s (x.take N)).2.1.map (·.1)) W := by
  obtain ⟨R, h1, h2, h3⟩ := h
  have e : goH s x = thenH (goH s (x.take N)) (goH (goH s (x.take N)).1 (x.drop N)) := by rw [← goH_app, List.take_append_drop]
  rw [e] at h1
  simp only [thenH, Prod.mk.injEq, Bool.or_eq_false_iff] at h1
  obtain ⟨q1, q2, q3, q4⟩ := h1
  subst q2
  refine ⟨q3, fun r hr => h3 r (List.mem_append_left _ hr), (goH (goH s (x.take N)).1 (x.drop N)).2.1, Prod.ext q1 (Prod.ext rfl q4), ?_, fun r hr => h3 r (List.mem_append_right _ hr)⟩
  rw [List.append_assoc, ← List.map_append]
  exact h2
/-- Fed to the end, all texts were told. -/
theorem Left.all {s : Hs} {x : Bs} {G W : List Bs} (h : Left s x G W) : goH s x = (.hd [], (goH s x).2.1, false) ∧ G ++ (goH s x).2.1.map (·.1) = W := by
  obtain ⟨R, h1, h2, -⟩ := h
  rw [h1]
  exact ⟨rfl, h2⟩
theorem Left.count {s : Hs} {x : Bs} {G W : List Bs} (h : Left s x G W) : G.length + (goH s x).2.1.length = W.length := by
  have := congrArg List.length h.all.2
  rw [List.length_append, List.length_map] at this
  exact this
end Go.Proofs.YtjhameebehkdjaaGreatDoor
namespace Go.Proofs.YtjhameebehkdjaaGreatDoor
open Go.RowKit
set_option linter.unusedVariables false
set_option maxRecDepth 100000

theorem RqS.at2 {S : Nat → Prop} {w : World} {v : Value} {L : List Rq} (h : RqS w S v L) (hn : 0 < L.length) : ∃ g c, v = .slice (some ⟨g, 0, none⟩) L.length c ∧ (∃ cs fz, w.heap[g]? = some (.cells cs 139 fz)) ∧ ∀ j (hj : j < L.length), ∃ A d, w.rangeAt g (j * 3) [.string (bs reqL), .slice A L[j].1.length d, .bool L[j].2] ∧ SlV w (.slice A L[j].1.length d) L[j].1 ∧ OffV S (.slice A L[j].1.length d) := by
  obtain ⟨xs, ho, -, h4⟩ := h
  rcases ho.2 with ⟨hv, h0⟩ | ⟨g, cap, cur, hv, hb, hh, hc, hm2, hsz, ht⟩
  · omega
  refine ⟨g, cap, hv, ⟨_, _, hh⟩, fun j hj => ?_⟩
  obtain ⟨x, a, b, c, ⟨⟨A, d, rfl, hs⟩, hl⟩, e3, -⟩ := h4 j hj
  have cell : ∀ i y, i < L.length * 3 → xs[i]? = some y → w.cell? ⟨g, i, none⟩ = some y := fun i y hi hy => by
    rw [cell_of_row _ g i _ _ _ hh]
    rw [← ht, List.getElem?_take_of_lt hi] at hy
    simpa using hy
  refine ⟨A, d, fun i y hi => ?_, ⟨⟨A, d, rfl, hs⟩, hl⟩, e3⟩
  match i, hi with
  | 0, hi => injection hi with hi; subst hi; exact cell _ _ (by omega) a
  | 1, hi => injection hi with hi; subst hi; exact cell _ _ (by omega) b
  | 2, hi => injection hi with hi; subst hi; exact cell _ _ (by omega) c
theorem TxS.lone {w : World} {S : Nat → Prop} {y : Bs} {A : Option Addr} {d : Nat} (hx : SlV w (.slice A y.length d) y) (ho : OffV S (.slice A y.length d)) (hS : ∀ k, S k → k < w.heap.size) : TxS (w.alloc (.cells #[.slice A y.length d] 29)) S (.slice (some ⟨w.heap.size, 0, none⟩) 1 1) [y] := by
  have b : Below w.heap.size w (w.alloc (.cells #[.slice A y.length d] 29)) := Below.alloc (Below.refl _ _) (Nat.le_refl _) _
  refine ⟨[.slice A y.length d], ⟨rfl, .inr ⟨w.heap.size, 1, #[.slice A y.length d], rfl, Nat.zero_le _, row_new _ rfl, Nat.le_refl _, by unfold maxLen; omega, rfl, rfl⟩⟩, fun k hk e => ?_, rfl, fun j hj => ?_⟩
  · simp [Value.ownBlock] at hk
    have := hS k e
    omega
  · obtain rfl : j = 0 := by simp at hj; omega
    refine ⟨_, rfl, hx.mod (S := fun _ => False) (Mod.below b) (fun _ _ h => h), ho, fun k hk e => ?_⟩
    simp [Value.ownBlock] at e
    have := hx.2 k hk
    omega
/-- Nothing left to feed: all was told, and the reader waits for a head. -/
theorem Left.done {s : Hs} {G W : List Bs} (h : Left s [] G W) : s = .hd [] ∧ G = W := by
  obtain ⟨R, h1, h2, -⟩ := h
  have e : goH s [] = (s, [], false) := by cases s <;> rfl
  rw [e] at h1
  injection h1 with h1 h3
  injection h3 with h3 _
  subst h3
  exact ⟨h1, by simpa using h2⟩
theorem last_cut {cuts : List Int} {n : Nat} {z : Int} (hn : n = cuts.length + 1) (k : Nat) (hk : k + 1 = n) : (cuts ++ [z])[k]? = some z := by
  have : k = cuts.length := by omega
  subst this
  simp
end Go.Proofs.YtjhameebehkdjaaGreatDoor
