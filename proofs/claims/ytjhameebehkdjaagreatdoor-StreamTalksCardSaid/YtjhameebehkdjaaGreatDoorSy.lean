/-
  Rows of frames.
  Streams as plain data: what is fed, what is left to be told.
  Streams in memory: what stays, what New makes.
  What both kinds of streams are fed.
  What a stream of requests is fed; a stream's Feed.
  A stream's Reply, Ended; one frame told.
-/
import Derived.Test.YtjhameebehkdjaaGreatDoorMo
import Derived.Maps.AppendAt
import Derived.Test.YtjhameebehkdjaaGreatDoorHn
import Derived.Test.YtjhameebehkdjaaGreatDoorPy
import Derived.Test.YtjhameebehkdjaaGreatDoorTmA
import Derived.Test.YtjhameebehkdjaaGreatDoorHuG
import Derived.Deep.CutBlock
import Derived.Test.YtjhameebehkdjaaGreatDoorHpB
namespace Go.Proofs.YtjhameebehkdjaaGreatDoor
open Go.RowKit
set_option linter.unusedVariables false
set_option maxRecDepth 100000

/-- Good frames in a row of structs, no block of it in S. -/
def FrS (w : World) (S : Nat → Prop) (v : Value) (L : List Bs) : Prop := ∃ xs, w.ownsRow 0 36 2 v L.length xs ∧ OffV S v ∧ ∀ j (h : j < L.length), ∃ x, xs[j * 2]? = some x ∧ xs[j * 2 + 1]? = some (.bool false) ∧ SlV w x L[j] ∧ OffV S x ∧ OffV (fun k => v.ownBlock = some k) x
theorem FrS.mod {S S' : Nat → Prop} {w w1 : World} {v : Value} {L : List Bs} (h : FrS w S v L) (k : Mod S' w w1) (hs : ∀ i, S' i → S i) : FrS w1 S v L := by
  obtain ⟨xs, h1, h2, h4⟩ := h
  refine ⟨xs, own_mod h1 k (fun i hi e => h2 i hi (hs i e)), h2, fun j hj => ?_⟩
  obtain ⟨x, a, b, e2, e3, e4⟩ := h4 j hj
  exact ⟨x, a, b, e2.mod k (fun i hi e => e3 i hi (hs i e)), e3, e4⟩
theorem FrS.on {S : Nat → Prop} {w w1 : World} {v : Value} {L : List Bs} (h : FrS w S v L) (k : Below w.heap.size w w1) : FrS w1 S v L := by
  obtain ⟨xs, h1, h2, h4⟩ := h
  refine ⟨xs, own_mod (S := fun _ => False) h1 (Mod.below k) (fun i hi e => e), h2, fun j hj => ?_⟩
  obtain ⟨x, a, b, e2, e3, e4⟩ := h4 j hj
  exact ⟨x, a, b, e2.mod (S := fun _ => False) (Mod.below k) (fun i hi e => e), e3, e4⟩
theorem FrS.wide {S S' : Nat → Prop} {w : World} {v : Value} {L : List Bs} (h : FrS w S v L) (hs : ∀ i, S' i → S i ∨ w.heap.size ≤ i) : FrS w S' v L := by
  obtain ⟨xs, h1, h2, h4⟩ := h
  refine ⟨xs, h1, fun i hi e => ?_, fun j hj => ?_⟩
  · rcases hs i e with e | e
    · exact h2 i hi e
    · have := (h1.lt i hi).2; omega
  · obtain ⟨x, a, b, e2, e3, e4⟩ := h4 j hj
    refine ⟨x, a, b, e2, fun i hi e => ?_, e4⟩
    rcases hs i e with e | e
    · exact e3 i hi e
    · have := e2.2 i hi; omega
theorem FrS.nil (w : World) (S : Nat → Prop) : FrS w S (.slice none 0 0) [] := ⟨[], World.ownsRow_nil _ _ _ _, fun k hk => by simp [Value.ownBlock] at hk, fun j h => absurd h (by simp)⟩
theorem FrS.lt {S : Nat → Prop} {w : World} {v : Value} {L : List Bs} (h : FrS w S v L) : ∀ k, v.ownBlock = some k → k < w.heap.size := fun k hk => by
  obtain ⟨xs, h1, -⟩ := h
  exact (h1.lt k hk).2
theorem FrS.sl {S : Nat → Prop} {w : World} {v : Value} {L : List Bs} (h : FrS w S v L) : ∃ A c, v = .slice A L.length c := by
  obtain ⟨xs, h1, -⟩ := h
  rcases h1.2 with ⟨hv, h0⟩ | ⟨g, cap, cur, hv, -⟩
  · exact ⟨none, 0, by rw [hv, h0]⟩
  · exact ⟨_, cap, hv⟩
/-- One more, behind an append. -/
theorem FrS.snoc {S : Nat → Prop} {w w1 : World} {v v1 x : Value} {L : List Bs} {y : Bs} {xs : List Value} (ho : w.ownsRow 0 36 2 v L.length xs) (hv : OffV S v) (h4 : ∀ j (h : j < L.length), ∃ x, xs[j * 2]? = some x ∧ xs[j * 2 + 1]? = some (.bool false) ∧ SlV w x L[j] ∧ OffV S x ∧ OffV (fun k => v.ownBlock = some k) x) (hS : ∀ k, S k → k < w.heap.size) (hx : SlV w x y) (hxS : OffV S x) (hxv : OffV (fun k => v.ownBlock = some k) x)
    (h1 : w1.ownsRow 0 36 2 v1 (L.length + 1) (xs ++ [x, .bool false])) (hg : w.grownBy w1 v.ownBlock) (hu : v1.ownBlock = v.ownBlock ∨ v1.ownBlock = some w.heap.size) : FrS w1 S v1 (L ++ [y]) := by
  have hM : Mod (fun k => v.ownBlock = some k) w w1 := Mod.grown hg (fun k hk => hk)
  have hv' : ∀ k, v1.ownBlock = some k → v.ownBlock = some k ∨ w.heap.size ≤ k := fun k hk => by
    rcases hu with e | e
    · exact .inl (by rw [← e]; exact hk)
    · rw [e] at hk; injection hk with hk; exact .inr (by omega)
  have new : ∀ (x : Value) (l : Bs), SlV w x l → OffV (fun k => v.ownBlock = some k) x → OffV (fun k => v1.ownBlock = some k) x := fun x l hx ho i hi e => by
    rcases hv' i e with e | e
    · exact ho i hi e
    · have := hx.2 i hi; omega
  have hl : xs.length = L.length * 2 := ho.1
  refine ⟨xs ++ [x, .bool false], by simpa using h1, fun k hk e => ?_, fun j hj => ?_⟩
  · rcases hv' k hk with h | h
    · exact hv k h e
    · have := hS k e; omega
  · by_cases hj2 : j < L.length
    · obtain ⟨x0, a, b, e2, e3, e4⟩ := h4 j hj2
      rw [List.getElem_append_left hj2]
      refine ⟨x0, ?_, ?_, e2.mod hM e4, e3, new x0 _ e2 e4⟩
      · rw [List.getElem?_append_left (by omega)]; exact a
      · rw [List.getElem?_append_left (by omega)]; exact b
    · have : j = L.length := by simp at hj; omega
      subst this
      refine ⟨x, ?_, ?_, ?_, hxS, new x _ hx hxv⟩
      · rw [List.getElem?_append_right (by omega), hl, Nat.sub_self]; rfl
      · rw [List.getElem?_append_right (by omega), hl, show L.length * 2 + 1 - L.length * 2 = 1 by omega]; rfl
      · have : (L ++ [y])[L.length] = y := by simp
        rw [this]; exact hx.mod hM hxv
/-- What is read of them. -/
def Frs (w : World) (A : Option Addr) (L : List Bs) : Prop := 0 < L.length → ∃ g off, A = some ⟨g, off, none⟩ ∧ ∀ j (h : j < L.length), ∃ a c, w.cell? ⟨g, off + j * 2, none⟩ = some (.slice a (L[j]).length c) ∧ w.cell? ⟨g, off + j * 2 + 1, none⟩ = some (.bool false) ∧ Sl w a c L[j]
theorem FrS.frs {S : Nat → Prop} {w : World} {v : Value} {L : List Bs} (h : FrS w S v L) : ∃ A c, v = .slice A L.length c ∧ Frs w A L ∧ L.length ≤ c ∧ c ≤ 9223372036854775807 := by
  obtain ⟨xs, h1, _, h4⟩ := h
  have hl : xs.length = L.length * 2 := h1.1
  rcases h1.2 with ⟨hv, h0⟩ | ⟨g, cap, cur, hv, hb, hh, hc, hm2, hsz, ht⟩
  · exact ⟨none, 0, by rw [hv, h0], fun hn => by omega, by omega, by omega⟩
  · refine ⟨_, cap, hv, fun hn => ⟨g, 0, rfl, fun j hj => ?_⟩, by omega, by unfold maxLen at hm2; omega⟩
    obtain ⟨x, e1, e0, ⟨⟨a, c, rfl, e2⟩, -⟩, -⟩ := h4 j hj
    refine ⟨a, c, ?_, ?_, e2⟩
    · rw [cell_of_row _ g (0 + j * 2) _ _ _ hh]
      rw [← ht, List.getElem?_take_of_lt (by omega)] at e1
      rw [Nat.zero_add]
      simpa using e1
    · rw [cell_of_row _ g (0 + j * 2 + 1) _ _ _ hh]
      rw [← ht, List.getElem?_take_of_lt (by omega)] at e0
      rw [Nat.zero_add]
      simpa using e0
theorem Frs.on {w w1 : World} {A : Option Addr} {L : List Bs} (h : Frs w A L) (k : Below w.heap.size w w1) : Frs w1 A L := fun hn => by
  obtain ⟨g, off, hA, hc⟩ := h hn
  refine ⟨g, off, hA, fun j hj => ?_⟩
  obtain ⟨a, c, e1, e2, e3⟩ := hc j hj
  exact ⟨a, c, cell_on e1 k, cell_on e2 k, e3.on k⟩
theorem info_fr : (Tryz.prog.info? 36).map (fun i => (i.zero, i.size, i.bytes)) = some (some (.agg #[.slice none 0 0, .bool false]), 2, 32) := by kernel_rfl
theorem info_fr2 : (Tryz.prog.info? 36).map (·.size) = some 2 := by kernel_rfl
end Go.Proofs.YtjhameebehkdjaaGreatDoor
namespace Go.Proofs.YtjhameebehkdjaaGreatDoor
open Go.RowKit
set_option linter.unusedVariables false
set_option maxRecDepth 100000

/-- What a good stream has read: the bytes that wait of a frame, or how far a request is read. -/
inductive Ks where
  | f (x : Bs)
  | h (s : Hs)
def feedK : Ks → Bs → Ks × List Bs
  | .f x, b => (.f (feedP (x ++ b)).2, (feedP (x ++ b)).1)
  | .h s, b => (.h (goH s b).1, (goH s b).2.1.map (·.1))
def GoodK : Ks → Bs → Prop
  | .f _, _ => True
  | .h s, b => (goH s b).2.2 = false ∧ ∀ r ∈ (goH s b).2.1, r.2 = true
def lenK : Ks → Nat
  | .f x => x.length
  | .h _ => 0
def startK (k : Bool) : Ks := if k then .h (.hd []) else .f []
/-- A body as a client of a kind asks it. -/
def askK (k ch : Bool) (b : Bs) : Bs := if k then askB' ch b else encP b
def askKs (k : Bool) (P : List (Bool × Bs)) : Bs := P.flatMap fun x => askK k x.1 x.2
def LeftK (M : Nat) (K : Ks) (x : Bs) (G W : List Bs) : Prop := lenK K + x.length ≤ M ∧ match K with
  | .f y => G ++ (feedP (y ++ x)).1 = W ∧ (feedP (y ++ x)).2 = []
  | .h s => Left s x G W
theorem LeftK.step {M : Nat} {K : Ks} {x : Bs} {G W : List Bs} (N : Nat) (h : LeftK M K x G W) : GoodK K (x.take N) ∧ LeftK M (feedK K (x.take N)).1 (x.drop N) (G ++ (feedK K (x.take N)).2) W := by
  cases K with
  | f y =>
    obtain ⟨h0, h1, h2⟩ := h
    have := feed_step N h1 h2
    refine ⟨trivial, ?_, this⟩
    have l1 := feed_len (y ++ x.take N)
    have l2 : (x.take N).length + (x.drop N).length = x.length := by rw [← List.length_append, List.take_append_drop]
    rw [List.length_append] at l1
    simp only [lenK, feedK] at h0 ⊢
    omega
  | h s =>
    obtain ⟨h0, h1⟩ := h
    obtain ⟨a, b, c⟩ := h1.step N
    refine ⟨⟨a, b⟩, ?_, c⟩
    simp only [lenK, feedK, List.length_drop] at h0 ⊢
    omega
theorem LeftK.all {M : Nat} {K : Ks} {x : Bs} {G W : List Bs} (h : LeftK M K x G W) : GoodK K x ∧ G ++ (feedK K x).2 = W ∧ (feedK K x).1 = startK (match K with | .f _ => false | .h _ => true) := by
  cases K with
  | f y => exact ⟨trivial, h.2.1, by simp only [feedK, h.2.2]; rfl⟩
  | h s =>
    obtain ⟨-, R, h1, h2, h3⟩ := h
    simp only [GoodK, feedK, h1]
    exact ⟨⟨trivial, h3⟩, h2, rfl⟩
theorem LeftK.cnt {M : Nat} {K : Ks} {x : Bs} {G W : List Bs} (N : Nat) (h : LeftK M K x G W) : G.length + (feedK K (x.take N)).2.length ≤ W.length := by
  have := congrArg List.length (h.step N).2.all.2.1
  simp only [List.length_append] at this
  omega
theorem askKs_snoc (k : Bool) (P : List (Bool × Bs)) (x : Bool × Bs) : askKs k (P ++ [x]) = askKs k P ++ askK k x.1 x.2 := by
  unfold askKs
  rw [List.flatMap_append]
  simp
theorem askK_len (k ch : Bool) (b : Bs) (h : b.length ≤ 500) : (askK k ch b).length ≤ 3200 ∧ 0 < (askK k ch b).length := by
  unfold askK
  cases k
  · simp [encP]; omega
  · have := askN_len ch b h
    refine ⟨this, ?_⟩
    simp only [if_true]
    unfold askB'
    cases ch
    · have : 81 ≤ (askH b.length).length := by
        have h2 : sAsk.length = 81 := by decide
        rw [askH, List.length_append, h2]; omega
      simp only [Bool.false_eq_true, if_false, List.length_append]
      omega
    · have h2 : (sAsk ++ (lEnc ++ crlf) ++ crlf).length = 111 := by decide
      simp only [if_true]
      rw [chunkH_eq, List.length_append, h2]
      omega
theorem askKs_len (k : Bool) : ∀ (P : List (Bool × Bs)), (∀ x ∈ P, x.2.length ≤ 500) → (askKs k P).length ≤ P.length * 3200
  | [], _ => by simp [askKs]
  | x :: P, h => by
    have h1 := askKs_len k P (fun y hy => h y (by simp [hy]))
    have h2 := askK_len k x.1 x.2 (h x (by simp))
    have e : askKs k (x :: P) = askK k x.1 x.2 ++ askKs k P := by simp [askKs]
    rw [e, List.length_append, List.length_cons, Nat.add_mul]
    omega
theorem LeftK.start (k : Bool) (P : List (Bool × Bs)) (h : ∀ x ∈ P, x.2.length ≤ 500) {M : Nat} (hM : P.length * 3200 ≤ M) : LeftK M (startK k) (askKs k P) [] (txsH P) := by
  have hl := askKs_len k P h
  cases k
  · refine ⟨by simp only [startK, lenK, Bool.false_eq_true, if_false, List.length_nil]; omega, ?_⟩
    have e : askKs false P = ((txsH P).map encP).flatten ++ [] := by
      unfold askKs txsH
      rw [List.append_nil, List.flatMap_def, List.map_map]
      rfl
    have hf := feed_encs (txsH P) (fun b hb => by
      obtain ⟨x, hx, rfl⟩ := List.mem_map.1 hb
      have := h x hx
      omega) []
    simp only [startK, Bool.false_eq_true, if_false, List.nil_append]
    rw [e, hf]
    simp [feedP, frF]
  · refine ⟨by simp only [startK, lenK, if_true]; omega, ?_⟩
    have := Left.start P h
    have e : askKs true P = askAll P := by
      unfold askKs askAll askK
      rfl
    simp only [startK, if_true]
    rw [e]
    exact this
/-- The first k texts, each cut at m, with what each is asked by. -/
def prsK (m : Nat) (ch : Nat → Bool) (L : List Bs) (k : Nat) : List (Bool × Bs) := (List.range k).map fun i => (ch i, (L.getD i []).take m)
theorem prsK_len (m : Nat) (ch : Nat → Bool) (L : List Bs) (k : Nat) : (prsK m ch L k).length = k := by simp [prsK]
theorem prsK_snoc (m : Nat) (ch : Nat → Bool) (L : List Bs) {k : Nat} (h : k < L.length) : prsK m ch L (k + 1) = prsK m ch L k ++ [(ch k, L[k].take m)] := by
  unfold prsK
  have e : L.getD k [] = L[k] := by simp [List.getD, h]
  rw [List.range_succ, List.map_append, List.map_singleton, e]
theorem prsK_le (m : Nat) (hm : m ≤ 500) (ch : Nat → Bool) (L : List Bs) (k : Nat) : ∀ x ∈ prsK m ch L k, x.2.length ≤ 500 := fun x hx => by
  obtain ⟨i, _, rfl⟩ := List.mem_map.1 hx
  rw [List.length_take]
  omega
/-- One text alone. -/
theorem one_all (k ch : Bool) (b : Bs) (h : b.length ≤ 500) : GoodK (startK k) (askK k ch b) ∧ (feedK (startK k) (askK k ch b)).2 = [b] ∧ (feedK (startK k) (askK k ch b)).1 = startK k := by
  have e : askKs k [(ch, b)] = askK k ch b := by simp [askKs]
  have h0 := LeftK.start k [(ch, b)] (by simpa using h) (M := 3200) (by simp)
  rw [e] at h0
  have := h0.all
  refine ⟨this.1, by simpa [txsH] using this.2.1, ?_⟩
  rw [this.2.2]
  cases k <;> rfl
end Go.Proofs.YtjhameebehkdjaaGreatDoor
namespace Go.Proofs.YtjhameebehkdjaaGreatDoor
open Go.RowKit Go.Shelf
set_option linter.unusedVariables false
set_option maxRecDepth 100000

/-- A stream at block gs; F is all its blocks. -/
def StM (w : World) (F : Nat → Prop) (gs : Nat) : Ks → Prop
  | .f x => ∃ p F2, SRow w gs 46 (.agg #[p]) false ∧ LandP w F2 p x ∧ ¬ F2 gs ∧ ∀ j, F j ↔ j = gs ∨ F2 j
  | .h s => ∃ gq g F2 n, SRow w gs 51 (.pointer (some ⟨gq, 0, none⟩)) false ∧ w.heap[gq]? = some (.cells #[.pointer (some ⟨g, 0, none⟩), .int .i64 n, .bool false] 55 (0, 0)) ∧ LHs w F2 g s ∧ HsOk s ∧ ¬ F2 gs ∧ ¬ F2 gq ∧ gq ≠ gs ∧ ∀ j, F j ↔ j = gs ∨ j = gq ∨ F2 j
theorem StM.mod {S F : Nat → Prop} {w w1 : World} {gs : Nat} {K : Ks} (h : StM w F gs K) (k : Mod S w w1) (hn : ∀ i, F i → ¬ S i) : StM w1 F gs K := by
  cases K with
  | f x =>
    obtain ⟨p, F2, h1, h2, h3, hF⟩ := h
    exact ⟨p, F2, k.row h1 (hn gs ((hF gs).2 (.inl rfl))), landP.mod h2 k (fun i hi => hn i ((hF i).2 (.inr hi))), h3, hF⟩
  | h s =>
    obtain ⟨gq, g, F2, n, h1, h2, h3, h4, h5, h6, h7, hF⟩ := h
    exact ⟨gq, g, F2, n, k.row h1 (hn gs ((hF gs).2 (.inl rfl))), k.row h2 (hn gq ((hF gq).2 (.inr (.inl rfl)))), h3.mod k (fun i hi => hn i ((hF i).2 (.inr (.inr hi)))), h4, h5, h6, h7, hF⟩
theorem StM.on {F : Nat → Prop} {w w1 : World} {gs : Nat} {K : Ks} (h : StM w F gs K) (k : Below w.heap.size w w1) : StM w1 F gs K := h.mod (S := fun _ => False) (Mod.below k) (fun _ _ e => e)
theorem StM.lt {F : Nat → Prop} {w : World} {gs : Nat} {K : Ks} (h : StM w F gs K) : ∀ i, F i → i < w.heap.size := fun i hi => by
  cases K with
  | f x =>
    obtain ⟨p, F2, h1, h2, h3, hF⟩ := h
    rcases (hF i).1 hi with rfl | hi
    · exact (Array.getElem?_eq_some_iff.1 h1).1
    · exact landP.lt h2 i hi
  | h s =>
    obtain ⟨gq, g, F2, n, h1, h2, h3, h4, h5, h6, h7, hF⟩ := h
    rcases (hF i).1 hi with rfl | rfl | hi
    · exact (Array.getElem?_eq_some_iff.1 h1).1
    · exact (Array.getElem?_eq_some_iff.1 h2).1
    · exact h3.lt i hi
theorem StM.own {F : Nat → Prop} {w : World} {gs : Nat} {K : Ks} (h : StM w F gs K) : F gs ∧ ∃ T v, SRow w gs T v false := by
  cases K with
  | f x =>
    obtain ⟨p, F2, h1, h2, h3, hF⟩ := h
    exact ⟨(hF gs).2 (.inl rfl), _, _, h1⟩
  | h s =>
    obtain ⟨gq, g, F2, n, h1, h2, h3, h4, h5, h6, h7, hF⟩ := h
    exact ⟨(hF gs).2 (.inl rfl), _, _, h1⟩
/-- What New answers. -/
def NewKP (w : World) (k : Bool) (e : Ending) (w' : World) : Prop := ∃ gs F, e = .returned (.tuple #[.pointer (some ⟨gs, 0, none⟩), .int .i64 0]) ∧ Below w.heap.size w w' ∧ StM w' F gs (startK k) ∧ ∀ j, F j → w.heap.size ≤ j
set_option maxHeartbeats 1000000 in
theorem newK_any (k : Bool) (w : World) : Calls Tryz.prog 4 #[.int .i64 (if k then 2 else 1)] w (NewKP w k) := by
  have D : Hid (∀ (w' : World) gs F, Below w.heap.size w w' → StM w' F gs (startK k) → (∀ j, F j → w.heap.size ≤ j) → NewKP w k (.returned (.tuple #[.pointer (some ⟨gs, 0, none⟩), .int .i64 0])) w') := Lib.hid (fun w' gs F a b c => ⟨gs, F, rfl, a, b, c⟩)
  generalize NewKP w k = Q at *
  cases k
  · have HP := Lib.hid (fun W => landP.new W)
    simp only [Bool.false_eq_true, if_false]
    go_enter Tryz.func4, Tryz.ntmps4
    go_wp2_with fail
    refine (HP.out _).mono ?_
    rintro e w1 ⟨p, F2, rfl, hp, k1, hF⟩
    obtain ⟨gp, vp, rfl, hpl, hpF, hpf⟩ := id hp
    have lp := landP.lt hp
    have K2 : Below w.heap.size w (w1.alloc (.cells #[.iface 46 (.agg #[.pointer (some ⟨gp, 0, none⟩)]), .bool false] 50)) := Below.alloc k1 k1.size _
    have R := Lib.hid (D.out (w1.alloc (.cells #[.iface 46 (.agg #[.pointer (some ⟨gp, 0, none⟩)]), .bool false] 50)) w1.heap.size (fun j => j = w1.heap.size ∨ F2 j) K2 ⟨_, F2, row_new _ rfl, landP.on hp (Below.alloc (Below.refl _ _) (Nat.le_refl _) _), (fun e => by have := lp _ e; omega), fun j => Iff.rfl⟩ (fun j hj => by
      rcases hj with rfl | hj
      · exact k1.size
      · exact hF j hj))
    clear D hp k1 hF lp K2 hpl hpF hpf
    go_wp2_with fail
    exact R.out
  · have HH := Lib.hid (fun W => newH_any W)
    simp only [if_true]
    go_enter Tryz.func4, Tryz.ntmps4
    go_wp2_with fail
    refine (HH.out _).mono ?_
    rintro e w1 ⟨g, F2, rfl, k1, hg, hl, hF⟩
    have lp := hl.lt
    obtain ⟨W, hW⟩ : ∃ W, W = (w1.alloc (.cells #[.pointer (some ⟨g, 0, none⟩), .int .i64 0, .bool false] 55)).alloc (.cells #[.iface 51 (.pointer (some ⟨w1.heap.size, 0, none⟩)), .bool false] 50) := ⟨_, rfl⟩
    have kW : Below w1.heap.size w1 W := by rw [hW]; exact Below.alloc (Below.alloc (Below.refl _ _) (Nat.le_refl _) _) (by simp) _
    have r1 : SRow W (w1.heap.size + 1) 51 (.pointer (some ⟨w1.heap.size, 0, none⟩)) false := by rw [hW]; exact row_new _ (by simp)
    have r2 : W.heap[w1.heap.size]? = some (.cells #[.pointer (some ⟨g, 0, none⟩), .int .i64 0, .bool false] 55 (0, 0)) := by rw [hW]; exact row_old _ (row_new _ rfl)
    have sz := k1.size
    have R := Lib.hid (D.out W (w1.heap.size + 1) (fun j => j = w1.heap.size + 1 ∨ j = w1.heap.size ∨ F2 j) (k1.trans (kW.mono sz)) ⟨w1.heap.size, g, F2, 0, r1, r2, hl.on kW, HsOk.start, (fun e => by have := lp _ e; omega), (fun e => by have := lp _ e; omega), by omega, fun j => Iff.rfl⟩ (fun j hj => by
      rcases hj with rfl | rfl | hj
      · omega
      · omega
      · rw [(hF j).1 hj]; exact hg))
    have HW := Lib.hid hW
    clear D hl k1 hF lp hg kW r1 r2 sz hW
    go_wp2_with fail
    rw [← HW.out]
    exact R.out
end Go.Proofs.YtjhameebehkdjaaGreatDoor
namespace Go.Proofs.YtjhameebehkdjaaGreatDoor
open Go.RowKit Go.Shelf
set_option linter.unusedVariables false
set_option maxRecDepth 100000

theorem TxS.at {S : Nat → Prop} {w : World} {v : Value} {L : List Bs} (h : TxS w S v L) (hn : 0 < L.length) : ∃ g c, v = .slice (some ⟨g, 0, none⟩) L.length c ∧ ∀ j (hj : j < L.length), ∃ A d, w.cell? ⟨g, j, none⟩ = some (.slice A L[j].length d) ∧ SlV w (.slice A L[j].length d) L[j] ∧ OffV S (.slice A L[j].length d) := by
  obtain ⟨xs, ho, -, h3, h4⟩ := h
  rcases ho.2 with ⟨hv, h0⟩ | ⟨g, cap, cur, hv, hb, hh, hc, hm2, hsz, ht⟩
  · omega
  refine ⟨g, cap, hv, fun j hj => ?_⟩
  obtain ⟨x, a, ⟨⟨A, d, rfl, hs⟩, hl⟩, e3, -⟩ := h4 j hj
  refine ⟨A, d, ?_, ⟨⟨A, d, rfl, hs⟩, hl⟩, e3⟩
  rw [cell_of_row _ g j _ _ _ hh]
  rw [← ht, List.getElem?_take_of_lt (by omega)] at a
  simpa using a
/-- One frame more. -/
theorem FrS.more {S : Nat → Prop} {w w0 w1 : World} {B : Nat} {v v1 : Value} {L : List Bs} {y : Bs} {xs : List Value} {A : Option Addr} {d : Nat} (h : FrS w S v L) (hx : SlV w (.slice A y.length d) y) (hxS : OffV S (.slice A y.length d)) (hS : ∀ k, S k → k < w.heap.size) (hB : ∀ k, v.ownBlock = some k → B ≤ k) (hxB : ∀ k, (Value.slice A y.length d).ownBlock = some k → k < B) (hbw : B ≤ w.heap.size) (hk : Below w.heap.size w w0)
    (hxs : ∃ xs, w.ownsRow 0 36 2 v L.length xs ∧ w1.ownsRow 0 36 2 v1 (L.length + 1) (xs ++ [.slice A y.length d, .bool false])) (hg : w0.grownBy w1 v.ownBlock) (hu : v1.ownBlock = v.ownBlock ∨ v1.ownBlock = some w0.heap.size) : FrS w1 S v1 (L ++ [y]) ∧ (∀ k, v1.ownBlock = some k → B ≤ k) := by
  refine ⟨?_, fun k hk1 => ?_⟩
  · obtain ⟨xs', h1, h2⟩ := hxs
    obtain ⟨xs, o1, o2, o4⟩ := h.on hk
    have e : xs = xs' := by
      have o1' := own_mod (S := fun _ => False) h1 (Mod.below hk) (fun _ _ e => e)
      rcases o1.2 with ⟨hv, h0⟩ | ⟨g, cap, cur, hv, hb, hh, hc, hm2, hsz, ht⟩
      · have e1 := o1.1
        have e2 := o1'.1
        rw [h0] at e1 e2
        have f1 : xs = [] := List.length_eq_zero_iff.1 (by simpa using e1)
        have f2 : xs' = [] := List.length_eq_zero_iff.1 (by simpa using e2)
        rw [f1, f2]
      · rcases o1'.2 with ⟨hv', h0⟩ | ⟨g', cap', cur', hv', hb', hh', hc', hm2', hsz', ht'⟩
        · rw [hv] at hv'; cases hv'
        · rw [hv] at hv'
          injection hv' with e1 e2 e3
          injection e1 with e1
          injection e1 with e1
          subst e1
          rw [hh] at hh'
          injection hh' with hh'
          injection hh' with hh'
          rw [← ht, ← ht', hh']
    subst e
    refine FrS.snoc (x := .slice A y.length d) o1 o2 o4 (fun k e => Nat.lt_of_lt_of_le (hS k e) hk.size) (hx.mod (S := fun _ => False) (Mod.below hk) (fun _ _ e => e)) hxS (fun k e e2 => ?_) h2 hg hu
    have := hB k e2
    have := hxB k e
    omega
  · rcases hu with e | e
    · exact hB k (by rw [← e]; exact hk1)
    · rw [e] at hk1; injection hk1 with hk1; have := hk.size; omega
/-- What a kind's feed answers, over a state predicate R of its own. -/
def FeedGP (R : World → (Nat → Prop) → Prop) (w : World) (F : Nat → Prop) (T : List Bs) (e : Ending) (w' : World) : Prop := ∃ v F', e = .returned v ∧ R w' F' ∧ Mod F w w' ∧ (∀ j, F' j → F j ∨ w.heap.size ≤ j) ∧ FrS w' (fun k => F' k ∨ (k < w.heap.size ∧ ¬ F k)) v T
set_option maxHeartbeats 2000000 in
set_option maxRecDepth 100000 in
theorem framesFeed_any (p : Value) (F : Nat → Prop) (x b : Bs) (A : Option Addr) (c : Nat) (w : World) (h : LandP w F p x) (hb : Sl w A c b) (hA : Off F A) (hl : x.length + b.length ≤ 1000000) (hn : (feedP (x ++ b)).1.length ≤ 1000000) :
    Calls Tryz.prog 86 #[.agg #[p], .slice A b.length c] w (FeedGP (fun W F' => LandP W F' p (feedP (x ++ b)).2) w F (feedP (x ++ b)).1) := by
  obtain ⟨gp, vp, hpe, -⟩ := id h
  have W1 : Hid (∀ W, W = w.alloc (.cells #[.pointer (some ⟨gp, 0, none⟩)] 46) → Below w.heap.size w W) := Lib.hid (fun W e => by rw [e]; exact Below.alloc (Below.refl _ _) (Nat.le_refl _) _)
  have FD := Lib.hid (fun W (k : Below w.heap.size w W) => landP.feed (landP.on h k) (hb.on k) hA (by omega))
  obtain ⟨T, hT⟩ : ∃ T, T = (feedP (x ++ b)).1 := ⟨_, rfl⟩
  obtain ⟨r, hr⟩ : ∃ r, r = (feedP (x ++ b)).2 := ⟨_, rfl⟩
  have FP : Hid (∀ W e w', FeedP LandP W F p x b e w' → ∃ v F', e = .returned v ∧ TxS w' (fun k => F' k ∨ (k < W.heap.size ∧ ¬ F k)) v T ∧ LandP w' F' p r ∧ Mod F W w' ∧ ∀ k, F' k → F k ∨ W.heap.size ≤ k) := Lib.hid (fun W e w' q => by rw [hT, hr]; exact q)
  rw [← hT, ← hr]
  rw [← hT] at hn
  have HQ : Hid (∀ v w' F', LandP w' F' p r → Mod F w w' → (∀ j, F' j → F j ∨ w.heap.size ≤ j) → FrS w' (fun k => F' k ∨ (k < w.heap.size ∧ ¬ F k)) v T → FeedGP (fun W F' => LandP W F' p r) w F T (.returned v) w') := Lib.hid (fun v w' F' a b c d => ⟨v, F', rfl, a, b, c, d⟩)
  generalize FeedGP (fun W F' => LandP W F' p r) w F T = Q at *
  generalize b.length = nb at *
  subst hpe
  clear h hb hA hl hT hr
  go_enter Tryz.func86, Tryz.ntmps86
  go_wp2_with fail
  refine (FD.out _ (W1.out _ rfl)).mono ?_
  intro e w1 hq
  obtain ⟨v0, F', rfl, tx, hp, hM, hF'⟩ := FP.out _ e w1 hq
  have hsz := hM.size
  simp at hsz
  have K1 : Mod F w w1 := (Mod.below (W1.out _ rfl)).trans hM (fun i e => .inl e)
  have hF2 : ∀ j, F' j → F j ∨ w.heap.size ≤ j := fun j hj => by
    rcases hF' j hj with e | e
    · exact .inl e
    · simp at e; exact .inr (by omega)
  obtain ⟨S, hS⟩ : ∃ S : Nat → Prop, S = (fun k => F' k ∨ (k < w.heap.size ∧ ¬ F k)) := ⟨_, rfl⟩
  have tx2 : TxS w1 S v0 T := tx.wide (fun i hi => by
    rw [hS] at hi
    rcases hi with e | e
    · exact .inl (.inl e)
    · exact .inl (.inr ⟨by simp; omega, e.2⟩))
  have hSl : ∀ k, S k → k < w1.heap.size := fun k hk => by
    rw [hS] at hk
    rcases hk with e | e
    · exact landP.lt hp k e
    · omega
  obtain ⟨A0, c0, hv0, -⟩ := tx2.byss
  obtain ⟨n, hnn⟩ : ∃ n, n = T.length := ⟨_, rfl⟩
  rw [← hnn] at hv0 hn
  have TX := Lib.hid tx2
  have HP := Lib.hid hp
  have HK1 := Lib.hid K1
  have HF2 := Lib.hid hF2
  have HSL := Lib.hid hSl
  have HN := Lib.hid hnn
  obtain ⟨i0, hi, hz0, hz1, hz2⟩ := info_parts info_fr
  have HSE := Lib.hid hS
  clear FD FP W1 hq tx hp hM hF' hsz K1 hF2 tx2 hSl hnn hS
  subst hv0
  go_wp2_with fail
  go_loopw [5, 13] (fun v5 v13 wr => ∃ k : Nat, v13 = .int .i64 k ∧ k ≤ n ∧ Hid (FrS wr S v5 (T.take k)) ∧ Hid (∀ j, v5.ownBlock = some j → w1.heap.size ≤ j) ∧ Hid (Below w1.heap.size w1 wr)) (fun _ v13 _ => n - (intOf v13).toNat)
  case atStart => exact ⟨0, rfl, by omega, Lib.hid (FrS.nil _ _), Lib.hid (fun j hj => by simp [Value.ownBlock] at hj), Lib.hid (Below.refl _ _)⟩
  case round =>
    obtain ⟨k, rfl, hk, HR, HO, HB⟩ := hrel
    rename World => wr
    by_cases hlt : k < n
    · have hlt' : (k : Int) < (n : Int) := by omega
      have kL : k < T.length := by have := HN.out; omega
      obtain ⟨g0, cc, e4, hat⟩ := (TX.out.on HB.out).at (by omega)
      injection e4 with e4 e5 e6
      clear e5 e6
      obtain ⟨Ab, db, cel, slb, ofb⟩ := hat k kL
      have htk : T.take (k + 1) = T.take k ++ [T[k]] := List.take_succ_eq_append_getElem kL
      have htl : (T.take k).length = k := by rw [List.length_take]; omega
      have hlb := (TX.out.on (Below.refl _ _)).at (by omega)
      obtain ⟨g0', cc', e4', hat'⟩ := TX.out.at (by omega)
      obtain ⟨Ab', db', cel', slb', -⟩ := hat' k kL
      injection e4' with e4' e7 e8
      clear e7 e8
      have hxB : ∀ i, (Value.slice Ab T[k].length db).ownBlock = some i → i < w1.heap.size := by
        rw [e4] at e4'
        injection e4' with e4'
        injection e4' with e4'
        subst e4'
        have c2 := cell_on cel' HB.out
        rw [cel] at c2
        injection c2 with c2
        rw [c2]
        exact slb'.2
      obtain ⟨y1, hy1⟩ : ∃ y, y = T[k] := ⟨_, rfl⟩
      rw [← hy1] at cel slb ofb htk hxB
      have szr := HB.out.size
      obtain ⟨ml, hml⟩ : ∃ m, m = y1.length := ⟨_, rfl⟩
      obtain ⟨xs, hown, -⟩ := id HR.out
      have MORE := Lib.hid (fun w2 v2 hx2 hg2 hu2 => FrS.more (w1 := w2) (v1 := v2) (xs := xs) HR.out slb ofb (fun j hj => Nat.lt_of_lt_of_le (HSL.out j hj) szr) HO.out hxB szr (Below.alloc (Below.refl wr.heap.size wr) (Nat.le_refl _) (.cells #[.slice Ab y1.length db, .bool false] 36 (0, 0))) ⟨xs, hown, hx2⟩ hg2 hu2)
      rw [htl] at hown
      simp only [htl] at MORE
      have HOWN := Lib.hid (ownsRow_below hown (Below.alloc (Below.refl wr.heap.size wr) (Nat.le_refl _) (.cells #[.slice Ab y1.length db, .bool false] 36 (0, 0))) (Nat.le_refl _))
      rw [← hml] at cel MORE HOWN
      have HTK := Lib.hid htk
      have BA := Lib.hid (Below.alloc HB.out szr (.cells #[.slice Ab ml db, .bool false] 36 (0, 0)))
      have HOL : Hid (∀ j, u5.ownBlock = some j → j < wr.heap.size) := Lib.hid (fun j hj => (hown.lt j hj).2)
      clear slb ofb hat htk htl hlb hat' cel' slb' hxB hy1 hml hown kL szr e4'
      subst e4
      go_wp2_with (first
        | (at_builtin; refine wpList_append_own_at _ rfl _ _ 33 rfl 0 36 i0 (.agg #[.slice none 0 0, .bool false]) 2 32 Tryz.underlying33 hi hz0 hz1 hz2 rfl (by decide) _ k xs rfl HOWN.out ⟨wr.heap.size, 0, none⟩ 1 1 [.slice Ab ml db, .bool false] rfl rfl ?c1 ?c2 ?c3 ?c4 ?c5 ?_)
        | fail)
      case c1 => exact World.news_of_block (cs := #[.slice Ab ml db, .bool false]) (t := 36) (fr := (0, 0)) (row_new _ rfl)
      case c2 => simp [Value.oneCell']
      case c3 => unfold maxLen; omega
      case c4 => omega
      case c5 => simp
      intro v2 w2 hown2 hg2 _ hu2
      obtain ⟨hm1, hm2⟩ := MORE.out w2 v2 hown2 hg2 (by simpa using hu2)
      rw [← HTK.out] at hm1
      have HM1 := Lib.hid hm1
      have HM2 := Lib.hid hm2
      have HB2 := Lib.hid (BA.out.grown hg2 BA.out.size (fun j hj => HO.out j hj))
      clear hown2 hg2 hu2 hm1 hm2 MORE HOWN BA HOL
      go_wp2_with fail
      go_roundw
      case rel => exact ⟨k + 1, by go_num, by omega, HM1, HM2, HB2⟩
      case measure => simp [intOf]; omega
    · have hlt' : ¬ (k : Int) < (n : Int) := by omega
      obtain rfl : k = n := by omega
      have hR := HR.out
      rw [HN.out, List.take_length] at hR
      rw [HSE.out] at hR
      have HF := Lib.hid (HQ.out u5 wr F' (landP.on HP.out HB.out) (HK1.out.then HB.out) HF2.out hR)
      clear hR HR HO HB TX HP HK1 HQ
      go_wp2_with fail
      exact HF.out
end Go.Proofs.YtjhameebehkdjaaGreatDoor
namespace Go.Proofs.YtjhameebehkdjaaGreatDoor
open Go.RowKit Go.Shelf
set_option linter.unusedVariables false
set_option maxRecDepth 100000

/-- A row of requests at gq over the reader at g. -/
def ReqR (gq g : Nat) (s : Hs) (w : World) (F : Nat → Prop) : Prop := ∃ F2 n, (∀ j, F j ↔ j = gq ∨ F2 j) ∧ w.heap[gq]? = some (.cells #[.pointer (some ⟨g, 0, none⟩), .int .i64 n, .bool false] 55 (0, 0)) ∧ LHs w F2 g s ∧ HsOk s ∧ ¬ F2 gq
set_option maxHeartbeats 2000000 in
set_option maxRecDepth 100000 in
theorem requestsFeed_any (gq g : Nat) (s : Hs) (F : Nat → Prop) (b : Bs) (A : Option Addr) (c : Nat) (w : World) (h : ReqR gq g s w F) (hb : Sl w A c b) (hA : Off F A) (hM : MaxL w) (hMF : ¬ F (Tryz.lays146_ren.g 1)) (hg : GoodK (.h s) b) (hn : (goH s b).2.1.length ≤ 1000000) :
    Calls Tryz.prog 89 #[.pointer (some ⟨gq, 0, none⟩), .slice A b.length c] w (FeedGP (ReqR gq g (goH s b).1) w F ((goH s b).2.1.map (·.1))) := by
  obtain ⟨F2, n0, hF, hr, hl, hok, hnq⟩ := h
  have q0 := (cell_of_row _ gq 0 _ _ _ hr).trans rfl
  have hgw : gq < w.heap.size := (Array.getElem?_eq_some_iff.1 hr).1
  have FD := Lib.hid (feed_any g F2 s A b c w hl hok hb (fun _ p hp e => hA p hp ((hF _).2 (.inr e))) hM (fun e => hMF ((hF _).2 (.inr e))) (by omega))
  obtain ⟨R, hR⟩ : ∃ R, R = (goH s b).2.1 := ⟨_, rfl⟩
  obtain ⟨t, ht⟩ : ∃ t, t = (goH s b).1 := ⟨_, rfl⟩
  obtain ⟨hg1, hg2⟩ := hg
  have FO : Hid (∀ e w', FeedHP w F2 g s b e w' → ∃ v F', e = .returned (.tuple #[v, .int .i64 0]) ∧ LHs w' F' g t ∧ HsOk t ∧ Mod F2 w w' ∧ (∀ j, F' j → F2 j ∨ w.heap.size ≤ j) ∧ RqS w' (fun k => F' k ∨ (k < w.heap.size ∧ ¬ F2 k)) v R) := Lib.hid (fun e w' h => by
    obtain ⟨v, F', h1, h2⟩ := h
    rw [hg1] at h1
    rw [hR, ht]
    exact ⟨v, F', h1, h2⟩)
  rw [← hR, ← ht]
  rw [← hR] at hn hg2
  have HQ : Hid (∀ v w' F', ReqR gq g t w' F' → Mod F w w' → (∀ j, F' j → F j ∨ w.heap.size ≤ j) → FrS w' (fun k => F' k ∨ (k < w.heap.size ∧ ¬ F k)) v (R.map (·.1)) → FeedGP (ReqR gq g t) w F (R.map (·.1)) (.returned v) w') := Lib.hid (fun v w' F' a b c d => ⟨v, F', rfl, a, b, c, d⟩)
  generalize FeedGP (ReqR gq g t) w F (R.map (·.1)) = Q at *
  have HR0 := Lib.hid hr
  have HFF := Lib.hid hF
  have HNQ := Lib.hid hnq
  have HG2 := Lib.hid hg2
  generalize b.length = nb at *
  clear hF hr hl hok hnq hb hA hM hMF hg1 hg2 hR ht
  go_enter Tryz.func89, Tryz.ntmps89
  go_wp2_with fail
  with_reducible refine FD.out.mono ?_
  intro e w1 hq
  obtain ⟨v0, F', rfl, st, ok, hM, hF', rq⟩ := FO.out e w1 hq
  have hsz := hM.size
  have r1 := hM.row HR0.out HNQ.out
  have nq' : ¬ F' gq := fun e => by
    rcases hF' _ e with e | e
    · exact HNQ.out e
    · omega
  obtain ⟨S, hS⟩ : ∃ S : Nat → Prop, S = (fun k => (k = gq ∨ F' k) ∨ (k < w.heap.size ∧ ¬ F k)) := ⟨_, rfl⟩
  have tx2 : RqS w1 S v0 R := rq.wide (fun i hi => by
    rw [hS] at hi
    rcases hi with (rfl | e) | e
    · exact .inl (.inr ⟨hgw, HNQ.out⟩)
    · exact .inl (.inl e)
    · exact .inl (.inr ⟨e.1, fun h => e.2 ((HFF.out _).2 (.inr h))⟩))
  have hSl : ∀ k, S k → k < w1.heap.size := fun k hk => by
    rw [hS] at hk
    rcases hk with (rfl | e) | e
    · omega
    · exact st.lt k e
    · omega
  have hSq : S gq := by rw [hS]; exact .inl (.inl rfl)
  obtain ⟨A0, c0, hv0⟩ := tx2.sl
  obtain ⟨n, hnn⟩ : ∃ n, n = R.length := ⟨_, rfl⟩
  rw [← hnn] at hv0 hn
  have TX := Lib.hid tx2
  have ST := Lib.hid st
  have OK := Lib.hid ok
  have NQ' := Lib.hid nq'
  have HK1 : Hid (Mod F w w1) := Lib.hid (hM.wide (fun i e => (HFF.out i).2 (.inr e)))
  have HF2 : Hid (∀ j, (j = gq ∨ F' j) → F j ∨ w.heap.size ≤ j) := Lib.hid (fun j hj => by
    rcases hj with rfl | hj
    · exact .inl ((HFF.out _).2 (.inl rfl))
    · rcases hF' j hj with e | e
      · exact .inl ((HFF.out _).2 (.inr e))
      · exact .inr e)
  have HSL := Lib.hid hSl
  have HSQ := Lib.hid hSq
  have HSE := Lib.hid hS
  have HN := Lib.hid hnn
  have HR1 := Lib.hid r1
  have HG1 : Hid (gq < w1.heap.size) := Lib.hid (by omega)
  obtain ⟨i0, hi, hz0, hz1, hz2⟩ := info_parts info_fr
  clear FD FO hq st ok hM hF' rq hsz r1 nq' hS tx2 hSl hSq hnn hgw q0 HR0
  subst hv0
  go_wp2_with fail
  go_loopw [7, 21] (fun v7 v21 wr => ∃ (k : Nat) (n' : Int), v21 = .int .i64 k ∧ k ≤ n ∧ Hid (FrS wr S v7 ((R.map (·.1)).take k)) ∧ Hid (∀ j, v7.ownBlock = some j → w1.heap.size ≤ j) ∧ Hid (Mod (fun i => i = gq) w1 wr) ∧ Hid (wr.heap[gq]? = some (.cells #[.pointer (some ⟨g, 0, none⟩), .int .i64 n', .bool false] 55 (0, 0)))) (fun _ v21 _ => n - (intOf v21).toNat)
  case atStart => exact ⟨0, n0, rfl, by omega, Lib.hid (FrS.nil _ _), Lib.hid (fun j hj => by simp [Value.ownBlock] at hj), Lib.hid (Mod.refl _ _), HR1⟩
  case round =>
    obtain ⟨k, n', rfl, hk, HR, HO, HB, HRQ⟩ := hrel
    rename World => wr
    by_cases hlt : k < n
    · have hlt' : (k : Int) < (n : Int) := by omega
      have kL : k < R.length := by have := HN.out; omega
      obtain ⟨gr, cr, e4, -, hat⟩ := TX.out.at2 (by omega)
      injection e4 with e4 e5 e6
      clear e5 e6
      obtain ⟨Ab, db, rg1, slb1, ofb⟩ := hat k kL
      have hgr : gr ≠ gq := fun e => by
        obtain ⟨_, _, off, _⟩ := TX.out
        rw [e4, e] at off
        exact off gq rfl HSQ.out
      have rg : wr.rangeAt gr (k * 3) [.string (bs reqL), .slice Ab R[k].1.length db, .bool R[k].2] := fun i y hi => HB.out.cell (rg1 i y hi) hgr
      have slb : SlV wr (.slice Ab R[k].1.length db) R[k].1 := slb1.mod HB.out (fun i hi e => by
        have e' : i = gq := e
        subst e'
        exact ofb _ hi HSQ.out)
      have hkeep := HG2.out R[k] (List.getElem_mem kL)
      have htk : (R.map (·.1)).take (k + 1) = (R.map (·.1)).take k ++ [R[k].1] := by rw [List.take_succ_eq_append_getElem (by simpa using kL)]; simp
      have htl : ((R.map (·.1)).take k).length = k := by rw [List.length_take, List.length_map]; omega
      have hxB := slb1.2
      obtain ⟨y1, hy1⟩ : ∃ y, y = R[k].1 := ⟨_, rfl⟩
      rw [← hy1] at rg slb ofb htk hxB
      rw [hkeep] at rg
      have szr := HB.out.size
      obtain ⟨ml, hml⟩ : ∃ m, m = y1.length := ⟨_, rfl⟩
      have iR : Hid ((Tryz.prog.info? 139).map (·.size) = some ([.string (bs reqL), .slice Ab ml db, .bool true] : List Value).length) := Lib.hid info_rq
      have iC : Hid ((Tryz.prog.info? 139).map (·.size) = some (#[.string (bs reqL), .slice Ab ml db, .bool true] : Array Value).size) := Lib.hid info_rq
      have oC : Hid ((#[.string (bs reqL), .slice Ab ml db, .bool true] : Array Value).all (·.oneCell') = true) := Lib.hid (by simp [Value.oneCell'])
      have zC : Hid ((#[.string ⟨#[]⟩, .slice none 0 0, .bool false] : Array Value).size = (#[.string (bs reqL), .slice Ab ml db, .bool true] : Array Value).size) := Lib.hid rfl
      have rZ := row_new (w := wr) (k := wr.heap.size) (.cells #[.string ⟨#[]⟩, .slice none 0 0, .bool false] 139 (0, 0)) rfl
      have r5 := setRow_heap _ _ _ #[.string (bs reqL), .slice Ab ml db, .bool true] _ _ rZ
      have q1 : Below wr.heap.size wr ((wr.alloc (.cells #[.string ⟨#[]⟩, .slice none 0 0, .bool false] 139 (0, 0))).setRow wr.heap.size #[.string (bs reqL), .slice Ab ml db, .bool true]) := Below.setRow (Below.alloc (Below.refl _ _) (Nat.le_refl _) _) (Nat.le_refl _) _
      obtain ⟨W5, hW5⟩ : ∃ W5, W5 = (wr.alloc (.cells #[.string ⟨#[]⟩, .slice none 0 0, .bool false] 139 (0, 0))).setRow wr.heap.size #[.string (bs reqL), .slice Ab ml db, .bool true] := ⟨_, rfl⟩
      rw [← hW5] at r5 q1
      have c1 : W5.cell? ⟨wr.heap.size, 1, none⟩ = some (.slice Ab ml db) := (cell_of_row _ _ 1 _ _ _ r5).trans rfl
      have q2 : Below wr.heap.size wr (W5.alloc (.cells #[.slice Ab ml db, .bool false] 36 (0, 0))) := Below.alloc q1 q1.size _
      have b2 : Below W5.heap.size W5 (W5.alloc (.cells #[.slice Ab ml db, .bool false] 36 (0, 0))) := Below.alloc (Below.refl _ _) (Nat.le_refl _) _
      have R6 := Lib.hid ((b2.block _ (Array.getElem?_eq_some_iff.1 r5).1).trans r5)
      have Q6 := Lib.hid ((q2.block _ (by have := HG1.out; omega)).trans HRQ.out)
      have fr5 := HR.out.on q1
      obtain ⟨xs, hown, -⟩ := id fr5
      have hz5 := q1.size
      have MORE := Lib.hid (fun w2 v2 hx2 hg2 hu2 => FrS.more (w1 := w2) (v1 := v2) (xs := xs) fr5 (slb.mod (S := fun _ => False) (Mod.below q1) (fun _ _ e => e)) ofb (fun j hj => Nat.lt_of_lt_of_le (Nat.lt_of_lt_of_le (HSL.out j hj) szr) hz5) HO.out hxB (Nat.le_trans szr hz5) b2 ⟨xs, hown, hx2⟩ hg2 hu2)
      rw [htl] at hown
      simp only [htl] at MORE
      have HOWN := Lib.hid (ownsRow_below hown b2 (Nat.le_refl _))
      rw [← hml] at rg MORE
      have HTK := Lib.hid htk
      have BA := Lib.hid (HB.out.then q2)
      have HOL : Hid (∀ j, u7.ownBlock = some j → j < wr.heap.size) := Lib.hid (fun j hj => HR.out.lt j hj)
      have HW5 := Lib.hid hW5
      have HSZ := Lib.hid szr
      obtain ⟨n2, hn2⟩ : ∃ z, z = wrap64 (n' + 1) := ⟨_, rfl⟩
      have fw : wrap64 (n' + 1) = n2 := hn2.symm
      clear slb slb1 rg1 ofb hat htk htl hxB hy1 hml hown szr hkeep r5 q1 q2 b2 fr5 hz5 hW5 hn2 hgr kL
      subst e4
      go_wp2_with (first
        | (refine wpList_load_mid rfl 139 (.tmp 23) rfl gr (k * 3) rfl _ _ rg Tryz.underlying139 rfl iR.out ?_)
        | (refine wpList_store_row rfl 139 (.tmp 9) (.tmp 24) rfl wr.heap.size #[.string (bs reqL), .slice Ab ml db, .bool true] rfl rfl 139 _ rZ iC.out (by first | exact zC.out | exact zC.out.symm) oC.out ?_; rw [← HW5.out])
        | (at_builtin; refine wpList_append_own_at _ rfl _ _ 33 rfl 0 36 i0 (.agg #[.slice none 0 0, .bool false]) 2 32 Tryz.underlying33 hi hz0 hz1 hz2 rfl (by decide) _ k xs rfl HOWN.out ⟨W5.heap.size, 0, none⟩ 1 1 [.slice Ab ml db, .bool false] rfl rfl (World.news_of_block (cs := #[.slice Ab ml db, .bool false]) (t := 36) (fr := (0, 0)) (row_new _ rfl)) (by simp [Value.oneCell']) (by unfold maxLen; omega) (by omega) (by simp) ?_)
        | fail)
      intro v2 w2 hown2 hg2 _ hu2
      obtain ⟨hm1, hm2⟩ := MORE.out w2 v2 hown2 hg2 (by simpa using hu2)
      rw [← HTK.out] at hm1
      have nv : ∀ i, u7.ownBlock = some i → i ≠ gq ∧ i ≠ wr.heap.size := fun i hi => by
        have h1 := HO.out i hi
        have h2 := HOL.out i hi
        have h3 := HG1.out
        exact ⟨by omega, by omega⟩
      have rB := (hg2.block _ (Array.getElem?_eq_some_iff.1 R6.out).1 (fun e => (nv _ e.symm).2 rfl)).trans R6.out
      have rQ := (hg2.block _ (Array.getElem?_eq_some_iff.1 Q6.out).1 (fun e => (nv _ e.symm).1 rfl)).trans Q6.out
      have d1 : w2.cell? ⟨gq, 1, none⟩ = some (.int .i64 n') := (cell_of_row _ _ 1 _ _ _ rQ).trans rfl
      have z1 : w2.frozen? ⟨gq, 1, none⟩ = false := frozen_of_row _ _ _ _ _ rQ
      have rQ3 := row_set (w := w2) (g := gq) (i := 1) (.int .i64 n2) rQ
      have hne : wr.heap.size ≠ gq := by have := HG1.out; have := HSZ.out; omega
      have rB3 : (w2.setCell ⟨gq, 1, none⟩ (.int .i64 n2)).heap[wr.heap.size]? = _ := (Below.heap_setCell _ _ _ _ hne).trans rB
      have d2 : (w2.setCell ⟨gq, 1, none⟩ (.int .i64 n2)).cell? ⟨wr.heap.size, 2, none⟩ = some (.bool true) := (cell_of_row _ _ 2 _ _ _ rB3).trans rfl
      have d3 : (w2.setCell ⟨gq, 1, none⟩ (.int .i64 n2)).cell? ⟨gq, 2, none⟩ = some (.bool false) := (cell_of_row _ _ 2 _ _ _ rQ3).trans (by simp)
      have z3 : (w2.setCell ⟨gq, 1, none⟩ (.int .i64 n2)).frozen? ⟨gq, 2, none⟩ = false := frozen_of_row _ _ _ _ _ rQ3
      have rQ4 := row_set (w := w2.setCell ⟨gq, 1, none⟩ (.int .i64 n2)) (g := gq) (i := 2) (.bool false) rQ3
      have MQ : Mod (fun i => i = gq) w2 ((w2.setCell ⟨gq, 1, none⟩ (.int .i64 n2)).setCell ⟨gq, 2, none⟩ (.bool false)) := Mod.trans (S := fun i => i = gq) (S' := fun i => i = gq) (⟨rfl, rfl, rfl, by simp, fun i _ hn => Below.heap_setCell _ _ _ _ hn⟩ : Mod (fun i => i = gq) w2 (w2.setCell ⟨gq, 1, none⟩ (.int .i64 n2))) ⟨rfl, rfl, rfl, by simp, fun i _ hn => Below.heap_setCell _ _ _ _ hn⟩ (fun i e => .inl e)
      have HM1 := Lib.hid (hm1.mod MQ (fun i e => by have e' : i = gq := e; rw [e']; exact HSQ.out))
      have HM2 := Lib.hid hm2
      have HB2 := Lib.hid ((BA.out.trans (S' := fun i => u7.ownBlock = some i) (Mod.grown hg2 (fun i e => e)) (fun i e => .inr (HO.out i e))).trans MQ (fun i e => .inl e))
      have HRQ2 : Hid (((w2.setCell ⟨gq, 1, none⟩ (.int .i64 n2)).setCell ⟨gq, 2, none⟩ (.bool false)).heap[gq]? = some (.cells #[.pointer (some ⟨g, 0, none⟩), .int .i64 n2, .bool false] 55 (0, 0))) := Lib.hid (rQ4.trans (by simp))
      clear hown2 hg2 hu2 hm1 hm2 MORE HOWN BA HOL nv rB rQ rQ3 rB3 rQ4 MQ R6 Q6 HRQ hne rg rZ HW5
      go_wp2_with fail
      go_roundw
      case rel => exact ⟨k + 1, n2, by go_num, by omega, HM1, HM2, HB2, HRQ2⟩
      case measure => simp [intOf]; omega
    · have hlt' : ¬ (k : Int) < (n : Int) := by omega
      obtain rfl : k = n := by omega
      have hR := HR.out
      rw [HN.out, List.take_of_length_le (by simp), HSE.out] at hR
      have HF := Lib.hid (HQ.out u7 wr (fun j => j = gq ∨ F' j) ⟨F', n', fun _ => Iff.rfl, HRQ.out, ST.out.mod HB.out (fun i hi e => by have e' : i = gq := e; rw [e'] at hi; exact NQ'.out hi), OK.out, NQ'.out⟩ (HK1.out.trans HB.out (fun i e => .inl ((HFF.out i).2 (.inl e)))) HF2.out hR)
      clear hR HR HO HB TX HK1 HQ HRQ ST OK
      go_wp2_with fail
      exact HF.out
/-- What Feed answers. -/
def FeedKP (w : World) (F : Nat → Prop) (gs : Nat) (K : Ks) (b : Bs) (e : Ending) (w' : World) : Prop := ∃ v F', e = .returned v ∧ StM w' F' gs (feedK K b).1 ∧ Mod F w w' ∧ (∀ j, F' j → F j ∨ w.heap.size ≤ j) ∧ FrS w' (fun k => F' k ∨ (k < w.heap.size ∧ ¬ F k)) v (feedK K b).2
set_option maxHeartbeats 1000000 in
theorem feedS_any (gs : Nat) (F : Nat → Prop) (K : Ks) (b : Bs) (A : Option Addr) (c : Nat) (w : World) (h : StM w F gs K) (hb : Sl w A c b) (hA : Off F A) (hM : MaxL w) (hMF : ¬ F (Tryz.lays146_ren.g 1)) (hg : GoodK K b) (hl : lenK K + b.length ≤ 1000000) (hn : (feedK K b).2.length ≤ 1000000) :
    Calls Tryz.prog 7 #[.pointer (some ⟨gs, 0, none⟩), .slice A b.length c] w (FeedKP w F gs K b) := by
  have HQ : Hid (∀ v w' F', StM w' F' gs (feedK K b).1 → Mod F w w' → (∀ j, F' j → F j ∨ w.heap.size ≤ j) → FrS w' (fun k => F' k ∨ (k < w.heap.size ∧ ¬ F k)) v (feedK K b).2 → FeedKP w F gs K b (.returned v) w') := Lib.hid (fun v w' F' a b c d => ⟨v, F', rfl, a, b, c, d⟩)
  generalize FeedKP w F gs K b = Q at *
  have hgs := (h.lt gs h.own.1)
  cases K with
  | f x =>
    obtain ⟨p, F2, h1, h2, h3, hF⟩ := h
    have FD := Lib.hid (framesFeed_any p F2 x b A c w h2 hb (fun q hq e => hA q hq ((hF _).2 (.inr e))) hl hn)
    have MD := Lib.hid (madeS_any gs _ _ false w h1)
    have c0 := (cell_of_row _ gs 0 _ _ _ h1).trans rfl
    obtain ⟨gp, vp, hpe, -⟩ := id h2
    subst hpe
    have FIN : Hid (∀ v w' F', LandP w' F' (.pointer (some ⟨gp, 0, none⟩)) (feedP (x ++ b)).2 → Mod F2 w w' → (∀ j, F' j → F2 j ∨ w.heap.size ≤ j) → FrS w' (fun k => F' k ∨ (k < w.heap.size ∧ ¬ F2 k)) v (feedP (x ++ b)).1 → Q (.returned v) w') := Lib.hid (fun v w' F' a1 a2 a3 a4 => HQ.out v w' (fun j => j = gs ∨ F' j) ⟨_, F', a2.row h1 h3, a1, (fun e => by
        rcases a3 _ e with e | e
        · exact h3 e
        · omega), fun _ => Iff.rfl⟩ (a2.wide (fun i e => (hF i).2 (.inr e))) (fun j hj => by
        rcases hj with rfl | hj
        · exact .inl ((hF _).2 (.inl rfl))
        · rcases a3 j hj with e | e
          · exact .inl ((hF _).2 (.inr e))
          · exact .inr e) (a4.wide (fun i hi => by
        rcases hi with (rfl | e) | e
        · exact .inl (.inr ⟨hgs, h3⟩)
        · exact .inl (.inl e)
        · exact .inl (.inr ⟨e.1, fun h => e.2 ((hF _).2 (.inr h))⟩))))
    have FP : Hid (∀ e w', FeedGP (fun W F' => LandP W F' (.pointer (some ⟨gp, 0, none⟩)) (feedP (x ++ b)).2) w F2 (feedP (x ++ b)).1 e w' → ∃ v, e = .returned v ∧ Q (.returned v) w') := Lib.hid (fun e w' ⟨v, F', he, a1, a2, a3, a4⟩ => ⟨v, he, FIN.out v w' F' a1 a2 a3 a4⟩)
    generalize FeedGP (fun W F' => LandP W F' (.pointer (some ⟨gp, 0, none⟩)) (feedP (x ++ b)).2) w F2 (feedP (x ++ b)).1 = QG at *
    generalize b.length = nb at *
    clear h1 h2 hF hb hA hM hMF hg hl hn hgs FIN HQ
    go_enter Tryz.func7, Tryz.ntmps7
    go_wp2_with fail
    refine MD.out.mono ?_
    rintro r w1 ⟨rfl, rfl⟩
    go_wp2_with fail
    with_reducible refine FD.out.mono ?_
    intro e w2 hq
    obtain ⟨v, rfl, hQ⟩ := FP.out e w2 hq
    have HF := Lib.hid hQ
    clear hq hQ FD FP
    go_wp2_with fail
    exact HF.out
  | h s =>
    obtain ⟨gq, g, F2, n, h1, h2, h3, h4, h5, h6, h7, hF⟩ := h
    have FD := Lib.hid (requestsFeed_any gq g s (fun j => j = gq ∨ F2 j) b A c w ⟨F2, n, fun _ => Iff.rfl, h2, h3, h4, h6⟩ hb (fun q hq e => hA q hq ((hF _).2 (.inr e))) hM (fun e => hMF ((hF _).2 (.inr e))) hg (by simpa [feedK] using hn))
    have MD := Lib.hid (madeS_any gs _ _ false w h1)
    have c0 := (cell_of_row _ gs 0 _ _ _ h1).trans rfl
    have hgn : ¬ (gs = gq ∨ F2 gs) := fun e => by rcases e with e | e; exact h7 e.symm; exact h5 e
    have FP : Hid (∀ e w', FeedGP (ReqR gq g (goH s b).1) w (fun j => j = gq ∨ F2 j) ((goH s b).2.1.map (·.1)) e w' → ∃ v, e = .returned v ∧ Q (.returned v) w') := Lib.hid (fun e w' ⟨v, F', he, ⟨F3, n3, b1, b2, b3, b4, b5⟩, a2, a3, a4⟩ => ⟨v, he, HQ.out v w' (fun j => j = gs ∨ F' j) ⟨gq, g, F3, n3, a2.row h1 hgn, b2, b3, b4, (fun e => by
        rcases a3 gs ((b1 _).2 (.inr e)) with e | e
        · exact hgn e
        · omega), b5, h7, fun j => by show (j = gs ∨ F' j) ↔ _; rw [b1 j]⟩ (a2.wide (fun i e => (hF i).2 (.inr e))) (fun j hj => by
        rcases hj with rfl | hj
        · exact .inl ((hF _).2 (.inl rfl))
        · rcases a3 j hj with e | e
          · exact .inl ((hF _).2 (.inr e))
          · exact .inr e) (a4.wide (fun i hi => by
        rcases hi with (rfl | e) | e
        · exact .inl (.inr ⟨hgs, hgn⟩)
        · exact .inl (.inl e)
        · exact .inl (.inr ⟨e.1, fun h => e.2 ((hF _).2 (.inr h))⟩)))⟩)
    generalize FeedGP (ReqR gq g (goH s b).1) w (fun j => j = gq ∨ F2 j) ((goH s b).2.1.map (·.1)) = QG at *
    generalize b.length = nb at *
    clear h1 h2 h3 h4 h5 h6 h7 hF hb hA hM hMF hg hl hn hgs hgn HQ
    go_enter Tryz.func7, Tryz.ntmps7
    go_wp2_with fail
    refine MD.out.mono ?_
    rintro r w1 ⟨rfl, rfl⟩
    go_wp2_with fail
    with_reducible refine FD.out.mono ?_
    intro e w2 hq
    obtain ⟨v, rfl, hQ⟩ := FP.out e w2 hq
    have HF := Lib.hid hQ
    clear hq hQ FD FP
    go_wp2_with fail
    exact HF.out
end Go.Proofs.YtjhameebehkdjaaGreatDoor
namespace Go.Proofs.YtjhameebehkdjaaGreatDoor
open Go.RowKit Go.Shelf
set_option linter.unusedVariables false
set_option maxRecDepth 100000

theorem FrS.lone {S : Nat → Prop} {w : World} {v : Value} {z : Bs} (h : FrS w S v [z]) : ∃ g c a d, v = .slice (some ⟨g, 0, none⟩) 1 c ∧ w.cell? ⟨g, 0, none⟩ = some (.slice a z.length d) ∧ w.cell? ⟨g, 1, none⟩ = some (.bool false) ∧ Sl w a d z := by
  obtain ⟨xs, h1, _, h4⟩ := h
  rcases h1.2 with ⟨hv, h0⟩ | ⟨g, cap, cur, hv, hb, hh, hc, hm2, hsz, ht⟩
  · cases h0
  · obtain ⟨x, e1, e0, ⟨⟨a, c, rfl, e2⟩, -⟩, -⟩ := h4 0 (by simp)
    refine ⟨g, cap, a, c, hv, ?_, ?_, e2⟩
    · rw [cell_of_row _ g 0 _ _ _ hh]
      rw [← ht, List.getElem?_take_of_lt (by simp)] at e1
      simpa using e1
    · rw [cell_of_row _ g 1 _ _ _ hh]
      rw [← ht, List.getElem?_take_of_lt (by simp)] at e0
      simpa using e0
theorem TxS.single {S : Nat → Prop} {w : World} {v : Value} {z : Bs} (h : TxS w S v [z]) : ∃ g c a d, v = .slice (some ⟨g, 0, none⟩) 1 c ∧ w.cell? ⟨g, 0, none⟩ = some (.slice a z.length d) ∧ Sl w a d z := by
  obtain ⟨g, c, hv, hat⟩ := h.at (by simp)
  obtain ⟨A, d, e1, ⟨⟨a', c', e2, e3⟩, -⟩, -⟩ := hat 0 (by simp)
  injection e2 with e4 e5 e6
  subst e4 e6
  exact ⟨g, c, A, d, hv, e1, e3⟩
/-- The bytes of a reply. -/
def repK (k : Bool) (b : Bs) : Bs := if k then headR true b.length true ++ b else encP b
def ReplyKP (w : World) (F : Nat → Prop) (gs : Nat) (k : Bool) (b : Bs) (e : Ending) (w' : World) : Prop := ∃ v, e = .returned (.tuple #[v, .int .i64 0]) ∧ OwnB w' w.heap.size v (repK k b) ∧ StM w' F gs (startK k) ∧ Mod F w w'
set_option maxHeartbeats 1000000 in
theorem replyS_any (k : Bool) (gs : Nat) (F : Nat → Prop) (b : Bs) (A : Option Addr) (c : Nat) (w : World) (h : StM w F gs (startK k)) (hb : Sl w A c b) (hn : b.length ≤ 65535) (hI : ∀ W, Below w.heap.size w W → IT b.length W) :
    Calls Tryz.prog 9 #[.pointer (some ⟨gs, 0, none⟩), .slice A b.length c] w (ReplyKP w F gs k b) := by
  have HQ : Hid (∀ v w', OwnB w' w.heap.size v (repK k b) → StM w' F gs (startK k) → Mod F w w' → ReplyKP w F gs k b (.returned (.tuple #[v, .int .i64 0])) w') := Lib.hid (fun v w' a b c => ⟨v, rfl, a, b, c⟩)
  have HST := Lib.hid h
  generalize ReplyKP w F gs k b = Q at *
  cases k with
  | false =>
    obtain ⟨p, F2, h1, h2, h3, hF⟩ := h
    obtain ⟨gp, vp, hpe, -⟩ := id h2
    subst hpe
    have c0 := (cell_of_row _ gs 0 _ _ _ h1).trans rfl
    have MD := Lib.hid (madeS_any gs _ _ false w h1)
    have KW : Hid (∀ o : Obj, Below w.heap.size w (w.alloc o)) := Lib.hid (fun o => Below.alloc (Below.refl _ _) (Nat.le_refl _) _)
    have EC := Lib.hid (fun W (kk : Below w.heap.size w W) => encL_any A b c W (hb.on kk))
    have FP : Hid (∀ W e w', Below w.heap.size w W → EncF W b e w' → ∃ v, e = .returned (.tuple #[v, .int .i64 0]) ∧ Q (.returned (.tuple #[v, .int .i64 0])) w') := Lib.hid (fun W e w' kk ⟨k2, hh⟩ => by
      rcases hh with ⟨hh, -⟩ | ⟨-, v, he, ho⟩
      · omega
      · exact ⟨v, he, HQ.out v w' (ho.mono kk.size) (HST.out.on (kk.trans (k2.mono kk.size))) (Mod.below (kk.trans (k2.mono kk.size)))⟩)
    have FR : Hid (∀ W, Below w.heap.size w W → Calls Tryz.prog 88 #[.agg #[.pointer (some ⟨gp, 0, none⟩)], .slice A b.length c] W fun e w' => ∃ v, e = .returned (.tuple #[v, .bool false, .int .i64 0]) ∧ Q (.returned (.tuple #[v, .int .i64 0])) w') := Lib.hid (fun W kW => by
      have KA : Hid (∀ o : Obj, Below w.heap.size w (W.alloc o)) := Lib.hid (fun o => Below.alloc kW kW.size _)
      generalize b.length = nb at *
      clear h1 h2 h3 hF hb hn hI HST HQ c0 MD KW kW
      go_enter Tryz.func88, Tryz.ntmps88
      go_wp2_with fail
      refine (EC.out _ (KA.out _)).mono ?_
      intro e w1 hq
      obtain ⟨v, rfl, hQ⟩ := FP.out _ e w1 (KA.out _) hq
      have HF := Lib.hid hQ
      clear hq hQ FP EC
      go_wp2_with fail
      go_returns
      exact ⟨_, rfl, HF.out⟩)
    generalize b.length = nb at *
    clear h1 h2 h3 hF hb hn hI HST HQ EC FP
    go_enter Tryz.func9, Tryz.ntmps9
    go_wp2_with fail
    refine MD.out.mono ?_
    rintro r w1 ⟨rfl, rfl⟩
    go_wp2_with fail
    refine (FR.out _ (Below.refl _ _)).mono ?_
    rintro e w2 ⟨v, rfl, hQ⟩
    have HF := Lib.hid hQ
    clear hQ FR
    go_wp2_with fail
    exact HF.out
  | true =>
    obtain ⟨gq, g, F2, n, h1, h2, h3, h4, h5, h6, h7, hF⟩ := h
    have c0 := (cell_of_row _ gs 0 _ _ _ h1).trans rfl
    have MD := Lib.hid (madeS_any gs _ _ false w h1)
    have q1 := (cell_of_row _ gq 1 _ _ _ h2).trans rfl
    have q2 := (cell_of_row _ gq 2 _ _ _ h2).trans rfl
    have HQ2 := Lib.hid h2
    have hgq : F gq := (hF gq).2 (.inr (.inl rfl))
    have RP := Lib.hid (reply_yes 200 A b c true true w hb (.inl ⟨rfl, hn, rfl⟩) (hI w (Below.refl _ _)))
    obtain ⟨z, hz⟩ : ∃ z, z = wrap64 (n - 1) := ⟨_, rfl⟩
    have fw : wrap64 (n - 1) = z := hz.symm
    obtain ⟨z2, hz2⟩ : ∃ z2, z2 = max z 0 := ⟨_, rfl⟩
    have fm : max z 0 = z2 := hz2.symm
    have FP : Hid (∀ e w1, ReplyOk w (headR true b.length true ++ b) e w1 → ∃ v, e = .returned (.tuple #[v, .int .i64 0]) ∧ w1.cell? ⟨gq, 1, none⟩ = some (.int .i64 n) ∧ w1.frozen? ⟨gq, 1, none⟩ = false ∧ Q (.returned (.tuple #[v, .int .i64 0])) (w1.setCell ⟨gq, 1, none⟩ (.int .i64 z2))) := Lib.hid (fun e w1 ⟨v, he, ho, k1⟩ => by
      have r1 := (k1.block gq (Array.getElem?_eq_some_iff.1 h2).1).trans h2
      have hlt := (Array.getElem?_eq_some_iff.1 h2).1
      have MQ : Mod (fun i => i = gq) w1 (w1.setCell ⟨gq, 1, none⟩ (.int .i64 z2)) := ⟨rfl, rfl, rfl, by simp, fun i _ hn => Below.heap_setCell _ _ _ _ hn⟩
      have M1 : Mod F w (w1.setCell ⟨gq, 1, none⟩ (.int .i64 z2)) := (Mod.below k1).trans MQ (fun i e => .inl (by rw [e]; exact hgq))
      refine ⟨v, he, (cell_of_row _ _ 1 _ _ _ r1).trans rfl, frozen_of_row _ _ _ _ _ r1, HQ.out v _ (ho.mod MQ (fun i hi e => by have e' : i = gq := e; have := (ho.lt i hi).1; omega)) ?_ M1⟩
      refine ⟨gq, g, F2, z2, (Below.heap_setCell _ _ _ _ (fun e => h7 e.symm)).trans ((k1.block gs (Array.getElem?_eq_some_iff.1 h1).1).trans h1), (row_set _ r1).trans (by simp), (h3.on k1).mod MQ (fun j hj e => by have e' : j = gq := e; rw [e'] at hj; exact h6 hj), h4, h5, h6, h7, hF⟩)
    have RR : Hid (Calls Tryz.prog 91 #[.pointer (some ⟨gq, 0, none⟩), .slice A b.length c] w fun e w' => ∃ v, e = .returned (.tuple #[v, .bool false, .int .i64 0]) ∧ Q (.returned (.tuple #[v, .int .i64 0])) w') := Lib.hid (by
      generalize ReplyOk w (headR true b.length true ++ b) = QR at *
      generalize b.length = nb at *
      clear h1 h2 h3 h4 h5 h6 h7 hF hb hn hI HST HQ c0 MD hz hz2 hgq HQ2
      go_enter Tryz.func91, Tryz.ntmps91
      go_wp2_with fail
      refine RP.out.mono ?_
      intro e w1 hq
      obtain ⟨v, rfl, d1, f1, hQ⟩ := FP.out e w1 hq
      have HF := Lib.hid hQ
      clear hq hQ FP RP q1 q2
      go_wp2_with fail
      go_returns
      exact ⟨_, rfl, HF.out⟩)
    generalize b.length = nb at *
    clear h1 h2 h3 h4 h5 h6 h7 hF hb hn hI HST HQ hz hz2 hgq HQ2 FP RP q1 q2 fw fm
    go_enter Tryz.func9, Tryz.ntmps9
    go_wp2_with fail
    refine MD.out.mono ?_
    rintro r w1 ⟨rfl, rfl⟩
    go_wp2_with fail
    refine RR.out.mono ?_
    rintro e w2 ⟨v, rfl, hQ⟩
    have HF := Lib.hid hQ
    clear hQ RR
    go_wp2_with fail
    exact HF.out
theorem endedK_any (gs : Nat) (F : Nat → Prop) (K : Ks) (w : World) (h : StM w F gs K) : Calls Tryz.prog 13 #[.pointer (some ⟨gs, 0, none⟩)] w fun r w' => r = .returned (.bool false) ∧ w' = w := by
  obtain ⟨-, T, v, h1⟩ := h.own
  have c1 := (cell_of_row _ gs 1 _ _ _ h1).trans (show _ = some (Value.bool false) from rfl)
  have M := Lib.hid (madeS_any gs T v false w h1)
  clear h h1
  go_enter Tryz.func13, Tryz.ntmps13
  go_wp2_with fail
  refine M.out.mono ?_
  rintro r w1 ⟨rfl, rfl⟩
  go_wp2_with fail
  go_ret
  exact ⟨rfl, rfl⟩
end Go.Proofs.YtjhameebehkdjaaGreatDoor
