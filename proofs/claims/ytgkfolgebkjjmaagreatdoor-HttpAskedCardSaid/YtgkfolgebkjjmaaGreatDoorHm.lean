/-
  Requests one behind the other, cut in any way: the plain half of HttpAsked.
  slices.Clone of numbers; the cuts of HttpAsked, with one more behind them.
  Requests in a row, one of them with where its body lies; a list of one text, new in memory.
  The walk of HttpAsked: its first loop.
  The tables of strconv and math/bits, as the row lists them; Itoa's contract.
-/
import Derived.Test.YtgkfolgebkjjmaaGreatDoorHtAa
import Derived.Test.YtgkfolgebkjjmaaGreatDoorHy
import Derived.Test.YtgkfolgebkjjmaaGreatDoorEc
import Derived.Test.YtgkfolgebkjjmaaGreatDoorRdE
import Derived.Test.YtgkfolgebkjjmaaGreatDoorHtW
import Derived.Test.YtgkfolgebkjjmaaGreatDoorEq2
import Derived.Deep.CutBlock
import Derived.Deep.DeepCutAuto
import Derived.Shelf.Strconv.Itoa3
import Derived.Test.YtgkfolgebkjjmaaGreatDoorSh
import Derived.Lib.AppendIntMem
import Derived.Test.YtgkfolgebkjjmaaGreatDoorCards
import Derived.Lib.LaidTab
import Derived.Stop.LaidErr
import Derived.WalkSmall
namespace Go.Proofs.YtgkfolgebkjjmaaGreatDoor
open Go.RowKit
set_option linter.unusedVariables false
set_option maxRecDepth 100000

/-- The first k texts, each cut, with what each is asked by. -/
def prsH (ch : Nat → Bool) (L : List Bs) (k : Nat) : List (Bool × Bs) := (List.range k).map fun i => (ch i, (L.getD i []).take 500)
def txsH (P : List (Bool × Bs)) : List Bs := P.map (·.2)
theorem prsH_len (ch : Nat → Bool) (L : List Bs) (k : Nat) : (prsH ch L k).length = k := by simp [prsH]
theorem prsH_snoc (ch : Nat → Bool) (L : List Bs) {k : Nat} (h : k < L.length) : prsH ch L (k + 1) = prsH ch L k ++ [(ch k, L[k].take 500)] := by
  unfold prsH
  have e : L.getD k [] = L[k] := by simp [List.getD, h]
  rw [List.range_succ, List.map_append, List.map_singleton, e]
theorem txsH_snoc (P : List (Bool × Bs)) (x : Bool × Bs) : txsH (P ++ [x]) = txsH P ++ [x.2] := by simp [txsH]
theorem askAll_snoc (P : List (Bool × Bs)) (x : Bool × Bs) : askAll (P ++ [x]) = askAll P ++ askB' x.1 x.2 := by
  unfold askAll askB'
  rw [List.flatMap_append]
  simp
theorem prsH_le (ch : Nat → Bool) (L : List Bs) (k : Nat) : ∀ x ∈ prsH ch L k, x.2.length ≤ 500 := fun x hx => by
  obtain ⟨i, _, rfl⟩ := List.mem_map.1 hx
  rw [List.length_take]
  omega
theorem askN_len (ch : Bool) (b : Bs) (h : b.length ≤ 500) : (askB' ch b).length ≤ 3200 := by
  unfold askB'
  cases ch
  · have h1 := askH_len (n := b.length) (by omega)
    simp only [Bool.false_eq_true, if_false, List.length_append]
    omega
  · have h1 := encC_len b.length 100 b (by omega) (by omega)
    have h2 : (sAsk ++ (lEnc ++ crlf) ++ crlf).length = 111 := by decide
    simp only [if_true]
    rw [chunkH_eq, List.length_append, h2]
    unfold encK
    omega
theorem askAll_len : ∀ (P : List (Bool × Bs)), (∀ x ∈ P, x.2.length ≤ 500) → (askAll P).length ≤ P.length * 3200
  | [], _ => by simp [askAll]
  | x :: P, h => by
    have h1 := askAll_len P (fun y hy => h y (by simp [hy]))
    have h2 := askN_len x.1 x.2 (h x (by simp))
    have e : askAll (x :: P) = askB' x.1 x.2 ++ askAll P := by simp [askAll, askB']
    rw [e, List.length_append, List.length_cons, Nat.add_mul]
    omega
/-- What is still to be told: the texts, each of a request that is kept; the reader ends ahead of the next head. -/
def Left (s : Hs) (x : Bs) (G W : List Bs) : Prop := ∃ R : List Rq, goH s x = (.hd [], R, false) ∧ G ++ R.map (·.1) = W ∧ ∀ r ∈ R, r.2 = true
theorem Left.start (P : List (Bool × Bs)) (h : ∀ x ∈ P, x.2.length ≤ 500) : Left (.hd []) (askAll P) [] (txsH P) := by
  refine ⟨_, go_all P (fun x hx => by have := h x hx; omega), ?_, ?_⟩
  · simp [txsH]
  · intro r hr
    obtain ⟨x, _, rfl⟩ := List.mem_map.1 hr
    rfl
/-- One more feed, of the first N bytes: what it tells is of kept requests, and the rest is left. -/
theorem Left.step {s : Hs} {x : Bs} {G W : List Bs} (N : Nat) (h : Left s x G W) : (goH s (x.take N)).2.2 = false ∧ (∀ r ∈ (goH s (x.take N)).2.1, r.2 = true) ∧ Left (goH s (x.take N)).1 (x.drop N) (G ++ (goH s (x.take N)).2.1.map (·.1)) W := by
  obtain ⟨R, h1, h2, h3⟩ := h
  have e : goH s x = thenH (goH s (x.take N)) (goH (goH s (x.take N)).1 (x.drop N)) := by rw [← goH_app, List.take_append_drop]
  rw [e] at h1
  simp only [thenH, Prod.mk.injEq, Bool.or_eq_false_iff] at h1
  obtain ⟨q1, q2, q3, q4⟩ := h1
  subst q2
  refine ⟨q3, fun r hr => h3 r (List.mem_append_left _ hr), (goH (goH s (x.take N)).1 (x.drop N)).2.1, Prod.ext q1 (Prod.ext rfl q4), ?_, fun r hr => h3 r (List.mem_append_right _ hr)⟩
  rw [List.append_assoc, ← List.map_append]
  exact h2
/-- Fed to the end, all texts were told. -/
theorem Left.all {s : Hs} {x : Bs} {G W : List Bs} (h : Left s x G W) : goH s x = (.hd [], (goH s x).2.1, false) ∧ G ++ (goH s x).2.1.map (·.1) = W := by
  obtain ⟨R, h1, h2, -⟩ := h
  rw [h1]
  exact ⟨rfl, h2⟩
theorem Left.count {s : Hs} {x : Bs} {G W : List Bs} (h : Left s x G W) : G.length + (goH s x).2.1.length = W.length := by
  have := congrArg List.length h.all.2
  rw [List.length_append, List.length_map] at this
  exact this
end Go.Proofs.YtgkfolgebkjjmaaGreatDoor
namespace Go.Proofs.YtgkfolgebkjjmaaGreatDoor
open Go.RowKit
set_option linter.unusedVariables false
set_option maxRecDepth 100000

theorem info_int9 : (Tryz.prog.info? 3).map (fun i => (i.zero, i.size, i.bytes)) = some (some (.int .i64 0), 1, 8) := by kernel_rfl
/-- Numbers in a row of the call's own. -/
def OwnN (w : World) (B : Nat) (v : Value) (l : List Int) : Prop := w.ownsRow B 3 1 v l.length (l.map (Value.int .i64))
theorem OwnN.below {w w' : World} {B : Nat} {v : Value} {l : List Int} (h : OwnN w B v l) (hB : Below w.heap.size w w') : OwnN w' B v l := ownsRow_below h hB (Nat.le_refl _)
theorem OwnN.nts {w : World} {B : Nat} {v : Value} {l : List Int} (h : OwnN w B v l) : ∃ A c, v = .slice A l.length c ∧ Nts w A l ∧ l.length ≤ c ∧ c ≤ 9223372036854775807 := by
  rcases h.2 with ⟨h1, h2⟩ | ⟨g, cap, cur, h1, hb, hh, hc, hm, hsz, ht⟩
  · refine ⟨none, 0, by rw [h1, h2], fun hl => by omega, by omega, by omega⟩
  · refine ⟨_, cap, h1, fun hl => ⟨g, 0, rfl, fun j hj => ?_⟩, hc, by unfold maxLen at hm; omega⟩
    rw [Nat.zero_add]
    refine (cell_of_row _ _ _ _ _ _ hh).trans ?_
    have h3 : (l.map (Value.int .i64))[j]? = some (.int .i64 l[j]) := by simp [hj]
    rw [← ht, List.getElem?_take_of_lt (by omega)] at h3
    simpa using h3
theorem OwnN.nt {w : World} {B n c : Nat} {A : Option Addr} {l : List Int} (h : OwnN w B (.slice A n c) l) : Nts w A l := by
  obtain ⟨A', c', e, hn, -⟩ := h.nts
  injection e with e1 _ _
  subst e1
  exact hn
theorem nts_news {w : World} {ad : Addr} {l : List Int} (h : Nts w (some ad) l) : ∀ j u, (l.map (Value.int .i64))[j]? = some u → w.cell? (ad.add j) = some u := fun j u hj => by
  rw [List.getElem?_map] at hj
  cases hl : l[j]? with
  | none => rw [hl] at hj; cases hj
  | some z =>
    rw [hl] at hj
    injection hj with hj
    obtain ⟨hjl, hz⟩ := List.getElem?_eq_some_iff.1 hl
    obtain ⟨g, off, hp, hc⟩ := h (by omega)
    injection hp with hp
    subst hp
    rw [Addr.add_lit, hc j hjl, hz, ← hj]
set_option maxHeartbeats 1000000 in
theorem CloneI_any (A : Option Addr) (l : List Int) (c : Nat) (w : World) (hS : Nts w A l) (hl : l.length * 8 ≤ 140737488355328) :
    Calls Tryz.prog 12 #[.slice A l.length c] w fun e w' => ∃ v, e = .returned v ∧ OwnN w' w.heap.size v l ∧ Below w.heap.size w w' := by
  have q : ∀ (w : World) (a : Option Addr) (n c n' c' : Nat), (binOp .eql 32 (.slice a n c) (.slice none n' c')).run Tryz.prog w = .ok (.bool a.isNone) w := fun w a n c n' c' => Lib.run_eql_slice_nil w _ _ a n c n' c' Tryz.underlying32
  cases A with
  | none =>
    have h0 : l = [] := by
      rcases l with _ | ⟨x, l⟩
      · rfl
      · obtain ⟨g, off, h, -⟩ := hS (by simp)
        cases h
    subst h0
    clear hS
    go_enter Tryz.func12, Tryz.ntmps12
    go_wp2_with fail
    go_ret
    exact ⟨_, rfl, World.ownsRow_nil _ _ _ _, Below.refl _ _⟩
  | some ad =>
    obtain ⟨i0, hi, hz0, hz1, hz2⟩ := info_parts info_int9
    have b0 : Below w.heap.size w (w.alloc (.cells #[] 3 (0, 0))) := Below.alloc (Below.refl _ _) (Nat.le_refl _) _
    have ow : (w.alloc (.cells #[] 3 (0, 0))).ownsRow w.heap.size 3 1 (.slice (some ⟨w.heap.size, 0, none⟩) 0 0) 0 [] := ⟨rfl, .inr ⟨w.heap.size, 0, #[], rfl, Nat.le_refl _, row_new _ rfl, Nat.le_refl _, by unfold maxLen; omega, rfl, rfl⟩⟩
    have HS := Lib.hid (nts_news (hS.on b0))
    have OW := Lib.hid ow
    obtain ⟨n, hn⟩ : ∃ n, n = l.length := ⟨_, rfl⟩
    rw [← hn] at hl ⊢
    have HN := Lib.hid hn
    clear hS ow hn
    go_enter Tryz.func12, Tryz.ntmps12
    go_wp2_with (first
      | (at_builtin; refine wpList_append_at rfl (.tmp 5) (.tmp 6) 32 rfl w.heap.size 3 i0 (.int .i64 0) 1 8 Tryz.underlying32 hi hz0 hz1 hz2 rfl (by decide) _ 0 [] rfl OW.out ad n c (l.map (Value.int .i64)) rfl (by rw [HN.out]; simp) HS.out (fun u hu => by obtain ⟨z, _, rfl⟩ := List.mem_map.1 hu; rfl) (by unfold maxLen; omega) (by omega) (by simp) ?_)
      | fail)
    intro v' w' ow' hg hf
    have HB : Hid (Below w.heap.size w w') := Lib.hid (Below.grown b0 hg (by simp) (fun j e => by simp [Value.ownBlock] at e; omega))
    have HO : Hid (OwnN w' w.heap.size v' l) := Lib.hid (by
      unfold OwnN
      rw [← HN.out]
      simpa using ow')
    clear ow' hg hf b0
    go_wp2_with fail
    go_ret
    exact ⟨_, rfl, HO.out, HB.out⟩
end Go.Proofs.YtgkfolgebkjjmaaGreatDoor
namespace Go.Proofs.YtgkfolgebkjjmaaGreatDoor
open Go.RowKit
set_option linter.unusedVariables false
set_option maxRecDepth 100000

theorem RqS.at2 {S : Nat → Prop} {w : World} {v : Value} {L : List Rq} (h : RqS w S v L) (hn : 0 < L.length) : ∃ g c, v = .slice (some ⟨g, 0, none⟩) L.length c ∧ (∃ cs fz, w.heap[g]? = some (.cells cs 40 fz)) ∧ ∀ j (hj : j < L.length), ∃ A d, w.rangeAt g (j * 3) [.string (bs reqL), .slice A L[j].1.length d, .bool L[j].2] ∧ SlV w (.slice A L[j].1.length d) L[j].1 ∧ OffV S (.slice A L[j].1.length d) := by
  obtain ⟨xs, ho, -, h4⟩ := h
  rcases ho.2 with ⟨hv, h0⟩ | ⟨g, cap, cur, hv, hb, hh, hc, hm2, hsz, ht⟩
  · omega
  refine ⟨g, cap, hv, ⟨_, _, hh⟩, fun j hj => ?_⟩
  obtain ⟨x, a, b, c, ⟨⟨A, d, rfl, hs⟩, hl⟩, e3, -⟩ := h4 j hj
  have cell : ∀ i y, i < L.length * 3 → xs[i]? = some y → w.cell? ⟨g, i, none⟩ = some y := fun i y hi hy => by
    rw [cell_of_row _ g i _ _ _ hh]
    rw [← ht, List.getElem?_take_of_lt hi] at hy
    simpa using hy
  refine ⟨A, d, fun i y hi => ?_, ⟨⟨A, d, rfl, hs⟩, hl⟩, e3⟩
  match i, hi with
  | 0, hi => injection hi with hi; subst hi; exact cell _ _ (by omega) a
  | 1, hi => injection hi with hi; subst hi; exact cell _ _ (by omega) b
  | 2, hi => injection hi with hi; subst hi; exact cell _ _ (by omega) c
theorem TxS.lone {w : World} {S : Nat → Prop} {y : Bs} {A : Option Addr} {d : Nat} (hx : SlV w (.slice A y.length d) y) (ho : OffV S (.slice A y.length d)) (hS : ∀ k, S k → k < w.heap.size) : TxS (w.alloc (.cells #[.slice A y.length d] 22)) S (.slice (some ⟨w.heap.size, 0, none⟩) 1 1) [y] := by
  have b : Below w.heap.size w (w.alloc (.cells #[.slice A y.length d] 22)) := Below.alloc (Below.refl _ _) (Nat.le_refl _) _
  refine ⟨[.slice A y.length d], ⟨rfl, .inr ⟨w.heap.size, 1, #[.slice A y.length d], rfl, Nat.zero_le _, row_new _ rfl, Nat.le_refl _, by unfold maxLen; omega, rfl, rfl⟩⟩, fun k hk e => ?_, rfl, fun j hj => ?_⟩
  · simp [Value.ownBlock] at hk
    have := hS k e
    omega
  · obtain rfl : j = 0 := by simp at hj; omega
    refine ⟨_, rfl, hx.mod (S := fun _ => False) (Mod.below b) (fun _ _ h => h), ho, fun k hk e => ?_⟩
    simp [Value.ownBlock] at e
    have := hx.2 k hk
    omega
/-- Nothing left to feed: all was told, and the reader waits for a head. -/
theorem Left.done {s : Hs} {G W : List Bs} (h : Left s [] G W) : s = .hd [] ∧ G = W := by
  obtain ⟨R, h1, h2, -⟩ := h
  have e : goH s [] = (s, [], false) := by cases s <;> rfl
  rw [e] at h1
  injection h1 with h1 h3
  injection h3 with h3 _
  subst h3
  exact ⟨h1, by simpa using h2⟩
theorem last_cut {cuts : List Int} {n : Nat} {z : Int} (hn : n = cuts.length + 1) (k : Nat) (hk : k + 1 = n) : (cuts ++ [z])[k]? = some z := by
  have : k = cuts.length := by omega
  subst this
  simp
end Go.Proofs.YtgkfolgebkjjmaaGreatDoor
namespace Go.Proofs.YtgkfolgebkjjmaaGreatDoor
open Go.RowKit
set_option linter.unusedVariables false
set_option maxRecDepth 100000

theorem askB_pos (ch : Bool) (b : Bs) : 0 < (askB' ch b).length := by
  unfold askB'
  cases ch
  · have : 81 ≤ (askH b.length).length := by
      have h2 : sAsk.length = 81 := by decide
      rw [askH, List.length_append, h2]; omega
    simp only [Bool.false_eq_true, if_false, List.length_append]
    omega
  · have h2 : (sAsk ++ (lEnc ++ crlf) ++ crlf).length = 111 := by decide
    simp only [if_true]
    rw [chunkH_eq, List.length_append, h2]
    omega
/-- How the k-th request is asked. -/
def chF (t : Int) (k : Nat) : Bool := bits .and .u64 (t / 2 ^ k) 1 == 1
theorem prsH_all (ch : Nat → Bool) (L : List Bs) : (prsH ch L (min L.length 11)).length ≤ 11 := by rw [prsH_len]; omega
/-- Behind the first loop: all bytes, and the texts that are wanted. -/
def GathH (w : World) (P : List (Bool × Bs)) (s5 s6 : Value) (wx : World) : Prop := ∃ xs, OwnB wx w.heap.size s5 (askAll P) ∧ wx.ownsRow w.heap.size 22 1 s6 P.length xs ∧ RowsA w xs (txsH P) ∧ (s5.ownBlock = none ∨ s5.ownBlock ≠ s6.ownBlock) ∧ Below w.heap.size w wx

set_option maxHeartbeats 4000000 in
set_option maxRecDepth 100000 in
theorem HttpAsked_any (A : Option Addr) (L : List Bs) (c : Nat) (t : Int) (Ac : Option Addr) (cuts : List Int) (cc : Nat) (w : World) (hL : Byss w A L) (hm : L.length ≤ 9223372036854775807) (hC : Nts w Ac cuts) (hcm : cuts.length * 8 ≤ 140737488351232) (ht : 0 ≤ t ∧ t ≤ 18446744073709551615) (hT : TabC w) (hM : MaxL w) (hI : ∀ n w', n ≤ 65535 → Below w.heap.size w w' → IT n w') : Calls Tryz.prog 4 #[.slice A L.length c, .int .u64 t, .slice Ac cuts.length cc] w fun e w' => e = .returned (.bool true) ∧ Below w.heap.size w w' := by
  have HL := Lib.hid hL
  have HC := Lib.hid hC
  have HT := Lib.hid hT
  have HM9 := Lib.hid hM
  have HI := Lib.hid hI
  have HTT := Lib.hid ht
  obtain ⟨n, hn⟩ : ∃ n, n = L.length := ⟨_, rfl⟩
  obtain ⟨nc, hnc⟩ : ∃ n, n = cuts.length := ⟨_, rfl⟩
  rw [← hn, ← hnc]
  rw [← hn] at hm
  rw [← hnc] at hcm
  have HN := Lib.hid hn
  have HNC := Lib.hid hnc
  obtain ⟨i0, hi, hz0, hz1, hz2⟩ := info_parts info_slb
  clear hL hC hn hnc hT hM hI ht
  go_enter Tryz.func4, Tryz.ntmps4
  go_upto_block 0 with fail
  go_cut [7, 8] (fun s5 s6 wx => GathH w (prsH (chF t) L (min n 11)) s5 s6 wx)
  case first =>
    go_wp2_with fail
    go_loopw [7, 8, 24] (fun v5 v6 v18 wr => ∃ (k : Nat) (A5 : Option Addr) (c5 : Nat) (xs : List Value), v18 = .int .i64 k ∧ k ≤ n ∧ k ≤ 11 ∧ v5 = .slice A5 (askAll (prsH (chF t) L k)).length c5 ∧ OwnB wr w.heap.size v5 (askAll (prsH (chF t) L k)) ∧ wr.ownsRow w.heap.size 22 1 v6 k xs ∧ RowsA w xs (txsH (prsH (chF t) L k)) ∧ (v5.ownBlock = none ∨ v5.ownBlock ≠ v6.ownBlock) ∧ Below w.heap.size w wr) (fun _ _ v18 _ => n - (intOf v18).toNat)
    case atStart => exact ⟨0, none, 0, [], rfl, by omega, by omega, rfl, .inl ⟨rfl, rfl⟩, World.ownsRow_nil _ _ _ _, RowsA.nil _, .inl rfl, Below.refl _ _⟩
    case round =>
      obtain ⟨k, A5, c5, xs, rfl, hk, hk21, rfl, ho, hown, hrows, hne, hB⟩ := hrel
      by_cases hlt : k < n
      · have hlt' : (k : Int) < (n : Int) := by omega
        have kL : k < L.length := by have := HN.out; omega
        obtain ⟨g1, o1, rfl, hc1⟩ := HL.out (by omega)
        obtain ⟨a1, d1, C1, D1, hd1, hm1, hn1⟩ := hc1 k kL
        have C1' := cell_on C1 hB
        by_cases h20 : (10 : Int) < (k : Int)
        · have hk2 : k = 11 := by omega
          subst hk2
          have HF : Hid (GathH w (prsH (chF t) L (min n 11)) (.slice A5 (askAll (prsH (chF t) L 11)).length c5) u8 wr) := Lib.hid (by
            rw [show min n 11 = 11 by omega]
            exact ⟨xs, ho, by rw [prsH_len]; exact hown, hrows, hne, hB⟩)
          generalize L[11] = y at *
          generalize (askAll (prsH (chF t) L 11)).length = m at *
          clear ho hown hrows hne hB hc1 C1 D1
          go_wp2_with fail
          go_meet
          exact HF.out
        · have h20' : ¬ (k : Int) > 10 := by omega
          have htk := prsH_snoc (chF t) L kL
          obtain ⟨W, hW⟩ : ∃ W, W = prsH (chF t) L k := ⟨_, rfl⟩
          have hWl : W.length = k := by rw [hW, prsH_len]
          have hWe : (askAll W).length ≤ 35200 := by
            have := askAll_len W (by rw [hW]; exact prsH_le (chF t) L k)
            rw [hWl] at this
            omega
          rw [← hW] at ho hrows htk hne
          generalize hyy : L[k] = y at *
          obtain ⟨z, hz⟩ : ∃ z, z = y.take 500 := ⟨_, rfl⟩
          rw [← hz] at htk
          obtain ⟨ly, hly⟩ : ∃ n, n = y.length := ⟨_, rfl⟩
          obtain ⟨lz, hlz⟩ : ∃ n, n = z.length := ⟨_, rfl⟩
          have hlz2 : lz = min ly 500 := by rw [hlz, hz, List.length_take, hly]; omega
          have sp := slice_pre a1 y d1 (min ly 500) (min (ly : Int) 500) (by omega) hd1 (by omega)
          have e1 : y.take (min ly 500) = z := by rw [hz, List.take_eq_take_iff]; omega
          rw [e1, ← hlz, ← hly] at sp
          have hmin : min (ly : Int) 500 = (lz : Int) := by omega
          rw [hmin] at sp
          have sz0 : Sl w a1 d1 z := by rw [hz]; exact ⟨D1.pre 500, by rw [List.length_take]; omega, hm1, hn1⟩
          have HZ := Lib.hid sz0
          have hlz5 : z.length ≤ 65535 := by rw [← hlz]; omega
          have E1 := Lib.hid (ask_any a1 z d1 (chF t k) wr (sz0.on hB) hlz5 (HT.out.on hB) (HI.out _ wr hlz5 hB))
          have hrm : Int.tmod (k : Int) 32 = (k : Int) := Int.tmod_eq_of_lt (by omega) (by omega)
          obtain ⟨cb, hcb⟩ : ∃ cb, cb = chF t k := ⟨_, rfl⟩
          have hbit : (bits .and .u64 (t / 2 ^ k) 1 == 1) = cb := hcb.symm
          rw [← hcb] at E1 htk
          clear hcb
          rw [← hlz] at E1
          rw [← hly] at C1'
          have hl3 : lz ≤ 500 := by omega
          have HO := Lib.hid ho
          have HOW := Lib.hid hown
          have HR := Lib.hid hrows
          have HNE := Lib.hid hne
          have HB := Lib.hid hB
          have HTK := Lib.hid htk
          have HLZ := Lib.hid hlz
          have HWL := Lib.hid hWl
          have HMIN := Lib.hid hmin
          have szr := hB.size
          obtain ⟨me, hme⟩ : ∃ m, m = (askAll W).length := ⟨_, rfl⟩
          rw [← hW, ← hme]
          rw [← hme] at HO HNE hWe
          have HME := Lib.hid hme
          clear ho hown hrows hne hB htk hlz hly hWl hlz2 e1 sz0 hz hW hme hc1 C1 D1 hd1 hm1 hn1 hyy kL
          go_wp2_with fail
          refine E1.out.mono ?_
          rintro e w1 ⟨v, rfl, hv, k1⟩
          obtain ⟨Af, cf, rfl, sf⟩ := hv.bysN
          have hfl0 : (askB' cb z).length ≤ 3200 ∧ 0 < (askB' cb z).length := ⟨askN_len cb z (by rw [← HLZ.out]; exact hl3), askB_pos cb z⟩
          obtain ⟨fl, hfl⟩ : ∃ n, n = (askB' cb z).length := ⟨_, rfl⟩
          rw [← hfl]
          rw [← hfl] at hfl0
          have hf : ((fl : Int) == 0) = false := by rw [beq_eq_false_iff_ne]; omega
          have O1 := Lib.hid (HO.out.below k1 (Nat.le_refl _))
          have OW1 := Lib.hid (ownsRow_below HOW.out k1 (Nat.le_refl _))
          have B1 := Lib.hid (Below.trans HB.out (k1.mono szr))
          have SF := Lib.hid sf
          have HFL := Lib.hid hfl
          have sz1 : w.heap.size ≤ w1.heap.size := Nat.le_trans szr k1.size
          have szw : wr.heap.size ≤ w1.heap.size := k1.size
          have hfl3 : fl ≤ 3200 := hfl0.1
          have HNE2 : Hid (∀ j, u8.ownBlock = some j → j < wr.heap.size) := Lib.hid (fun j e => (HOW.out.lt j e).2)
          clear hv sf hfl hfl0 k1 HO HOW HB E1
          go_wp2_with (first
            | (at_builtin; refine wpList_append_bys rfl (.tmp 54) (.tmp 55) rfl w.heap.size _ (askAll W) rfl O1.out Af cf fl (askB' cb z) rfl HFL.out SF.out.bys SF.out.nil (by have := HFL.out; have := HME.out; omega) sz1 ?_)
            | fail)
          intro v5 w2 ho2 hg2 hf2
          obtain ⟨A5', c5', rfl, -⟩ := ho2.bysN
          have b2 : Below w.heap.size w w2 := B1.out.grown hg2 sz1 (fun j hj => (O1.out.lt j hj).1)
          have ow2 := OW1.out.kept hg2 (by
            cases hv : u8.ownBlock with
            | none => exact .inl rfl
            | some j => exact .inr (fun e => by
                rcases HNE.out with h | h
                · rw [h] at e; cases e
                · exact h (e.symm.trans hv.symm)))
          have hne2 : (Value.slice A5' (askAll W ++ askB' cb z).length c5').ownBlock = none ∨ (Value.slice A5' (askAll W ++ askB' cb z).length c5').ownBlock ≠ u8.ownBlock := by
            cases hv : (Value.slice A5' (askAll W ++ askB' cb z).length c5').ownBlock with
            | none => exact .inl rfl
            | some j =>
              refine .inr (fun e => ?_)
              rcases hf2 j hv with h | h
              · rcases HNE.out with h' | h'
                · rw [h'] at h; cases h
                · exact h' (h.trans e)
              · have := HNE2.out j e.symm
                omega
          have es : askAll W ++ askB' cb z = askAll (prsH (chF t) L (k + 1)) := by rw [HTK.out, askAll_snoc]
          rw [es] at ho2 hne2
          rw [es]
          have sz2 : w.heap.size ≤ w2.heap.size := b2.size
          have O2 := Lib.hid ho2
          have OW2 := Lib.hid ow2
          have B2 := Lib.hid b2
          have NE2 := Lib.hid hne2
          obtain ⟨m2, hm2⟩ : ∃ m, m = (askAll (prsH (chF t) L (k + 1))).length := ⟨_, rfl⟩
          rw [← hm2]
          rw [← hm2] at O2 NE2
          have HM2 := Lib.hid hm2
          clear ho2 hg2 hf2 b2 ow2 hne2 es hm2 O1 OW1 B1 SF HNE HNE2
          go_wp2_with (first
            | (at_builtin; refine wpList_append_at rfl (.tmp 57) (.tmp 59) 30 rfl w.heap.size 22 i0 (.slice none 0 0) 1 24 Tryz.underlying30 hi hz0 hz1 hz2 rfl (by decide) _ k xs rfl (ownsRow_below OW2.out (Below.alloc (Below.refl w2.heap.size w2) (Nat.le_refl _) _) (Nat.le_refl _)) ⟨w2.heap.size, 0, none⟩ 1 1 [(Value.slice a1 lz d1)] rfl rfl (World.news_of_block (cs := #[(Value.slice a1 lz d1)]) (t := 22) (fr := (0, 0)) (row_new _ rfl)) (by intro u hu; rw [List.mem_singleton.1 hu]; rfl) (by unfold maxLen; omega) (by omega) (by simp; omega) ?_)
            | fail)
          intro v6 w3 ow3 hg3 hf3
          have bq := Below.alloc (Below.refl w2.heap.size w2) (Nat.le_refl _) (.cells #[(Value.slice a1 lz d1)] 22 (0, 0))
          have b2a : Below w.heap.size w (w2.alloc (.cells #[(Value.slice a1 lz d1)] 22 (0, 0))) := Below.alloc B2.out sz2 _
          have b3 : Below w.heap.size w w3 := Below.grown b2a hg3 b2a.size (fun j e => (OW2.out.lt j e).1)
          have o3 := (O2.out.below bq (Nat.le_refl _)).kept hg3 NE2.out
          have hne3 : (Value.slice A5' m2 c5').ownBlock = none ∨ (Value.slice A5' m2 c5').ownBlock ≠ v6.ownBlock := by
            rcases hf3 with e | e
            · rw [e]; exact NE2.out
            · cases hv : (Value.slice A5' m2 c5').ownBlock with
              | none => exact .inl rfl
              | some j => exact .inr (fun e' => by have := (O2.out.lt j hv).2; rw [e] at e'; injection e' with e'; omega)
          have r3 : RowsA w (xs ++ [.slice a1 lz d1]) (txsH (prsH (chF t) L (k + 1))) := by
            rw [HTK.out, txsH_snoc]
            have := HR.out.snoc HZ.out
            rw [← HLZ.out] at this
            exact this
          have B3 := Lib.hid b3
          have O3 := Lib.hid o3
          have OW3 := Lib.hid ow3
          have NE3 := Lib.hid hne3
          have R3 := Lib.hid r3
          clear b3 b2a o3 ow3 hne3 r3 bq hg3 hf3 O2 OW2 B2 NE2
          go_wp2_with fail
          go_roundw
          case rel => exact ⟨k + 1, A5', c5', _, by go_num, by omega, by omega, by rw [← HM2.out], O3.out, OW3.out, R3.out, NE3.out, B3.out⟩
          case measure => simp [intOf]; omega
      · have hlt' : ¬ (k : Int) < (n : Int) := by omega
        have hkn : k = n := by omega
        have HF : Hid (GathH w (prsH (chF t) L (min n 11)) (.slice A5 (askAll (prsH (chF t) L k)).length c5) u8 wr) := Lib.hid (by
          rw [show min n 11 = k by omega]
          exact ⟨xs, ho, by rw [prsH_len]; exact hown, hrows, hne, hB⟩)
        generalize (askAll (prsH (chF t) L k)).length = m at *
        clear ho hown hrows hne hB hkn
        go_wp2_with fail
        go_meet
        exact HF.out
  case rest =>
    obtain ⟨xs, ho, hown, hrows, hne, hB⟩ := hcut
    have hPl : (prsH (chF t) L (min n 11)).length ≤ 11 := by rw [prsH_len]; omega
    have hPy := prsH_le (chF t) L (min n 11)
    generalize prsH (chF t) L (min n 11) = P at *
    have hWe := askAll_len P hPy
    have HLS0 := Left.start P hPy
    obtain ⟨W, hW⟩ : ∃ W, W = txsH P := ⟨_, rfl⟩
    have hPW : P.length = W.length := by rw [hW]; simp [txsH]
    rw [← hW] at hrows HLS0
    rw [hPW] at hown hPl hWe
    obtain ⟨A5, c5, rfl, s5⟩ := ho.bysN
    obtain ⟨-, A6, c6, rfl, by6, -⟩ := RowsA.byss hown hrows hB
    have hA5 : Hid (∀ a, A5 = some a → a.block < wc.heap.size) := Lib.hid (fun a ha => by subst ha; exact (ho.lt a.block rfl).2)
    have szc := hB.size
    have BC := Lib.hid hB
    have S5 := Lib.hid s5
    have B6 := Lib.hid by6
    have HWL := Lib.hid hPl
    have HLS := Lib.hid HLS0
    have HCC := Lib.hid (HC.out.on hB)
    obtain ⟨x0, hx0⟩ : ∃ x, x = askAll P := ⟨_, rfl⟩
    rw [← hx0] at S5 HLS hWe ⊢
    obtain ⟨me, hme⟩ : ∃ m, m = x0.length := ⟨_, rfl⟩
    obtain ⟨mw, hmw⟩ : ∃ m, m = W.length := ⟨_, rfl⟩
    rw [← hme]
    rw [← hmw]
    have HME := Lib.hid hme
    have HMW := Lib.hid hmw
    have hme2 : me ≤ 35200 := by omega
    have HCM := Lib.hid hcm
    clear ho hown hrows hne hB hPy s5 by6 hmw hWe HL HN hm HLS0 hPl hW hPW hx0 HT HI HTT hcm hme
    go_wp2_with fail
    refine (newH_any _).mono ?_
    rintro e wn ⟨g, F0, rfl, kn, hg, st0, hF0⟩
    have KN := Lib.hid kn
    have HG := Lib.hid hg
    have ST0 := Lib.hid st0
    have HF0 := Lib.hid hF0
    have CI := Lib.hid (CloneI_any Ac cuts cc wn (HCC.out.on kn) (by rw [← HNC.out]; have := HCM.out; omega))
    rw [← HNC.out] at CI
    clear kn hg st0 hF0
    go_wp2_with fail
    refine CI.out.mono ?_
    rintro e w1 ⟨v1, rfl, own1, k1⟩
    have OW1 := Lib.hid own1
    have K1 := Lib.hid k1
    have hzn := k1.size
    clear own1 k1 CI
    obtain ⟨i9, hi9, hy0, hy1, hy2⟩ := info_parts info_int9
    go_wp2_with (first
      | (at_builtin; refine wpList_append_at rfl (.tmp 64) (.tmp 65) 32 rfl wn.heap.size 3 i9 (.int .i64 0) 1 8 Tryz.underlying32 hi9 hy0 hy1 hy2 rfl (by decide) _ cuts.length (cuts.map (Value.int .i64)) rfl (ownsRow_below OW1.out (Below.alloc (Below.refl w1.heap.size w1) (Nat.le_refl _) _) (Nat.le_refl _)) ⟨w1.heap.size, 0, none⟩ 1 1 [.int .i64 1073741824] rfl rfl (World.news_of_block (cs := #[.int .i64 1073741824]) (t := 3) (fr := (0, 0)) (row_new _ rfl)) (by intro u hu; rw [List.mem_singleton.1 hu]; rfl) (by have := HCM.out; have := HNC.out; unfold maxLen; omega) (by have := HCM.out; have := HNC.out; omega) (by simp; omega) ?_)
      | fail)
    intro v2 w2 ow2 hg2 hf2
    have OW2 : Hid (OwnN w2 wn.heap.size v2 (cuts ++ [1073741824])) := Lib.hid (by unfold OwnN; simpa using ow2)
    obtain ⟨A9, c9, rfl, nt9, q9, q10⟩ := OW2.out.nts
    have hA9 : Hid (∀ a, A9 = some a → wn.heap.size ≤ a.block) := Lib.hid (fun a ha => by subst ha; exact (OW2.out.lt a.block rfl).1)
    have bq := Below.alloc (Below.refl w1.heap.size w1) (Nat.le_refl _) (.cells #[.int .i64 1073741824] 3 (0, 0))
    have k12 : Below wn.heap.size wn w2 := Below.grown (Below.trans K1.out (bq.mono hzn)) hg2 (by simp; omega) (fun j e => (OW1.out.lt j e).1)
    have hgn : g < wn.heap.size := ST0.out.lt g ((HF0.out g).2 rfl)
    have ST2 := Lib.hid (ST0.out.on k12)
    have KC2 := Lib.hid (Below.trans KN.out (k12.mono KN.out.size))
    have HNZ : Hid (0 < (cuts ++ [(1073741824 : Int)]).length) := Lib.hid (by simp)
    have LC := Lib.hid (fun k => last_cut (cuts := cuts) (z := 1073741824) (n := cuts.length + 1) rfl k)
    have hcl : (cuts ++ [(1073741824 : Int)]).length = cuts.length + 1 := by simp
    obtain ⟨cs, hcs⟩ : ∃ l, l = cuts ++ [(1073741824 : Int)] := ⟨_, rfl⟩
    rw [← hcs] at nt9 q9 hcl LC HNZ ⊢
    rw [← hcl] at LC
    obtain ⟨n9, hn9⟩ : ∃ n, n = cs.length := ⟨_, rfl⟩
    rw [← hn9] at LC q9 HNZ ⊢
    have HN9 := Lib.hid hn9
    have NT9 := Lib.hid nt9
    have KN2 := Lib.hid k12
    have HGN := Lib.hid hgn
    have HG0 := Lib.hid HG.out
    clear ow2 hg2 hf2 OW2 nt9 bq k12 hgn hcs hn9 hcl OW1 K1 ST0 hzn HCC HCM i9 hi9 hy0 hy1 hy2
    go_wp2_with fail
    go_loopw [7, 14, 68] (fun v7 v14 v68 wr => ∃ (k : Nat) (A : Option Addr) (c : Nat) (x : Bs) (s : Hs) (F : Nat → Prop) (G : List Bs), v68 = .int .i64 k ∧ k ≤ n9 ∧ v7 = .slice A x.length c ∧ Hid (Sl wc A c x) ∧ Hid (∀ a, A = some a → a.block < wc.heap.size) ∧ Hid (LHs wr F g s) ∧ Hid (HsOk s) ∧ Hid (∀ i, F i → i = g ∨ w2.heap.size ≤ i) ∧ Hid (TxS wr (fun i => F i ∨ i < w2.heap.size) v14 G) ∧ Hid (Mod (fun i => i = g) w2 wr) ∧ Hid (Left s x G W) ∧ Hid (k = n9 → x = []) ∧ x.length ≤ me) (fun _ _ v68 _ => n9 - (intOf v68).toNat)
    case atStart => exact ⟨0, A5, c5, x0, .hd [], F0, [], rfl, by omega, by rw [← HME.out], S5, hA5, ST2, Lib.hid HsOk.start, Lib.hid (fun i hi => .inl ((HF0.out i).1 hi)), Lib.hid (TxS.nil _ _), Lib.hid (Mod.refl _ _), HLS, Lib.hid (fun h => by have := LC.out; have := HN9.out; exact absurd h (by have := HNZ.out; omega)), by rw [← HME.out]; omega⟩
    case round =>
      obtain ⟨k, A, c, x, s, F, G, rfl, hk, rfl, HX, HXA, HL, HOK, HF, HG, HMD, HT, HK0, hxl⟩ := hrel
      rename World => wr
      clear S5 hA5 ST2 HF0 HLS
      have KCR := Lib.hid (Mod.out KC2.out HMD.out KC2.out.size (fun i hi => by rw [hi]; exact HG0.out))
      have BWR := Lib.hid (Below.trans BC.out (KCR.out.mono szc))
      obtain ⟨m, hm⟩ : ∃ m, m = x.length := ⟨_, rfl⟩
      rw [← hm] at hxl ⊢
      have HM := Lib.hid hm
      by_cases hlt : k < n9
      · have hlt' : (k : Int) < (n9 : Int) := by omega
        have kL : k < cs.length := by have := HN9.out; omega
        obtain ⟨gc, oc, hA9e, hcc⟩ := NT9.out (by omega)
        have hgc : gc ≠ g := by have h1 := hA9.out _ hA9e; have h2 := HGN.out; simp at h1; omega
        have C1 := HMD.out.cell (hcc k kL) hgc
        subst hA9e
        have HLST : Hid (k + 1 = n9 → cs[k] = 1073741824) := Lib.hid (fun h => by have := LC.out k h; rw [List.getElem?_eq_getElem kL] at this; exact Option.some.inj this)
        obtain ⟨z, hz0⟩ : ∃ z, z = cs[k] := ⟨_, rfl⟩
        rw [← hz0] at C1 HLST
        obtain ⟨q, r1, r2, -, r4, -⟩ := rem_u64 z 90 (by omega) (by omega)
        replace r1 : Int.tmod (IntKind.u64.wrap z) 90 = (q : Int) := r1
        have hmin : min (q : Int) (m : Int) = ((min q m : Nat) : Int) := by omega
        obtain ⟨N0, hN0⟩ : ∃ N, N = min q m := ⟨_, rfl⟩
        rw [← hN0] at hmin
        obtain ⟨N, hN⟩ : ∃ N, N = if z = 1073741824 then m else N0 := ⟨_, rfl⟩
        have hNm : N ≤ x.length := by rw [hN]; split <;> omega
        have hx := HX.out
        have sp := slice_pre A x c N N hNm hx.le rfl
        obtain ⟨A2, lo, s2, pl2⟩ := hx.rest N N hNm rfl
        have s1 : Sl wc A c (x.take N) := ⟨hx.bys.pre N, by rw [List.length_take]; have := hx.le; omega, hx.max, hx.nil⟩
        have lx : (x.take N).length = N := by rw [List.length_take]; omega
        rw [lx] at sp
        obtain ⟨l1, l2, l3⟩ := HT.out.step N
        have hcnt := l3.count
        have hR11 : (goH s (x.take N)).2.1.length ≤ 11 := by
          have := HWL.out
          rw [List.length_append, List.length_map] at hcnt
          omega
        have hFw : ∀ i, F i → w.heap.size ≤ i := fun i hi => by
          have h1 := BC.out.size
          have h2 := KC2.out.size
          have h3 := HG0.out
          rcases HF.out i hi with h | h <;> omega
        have FD := Lib.hid (feed_any g F s A (x.take N) c wr HL.out HOK.out (s1.on KCR.out) (fun _ p hp hf => by
          have h1 := HXA.out p hp
          have h2 := KC2.out.size
          have h3 := HG0.out
          rcases HF.out _ hf with h | h <;> omega) (HM9.out.on BWR.out) (fun hf => by have h1 := hFw _ hf; have h2 := HM9.out.lt; omega) (by omega))
        rw [lx] at FD
        obtain ⟨y, hy⟩ : ∃ y, y = x.drop N := ⟨_, rfl⟩
        have hyl : y.length = m - N := by rw [hy, List.length_drop]; omega
        rw [← hy] at lo s2 l3
        have HA2 : Hid (∀ a, A2 = some a → a.block < wc.heap.size) := Lib.hid (fun a ha => by
          obtain ⟨a', ha', hb'⟩ := pl2 a ha
          rw [hb']
          exact HXA.out a' ha')
        have HK1 : Hid (k + 1 = n9 → y = []) := Lib.hid (fun h => by
          have h1 := HLST.out h
          rw [if_pos h1] at hN
          rw [hy, hN, HM.out, List.drop_length])
        obtain ⟨R1, hR1⟩ : ∃ z, z = (goH s (x.take N)).2.1 := ⟨_, rfl⟩
        obtain ⟨t2, ht2⟩ : ∃ z, z = (goH s (x.take N)).1 := ⟨_, rfl⟩
        rw [← hR1] at hR11 l2 l3
        rw [← ht2] at l3
        have FO : Hid (∀ e w', FeedHP wr F g s (x.take N) e w' → ∃ v F', e = .returned (.tuple #[v, .int .i64 0]) ∧ LHs w' F' g t2 ∧ HsOk t2 ∧ Mod F wr w' ∧ (∀ j, F' j → F j ∨ wr.heap.size ≤ j) ∧ RqS w' (fun k => F' k ∨ (k < wr.heap.size ∧ ¬ F k)) v R1) := Lib.hid (fun e w' h => by
          obtain ⟨v, F', h1, h2⟩ := h
          rw [l1] at h1
          rw [hR1, ht2]
          exact ⟨v, F', h1, h2⟩)
        obtain ⟨my, hmy⟩ : ∃ n, n = y.length := ⟨_, rfl⟩
        rw [← hm] at sp lo
        rw [← hmy] at lo
        have HMY := Lib.hid hmy
        have HS2 := Lib.hid s2
        have HLO := Lib.hid lo
        have HL3 := Lib.hid l3
        have HL2 := Lib.hid l2
        have HR11 := Lib.hid hR11
        have HYL : Hid (y.length ≤ me) := Lib.hid (by omega)
        have HGC : Hid (G.length ≤ 11) := Lib.hid (by
          have h1 := l3.count
          have h2 := HWL.out
          rw [List.length_append, List.length_map] at h1
          omega)
        have HZ := Lib.hid hN
        clear hx s1 s2 lx pl2 hy hyl ht2 hR1 hmy lo hcc kL hz0 HT l1 l2 l3 hcnt hN hNm hFw hR11 hN0 r2 hm
        by_cases hz : z = 1073741824
        · have hzb : (z == 1073741824) = true := by simp [hz]
          have hNe : N = m := by rw [HZ.out, if_pos hz]
          subst hNe
          clear hz HZ
          go_wp2_with fail
          with_reducible refine FD.out.mono ?_
          intro e w4 hfd
          obtain ⟨v4, F1, rfl, st4, ok4, m4, hF1, rq4⟩ := FO.out e w4 hfd
          obtain ⟨A4, c4, rfl⟩ := rq4.sl
          have hF1' : ∀ i, F1 i → i = g ∨ w2.heap.size ≤ i := fun i hi => by
            have := HMD.out.size
            rcases hF1 i hi with h | h
            · exact HF.out i h
            · exact .inr (by omega)
          have hg4 : F1 g := st4.row.1
          have hG4 : TxS w4 (fun i => F1 i ∨ i < w2.heap.size) u14 G := ((HG.out.wide (S' := fun i => (F i ∨ i < w2.heap.size) ∨ wr.heap.size ≤ i) (fun i hi => hi)).mod m4 (fun i hi => .inl (.inl hi))).wide (fun i hi => .inl (by
            rcases hi with hi | hi
            · rcases hF1 i hi with h | h
              · exact .inl (.inl h)
              · exact .inr h
            · exact .inl (.inr hi)))
          have ho14 : ∀ i, u14.ownBlock = some i → i < wr.heap.size ∧ ¬ F i ∧ w2.heap.size ≤ i := fun i hi => by
            obtain ⟨ys, o1, off, -⟩ := HG.out
            have := off i hi
            exact ⟨(o1.lt i hi).2, fun e => this (.inl e), Nat.le_of_not_lt (fun e => this (.inr e))⟩
          have szr := HMD.out.size
          have sz4 := m4.size
          have rqw : RqS w4 (fun i => F1 i ∨ (i < wr.heap.size ∧ ¬ F i) ∨ w4.heap.size ≤ i) (.slice A4 R1.length c4) R1 := rq4.wide (fun i hi => by
            rcases hi with h | h | h
            · exact .inl (.inl h)
            · exact .inl (.inr h)
            · exact .inr h)
          obtain ⟨mr, hmr⟩ : ∃ n, n = R1.length := ⟨_, rfl⟩
          rw [← hmr] at rqw ⊢
          have HMR := Lib.hid hmr
          have hmr11 : mr ≤ 11 := by have := HR11.out; omega
          have RQ4 := Lib.hid rqw
          have ST4 := Lib.hid st4
          have OK4 := Lib.hid ok4
          have M4 := Lib.hid m4
          have HF1 := Lib.hid hF1
          have HF1' := Lib.hid hF1'
          have HG4 := Lib.hid hG4
          have HO14 : Hid (∀ i, u14.ownBlock = some i → (i < wr.heap.size ∧ ¬ F i ∧ w2.heap.size ≤ i) ∨ w4.heap.size ≤ i) := Lib.hid (fun i hi => .inl (ho14 i hi))
          have HGG := Lib.hid hg4
          have lo' := HLO.out
          clear FD FO hfd rq4 st4 ok4 m4 hF1 hF1' hg4 hG4 ho14 rqw hmr HLO sp szr sz4
          go_wp2_with fail
          go_loopw [14, 95] (fun v14 v95 wq => ∃ j : Nat, v95 = .int .i64 j ∧ j ≤ mr ∧ Hid (RqS wq (fun i => F1 i ∨ (i < wr.heap.size ∧ ¬ F i) ∨ w4.heap.size ≤ i) (.slice A4 mr c4) R1) ∧ Hid (TxS wq (fun i => F1 i ∨ i < w2.heap.size) v14 (G ++ (R1.take j).map (·.1))) ∧ Hid (∀ i, v14.ownBlock = some i → (i < wr.heap.size ∧ ¬ F i ∧ w2.heap.size ≤ i) ∨ w4.heap.size ≤ i) ∧ Hid (Mod (fun i => i < wr.heap.size ∧ ¬ F i ∧ w2.heap.size ≤ i) w4 wq)) (fun _ v95 _ => mr - (intOf v95).toNat)
          case atStart => exact ⟨0, rfl, by omega, RQ4, Lib.hid (by simpa using HG4.out), HO14, Lib.hid (Mod.refl _ _)⟩
          case round =>
            obtain ⟨j, rfl, hj, HRQ, HTX, HOW, HMQ⟩ := hrel
            rename World => wq
            clear RQ4 HG4 HO14
            by_cases hlj : j < mr
            · have hlj' : (j : Int) < (mr : Int) := by omega
              have jL : j < R1.length := by have := HMR.out; omega
              have hkeep := HL2.out R1[j] (List.getElem_mem jL)
              obtain ⟨gr, cr, e4, -, hat⟩ := (show RqS wq _ (.slice A4 R1.length c4) R1 by rw [← HMR.out]; exact HRQ.out).at2 (by omega)
              injection e4 with e4 e5 e6
              clear e5 e6
              obtain ⟨Ab, db, rg, slb, ofb⟩ := hat j jL
              have htk : (R1.take (j + 1)).map (·.1) = (R1.take j).map (·.1) ++ [R1[j].1] := by rw [List.take_succ_eq_append_getElem jL, List.map_append]; rfl
              obtain ⟨y1, hy1⟩ : ∃ y, y = R1[j].1 := ⟨_, rfl⟩
              rw [← hy1] at rg slb ofb htk
              rw [hkeep] at rg
              obtain ⟨ml, hml⟩ : ∃ n, n = y1.length := ⟨_, rfl⟩
              rw [← hml] at rg
              have iR : Hid ((Tryz.prog.info? 40).map (·.size) = some ([.string (bs reqL), .slice Ab ml db, .bool true] : List Value).length) := Lib.hid info_rq
              have iC : Hid ((Tryz.prog.info? 40).map (·.size) = some (#[.string (bs reqL), .slice Ab ml db, .bool true] : Array Value).size) := Lib.hid info_rq
              have oC : Hid ((#[.string (bs reqL), .slice Ab ml db, .bool true] : Array Value).all (·.oneCell') = true) := Lib.hid (by simp [Value.oneCell'])
              have zC : Hid ((#[.string ⟨#[]⟩, .slice none 0 0, .bool false] : Array Value).size = (#[.string (bs reqL), .slice Ab ml db, .bool true] : Array Value).size) := Lib.hid rfl
              have rZ := row_new (w := wq) (k := wq.heap.size) (.cells #[.string ⟨#[]⟩, .slice none 0 0, .bool false] 40 (0, 0)) rfl
              have r5 := setRow_heap _ _ _ #[.string (bs reqL), .slice Ab ml db, .bool true] _ _ rZ
              have q1 : Below wq.heap.size wq ((wq.alloc (.cells #[.string ⟨#[]⟩, .slice none 0 0, .bool false] 40 (0, 0))).setRow wq.heap.size #[.string (bs reqL), .slice Ab ml db, .bool true]) := Below.setRow (Below.alloc (Below.refl _ _) (Nat.le_refl _) _) (Nat.le_refl _) _
              obtain ⟨W5, hW5⟩ : ∃ W5, W5 = (wq.alloc (.cells #[.string ⟨#[]⟩, .slice none 0 0, .bool false] 40 (0, 0))).setRow wq.heap.size #[.string (bs reqL), .slice Ab ml db, .bool true] := ⟨_, rfl⟩
              rw [← hW5] at r5 q1
              have c0 : W5.cell? ⟨wq.heap.size, 0, none⟩ = some (.string (bs reqL)) := (cell_of_row _ _ 0 _ _ _ r5).trans rfl
              have c1 : W5.cell? ⟨wq.heap.size, 1, none⟩ = some (.slice Ab ml db) := (cell_of_row _ _ 1 _ _ _ r5).trans rfl
              have hS2 : ∀ i, (F1 i ∨ (i < wr.heap.size ∧ ¬ F i) ∨ (w4.heap.size ≤ i ∧ i < wq.heap.size)) → i < W5.heap.size := fun i hi => by
                have h1 := ST4.out.lt
                have h2 := HMQ.out.size
                have h3 := M4.out.size
                have h4 := q1.size
                rcases hi with h | h | h
                · have := h1 i h; omega
                · omega
                · omega
              have T1 := Lib.hid (TxS.lone (S := fun i => F1 i ∨ (i < wr.heap.size ∧ ¬ F i) ∨ (w4.heap.size ≤ i ∧ i < wq.heap.size)) (slb.mod (S := fun _ => False) (Mod.below q1) (fun _ _ h => h)) (fun i hi e => ofb i hi (by
                rcases e with h | h | h
                · exact .inl h
                · exact .inr (.inl h)
                · exact .inr (.inr h.1))) hS2)
              rw [← hml] at T1
              have q2 : Below wq.heap.size wq (W5.alloc (.cells #[.slice Ab ml db] 22 (0, 0))) := Below.alloc q1 q1.size _
              have TG := Lib.hid (HTX.out.on q2)
              have RQ5 := Lib.hid (HRQ.out.on q2)
              have MQ5 := Lib.hid (HMQ.out.then q2)
              have r6 := (Below.alloc (Below.refl W5.heap.size W5) (Nat.le_refl _) (.cells #[.slice Ab ml db] 22 (0, 0))).block _ (Array.getElem?_eq_some_iff.1 r5).1
              have R6 := Lib.hid (r6.trans r5)
              have HOW2 : Hid (∀ i, u14.ownBlock = some i → i < wq.heap.size) := Lib.hid (by
                obtain ⟨ys, o1, -⟩ := HTX.out
                exact fun i hi => (o1.lt i hi).2)
              have HW5 := Lib.hid hW5
              have HTK := Lib.hid htk
              have QS := Lib.hid q2.size
              have hSS : Hid (∀ i, (F1 i ∨ i < w2.heap.size) → (F1 i ∨ (i < wr.heap.size ∧ ¬ F i) ∨ (w4.heap.size ≤ i ∧ i < wq.heap.size))) := Lib.hid (fun i hi => by
                have h1 := HMD.out.size
                rcases hi with h | h
                · exact .inl h
                · by_cases hf : F i
                  · rcases HF.out i hf with e | e
                    · subst e; exact .inl HGG.out
                    · omega
                  · exact .inr (.inl ⟨by omega, hf⟩))
              have hS3 : Hid (∀ i, (F1 i ∨ i < w2.heap.size) → i < (W5.alloc (.cells #[.slice Ab ml db] 22 (0, 0))).heap.size) := Lib.hid (fun i hi => by
                have := hS2 i (hSS.out i hi)
                simp
                omega)
              have hV2 : Hid (∀ i, u14.ownBlock = some i → (F1 i ∨ (i < wr.heap.size ∧ ¬ F i) ∨ (w4.heap.size ≤ i ∧ i < wq.heap.size))) := Lib.hid (fun i hi => by
                rcases HOW.out i hi with h | h
                · exact .inr (.inl ⟨h.1, h.2.1⟩)
                · exact .inr (.inr ⟨h, HOW2.out i hi⟩))
              have hGl : Hid ((G ++ (R1.take j).map (·.1)).length ≤ 22) := Lib.hid (by
                rw [List.length_append, List.length_map, List.length_take]
                have := HGC.out
                have := HR11.out
                omega)
              have hline : (reqL == [80, 79, 83, 84, 32, 47, 100, 110, 115, 45, 113, 117, 101, 114, 121, 32, 72, 84, 84, 80, 47, 49, 46, 49]) = true := by decide +kernel
              have hline2 : (bs reqL != ⟨#[80, 79, 83, 84, 32, 47, 100, 110, 115, 45, 113, 117, 101, 114, 121, 32, 72, 84, 84, 80, 47, 49, 46, 49]⟩) = false := by decide +kernel
              subst e4
              clear r5 r6 q1 q2 hW5 htk hy1 hml slb ofb hat jL hkeep HRQ HTX hS2
              obtain ⟨rl, hrl⟩ : ∃ l, l = reqL := ⟨_, rfl⟩
              rw [← hrl] at rg iR iC oC zC HW5 c0 R6 hline hline2
              have HRL := Lib.hid hrl
              clear hrl
              go_wp2_with (first
                | (refine wpList_load_mid rfl 40 (.tmp 97) rfl gr (j * 3) rfl _ _ rg Tryz.underlying40 rfl iR.out ?_)
                | (refine wpList_store_row rfl 40 (.tmp 21) (.tmp 98) rfl wq.heap.size #[.string (bs rl), .slice Ab ml db, .bool true] rfl rfl 40 _ rZ iC.out (by first | exact zC.out | exact zC.out.symm) oC.out ?_; rw [← HW5.out])
                | (at_builtin; refine wpList_app_txs rfl (.tmp 99) (.tmp 102) rfl (S := fun i => F1 i ∨ i < w2.heap.size) (S2 := fun i => F1 i ∨ (i < wr.heap.size ∧ ¬ F i) ∨ (w4.heap.size ≤ i ∧ i < wq.heap.size)) (L2 := [y1]) rfl rfl TG.out T1.out hSS.out hS3.out hV2.out (by have := hGl.out; simp only [List.length_cons, List.length_nil]; omega) ?_)
                | fail)
              intro v9 w9 t9 g9 hv9
              have HLJ : Hid (j + 1 ≤ mr) := Lib.hid hlj
              have hsz := HMQ.out.size
              have r9 := (g9.block _ (Array.getElem?_eq_some_iff.1 R6.out).1 (fun e => by have := HOW2.out _ e.symm; omega)).trans R6.out
              have d0 : w9.cell? ⟨wq.heap.size, 0, none⟩ = some (.string (bs rl)) := (cell_of_row _ _ 0 _ _ _ r9).trans rfl
              have d2 : w9.cell? ⟨wq.heap.size, 2, none⟩ = some (.bool true) := (cell_of_row _ _ 2 _ _ _ r9).trans rfl
              have RQ9 := Lib.hid (RQ5.out.mod (S' := fun i => u14.ownBlock = some i) (Mod.grown g9 (fun i hi => hi)) (fun i hi => by
                rcases HOW.out i hi with h | h
                · exact .inr (.inl ⟨h.1, h.2.1⟩)
                · exact .inr (.inr h)))
              have HO9 : Hid (∀ i, v9.ownBlock = some i → (i < wr.heap.size ∧ ¬ F i ∧ w2.heap.size ≤ i) ∨ w4.heap.size ≤ i) := Lib.hid (fun i hi => by
                rcases hv9 i hi with h | h
                · exact HOW.out i h
                · have h1 := HMQ.out.size; have h2 := QS.out; simp at h2; exact .inr (by omega))
              have M9 := Lib.hid (MQ5.out.trans (S' := fun i => u14.ownBlock = some i) (Mod.grown g9 (fun i hi => hi)) HOW.out)
              have T9 : Hid (TxS w9 (fun i => F1 i ∨ i < w2.heap.size) v9 (G ++ (R1.take (j + 1)).map (·.1))) := Lib.hid (by
                rw [HTK.out, List.map_take]
                exact t9)
              clear t9 g9 hv9 r9 hsz TG T1 RQ5 MQ5 R6 HOW2 HW5 QS hSS hS3 hV2 hGl HTK HOW HMQ c0 c1
              go_wp2_with fail
              go_roundw
              case rel => exact ⟨j + 1, by go_num, HLJ.out, RQ9, T9, HO9, M9⟩
              case measure => have := HLJ.out; simp [intOf]; omega
            · have hlj' : ¬ (j : Int) < (mr : Int) := by omega
              obtain rfl : j = mr := by omega
              have e1 : R1.take j = R1 := by rw [HMR.out, List.take_length]
              have TX := HTX.out
              rw [e1] at TX
              have HTX2 := Lib.hid TX
              have S4 := Lib.hid (ST4.out.mod HMQ.out (fun i hi hs => by
                rcases HF1.out i hi with h | h
                · exact hs.2.1 h
                · have := hs.1; omega))
              have MD4 := Lib.hid ((HMD.out.trans M4.out (fun i hi => HF.out i hi)).trans HMQ.out (fun i hi => .inr hi.2.2))
              clear e1 TX HRQ HTX HOW HMQ
              go_wp2_with fail
              go_roundw
              case rel => exact ⟨k + 1, A2, c - N, y, t2, F1, G ++ R1.map (·.1), by go_num, by omega, by rw [← HMY.out], HS2, HA2, S4, OK4, HF1', HTX2, MD4, HL3, HK1, HYL.out⟩
              case measure => simp [intOf]; omega
        · have hzb : (z == 1073741824) = false := by simp [hz]
          have hNe : N = N0 := by rw [HZ.out, if_neg hz]
          subst hNe
          clear hz HZ
          go_wp2_with fail
          with_reducible refine FD.out.mono ?_
          intro e w4 hfd
          obtain ⟨v4, F1, rfl, st4, ok4, m4, hF1, rq4⟩ := FO.out e w4 hfd
          obtain ⟨A4, c4, rfl⟩ := rq4.sl
          have hF1' : ∀ i, F1 i → i = g ∨ w2.heap.size ≤ i := fun i hi => by
            have := HMD.out.size
            rcases hF1 i hi with h | h
            · exact HF.out i h
            · exact .inr (by omega)
          have hg4 : F1 g := st4.row.1
          have hG4 : TxS w4 (fun i => F1 i ∨ i < w2.heap.size) u14 G := ((HG.out.wide (S' := fun i => (F i ∨ i < w2.heap.size) ∨ wr.heap.size ≤ i) (fun i hi => hi)).mod m4 (fun i hi => .inl (.inl hi))).wide (fun i hi => .inl (by
            rcases hi with hi | hi
            · rcases hF1 i hi with h | h
              · exact .inl (.inl h)
              · exact .inr h
            · exact .inl (.inr hi)))
          have ho14 : ∀ i, u14.ownBlock = some i → i < wr.heap.size ∧ ¬ F i ∧ w2.heap.size ≤ i := fun i hi => by
            obtain ⟨ys, o1, off, -⟩ := HG.out
            have := off i hi
            exact ⟨(o1.lt i hi).2, fun e => this (.inl e), Nat.le_of_not_lt (fun e => this (.inr e))⟩
          have szr := HMD.out.size
          have sz4 := m4.size
          have rqw : RqS w4 (fun i => F1 i ∨ (i < wr.heap.size ∧ ¬ F i) ∨ w4.heap.size ≤ i) (.slice A4 R1.length c4) R1 := rq4.wide (fun i hi => by
            rcases hi with h | h | h
            · exact .inl (.inl h)
            · exact .inl (.inr h)
            · exact .inr h)
          obtain ⟨mr, hmr⟩ : ∃ n, n = R1.length := ⟨_, rfl⟩
          rw [← hmr] at rqw ⊢
          have HMR := Lib.hid hmr
          have hmr11 : mr ≤ 11 := by have := HR11.out; omega
          have RQ4 := Lib.hid rqw
          have ST4 := Lib.hid st4
          have OK4 := Lib.hid ok4
          have M4 := Lib.hid m4
          have HF1 := Lib.hid hF1
          have HF1' := Lib.hid hF1'
          have HG4 := Lib.hid hG4
          have HO14 : Hid (∀ i, u14.ownBlock = some i → (i < wr.heap.size ∧ ¬ F i ∧ w2.heap.size ≤ i) ∨ w4.heap.size ≤ i) := Lib.hid (fun i hi => .inl (ho14 i hi))
          have HGG := Lib.hid hg4
          have lo' := HLO.out
          clear FD FO hfd rq4 st4 ok4 m4 hF1 hF1' hg4 hG4 ho14 rqw hmr HLO sp szr sz4
          go_wp2_with fail
          go_loopw [14, 95] (fun v14 v95 wq => ∃ j : Nat, v95 = .int .i64 j ∧ j ≤ mr ∧ Hid (RqS wq (fun i => F1 i ∨ (i < wr.heap.size ∧ ¬ F i) ∨ w4.heap.size ≤ i) (.slice A4 mr c4) R1) ∧ Hid (TxS wq (fun i => F1 i ∨ i < w2.heap.size) v14 (G ++ (R1.take j).map (·.1))) ∧ Hid (∀ i, v14.ownBlock = some i → (i < wr.heap.size ∧ ¬ F i ∧ w2.heap.size ≤ i) ∨ w4.heap.size ≤ i) ∧ Hid (Mod (fun i => i < wr.heap.size ∧ ¬ F i ∧ w2.heap.size ≤ i) w4 wq)) (fun _ v95 _ => mr - (intOf v95).toNat)
          case atStart => exact ⟨0, rfl, by omega, RQ4, Lib.hid (by simpa using HG4.out), HO14, Lib.hid (Mod.refl _ _)⟩
          case round =>
            obtain ⟨j, rfl, hj, HRQ, HTX, HOW, HMQ⟩ := hrel
            rename World => wq
            clear RQ4 HG4 HO14
            by_cases hlj : j < mr
            · have hlj' : (j : Int) < (mr : Int) := by omega
              have jL : j < R1.length := by have := HMR.out; omega
              have hkeep := HL2.out R1[j] (List.getElem_mem jL)
              obtain ⟨gr, cr, e4, -, hat⟩ := (show RqS wq _ (.slice A4 R1.length c4) R1 by rw [← HMR.out]; exact HRQ.out).at2 (by omega)
              injection e4 with e4 e5 e6
              clear e5 e6
              obtain ⟨Ab, db, rg, slb, ofb⟩ := hat j jL
              have htk : (R1.take (j + 1)).map (·.1) = (R1.take j).map (·.1) ++ [R1[j].1] := by rw [List.take_succ_eq_append_getElem jL, List.map_append]; rfl
              obtain ⟨y1, hy1⟩ : ∃ y, y = R1[j].1 := ⟨_, rfl⟩
              rw [← hy1] at rg slb ofb htk
              rw [hkeep] at rg
              obtain ⟨ml, hml⟩ : ∃ n, n = y1.length := ⟨_, rfl⟩
              rw [← hml] at rg
              have iR : Hid ((Tryz.prog.info? 40).map (·.size) = some ([.string (bs reqL), .slice Ab ml db, .bool true] : List Value).length) := Lib.hid info_rq
              have iC : Hid ((Tryz.prog.info? 40).map (·.size) = some (#[.string (bs reqL), .slice Ab ml db, .bool true] : Array Value).size) := Lib.hid info_rq
              have oC : Hid ((#[.string (bs reqL), .slice Ab ml db, .bool true] : Array Value).all (·.oneCell') = true) := Lib.hid (by simp [Value.oneCell'])
              have zC : Hid ((#[.string ⟨#[]⟩, .slice none 0 0, .bool false] : Array Value).size = (#[.string (bs reqL), .slice Ab ml db, .bool true] : Array Value).size) := Lib.hid rfl
              have rZ := row_new (w := wq) (k := wq.heap.size) (.cells #[.string ⟨#[]⟩, .slice none 0 0, .bool false] 40 (0, 0)) rfl
              have r5 := setRow_heap _ _ _ #[.string (bs reqL), .slice Ab ml db, .bool true] _ _ rZ
              have q1 : Below wq.heap.size wq ((wq.alloc (.cells #[.string ⟨#[]⟩, .slice none 0 0, .bool false] 40 (0, 0))).setRow wq.heap.size #[.string (bs reqL), .slice Ab ml db, .bool true]) := Below.setRow (Below.alloc (Below.refl _ _) (Nat.le_refl _) _) (Nat.le_refl _) _
              obtain ⟨W5, hW5⟩ : ∃ W5, W5 = (wq.alloc (.cells #[.string ⟨#[]⟩, .slice none 0 0, .bool false] 40 (0, 0))).setRow wq.heap.size #[.string (bs reqL), .slice Ab ml db, .bool true] := ⟨_, rfl⟩
              rw [← hW5] at r5 q1
              have c0 : W5.cell? ⟨wq.heap.size, 0, none⟩ = some (.string (bs reqL)) := (cell_of_row _ _ 0 _ _ _ r5).trans rfl
              have c1 : W5.cell? ⟨wq.heap.size, 1, none⟩ = some (.slice Ab ml db) := (cell_of_row _ _ 1 _ _ _ r5).trans rfl
              have hS2 : ∀ i, (F1 i ∨ (i < wr.heap.size ∧ ¬ F i) ∨ (w4.heap.size ≤ i ∧ i < wq.heap.size)) → i < W5.heap.size := fun i hi => by
                have h1 := ST4.out.lt
                have h2 := HMQ.out.size
                have h3 := M4.out.size
                have h4 := q1.size
                rcases hi with h | h | h
                · have := h1 i h; omega
                · omega
                · omega
              have T1 := Lib.hid (TxS.lone (S := fun i => F1 i ∨ (i < wr.heap.size ∧ ¬ F i) ∨ (w4.heap.size ≤ i ∧ i < wq.heap.size)) (slb.mod (S := fun _ => False) (Mod.below q1) (fun _ _ h => h)) (fun i hi e => ofb i hi (by
                rcases e with h | h | h
                · exact .inl h
                · exact .inr (.inl h)
                · exact .inr (.inr h.1))) hS2)
              rw [← hml] at T1
              have q2 : Below wq.heap.size wq (W5.alloc (.cells #[.slice Ab ml db] 22 (0, 0))) := Below.alloc q1 q1.size _
              have TG := Lib.hid (HTX.out.on q2)
              have RQ5 := Lib.hid (HRQ.out.on q2)
              have MQ5 := Lib.hid (HMQ.out.then q2)
              have r6 := (Below.alloc (Below.refl W5.heap.size W5) (Nat.le_refl _) (.cells #[.slice Ab ml db] 22 (0, 0))).block _ (Array.getElem?_eq_some_iff.1 r5).1
              have R6 := Lib.hid (r6.trans r5)
              have HOW2 : Hid (∀ i, u14.ownBlock = some i → i < wq.heap.size) := Lib.hid (by
                obtain ⟨ys, o1, -⟩ := HTX.out
                exact fun i hi => (o1.lt i hi).2)
              have HW5 := Lib.hid hW5
              have HTK := Lib.hid htk
              have QS := Lib.hid q2.size
              have hSS : Hid (∀ i, (F1 i ∨ i < w2.heap.size) → (F1 i ∨ (i < wr.heap.size ∧ ¬ F i) ∨ (w4.heap.size ≤ i ∧ i < wq.heap.size))) := Lib.hid (fun i hi => by
                have h1 := HMD.out.size
                rcases hi with h | h
                · exact .inl h
                · by_cases hf : F i
                  · rcases HF.out i hf with e | e
                    · subst e; exact .inl HGG.out
                    · omega
                  · exact .inr (.inl ⟨by omega, hf⟩))
              have hS3 : Hid (∀ i, (F1 i ∨ i < w2.heap.size) → i < (W5.alloc (.cells #[.slice Ab ml db] 22 (0, 0))).heap.size) := Lib.hid (fun i hi => by
                have := hS2 i (hSS.out i hi)
                simp
                omega)
              have hV2 : Hid (∀ i, u14.ownBlock = some i → (F1 i ∨ (i < wr.heap.size ∧ ¬ F i) ∨ (w4.heap.size ≤ i ∧ i < wq.heap.size))) := Lib.hid (fun i hi => by
                rcases HOW.out i hi with h | h
                · exact .inr (.inl ⟨h.1, h.2.1⟩)
                · exact .inr (.inr ⟨h, HOW2.out i hi⟩))
              have hGl : Hid ((G ++ (R1.take j).map (·.1)).length ≤ 22) := Lib.hid (by
                rw [List.length_append, List.length_map, List.length_take]
                have := HGC.out
                have := HR11.out
                omega)
              have hline : (reqL == [80, 79, 83, 84, 32, 47, 100, 110, 115, 45, 113, 117, 101, 114, 121, 32, 72, 84, 84, 80, 47, 49, 46, 49]) = true := by decide +kernel
              have hline2 : (bs reqL != ⟨#[80, 79, 83, 84, 32, 47, 100, 110, 115, 45, 113, 117, 101, 114, 121, 32, 72, 84, 84, 80, 47, 49, 46, 49]⟩) = false := by decide +kernel
              subst e4
              clear r5 r6 q1 q2 hW5 htk hy1 hml slb ofb hat jL hkeep HRQ HTX hS2
              obtain ⟨rl, hrl⟩ : ∃ l, l = reqL := ⟨_, rfl⟩
              rw [← hrl] at rg iR iC oC zC HW5 c0 R6 hline hline2
              have HRL := Lib.hid hrl
              clear hrl
              go_wp2_with (first
                | (refine wpList_load_mid rfl 40 (.tmp 97) rfl gr (j * 3) rfl _ _ rg Tryz.underlying40 rfl iR.out ?_)
                | (refine wpList_store_row rfl 40 (.tmp 21) (.tmp 98) rfl wq.heap.size #[.string (bs rl), .slice Ab ml db, .bool true] rfl rfl 40 _ rZ iC.out (by first | exact zC.out | exact zC.out.symm) oC.out ?_; rw [← HW5.out])
                | (at_builtin; refine wpList_app_txs rfl (.tmp 99) (.tmp 102) rfl (S := fun i => F1 i ∨ i < w2.heap.size) (S2 := fun i => F1 i ∨ (i < wr.heap.size ∧ ¬ F i) ∨ (w4.heap.size ≤ i ∧ i < wq.heap.size)) (L2 := [y1]) rfl rfl TG.out T1.out hSS.out hS3.out hV2.out (by have := hGl.out; simp only [List.length_cons, List.length_nil]; omega) ?_)
                | fail)
              intro v9 w9 t9 g9 hv9
              have HLJ : Hid (j + 1 ≤ mr) := Lib.hid hlj
              have hsz := HMQ.out.size
              have r9 := (g9.block _ (Array.getElem?_eq_some_iff.1 R6.out).1 (fun e => by have := HOW2.out _ e.symm; omega)).trans R6.out
              have d0 : w9.cell? ⟨wq.heap.size, 0, none⟩ = some (.string (bs rl)) := (cell_of_row _ _ 0 _ _ _ r9).trans rfl
              have d2 : w9.cell? ⟨wq.heap.size, 2, none⟩ = some (.bool true) := (cell_of_row _ _ 2 _ _ _ r9).trans rfl
              have RQ9 := Lib.hid (RQ5.out.mod (S' := fun i => u14.ownBlock = some i) (Mod.grown g9 (fun i hi => hi)) (fun i hi => by
                rcases HOW.out i hi with h | h
                · exact .inr (.inl ⟨h.1, h.2.1⟩)
                · exact .inr (.inr h)))
              have HO9 : Hid (∀ i, v9.ownBlock = some i → (i < wr.heap.size ∧ ¬ F i ∧ w2.heap.size ≤ i) ∨ w4.heap.size ≤ i) := Lib.hid (fun i hi => by
                rcases hv9 i hi with h | h
                · exact HOW.out i h
                · have h1 := HMQ.out.size; have h2 := QS.out; simp at h2; exact .inr (by omega))
              have M9 := Lib.hid (MQ5.out.trans (S' := fun i => u14.ownBlock = some i) (Mod.grown g9 (fun i hi => hi)) HOW.out)
              have T9 : Hid (TxS w9 (fun i => F1 i ∨ i < w2.heap.size) v9 (G ++ (R1.take (j + 1)).map (·.1))) := Lib.hid (by
                rw [HTK.out, List.map_take]
                exact t9)
              clear t9 g9 hv9 r9 hsz TG T1 RQ5 MQ5 R6 HOW2 HW5 QS hSS hS3 hV2 hGl HTK HOW HMQ c0 c1
              go_wp2_with fail
              go_roundw
              case rel => exact ⟨j + 1, by go_num, HLJ.out, RQ9, T9, HO9, M9⟩
              case measure => have := HLJ.out; simp [intOf]; omega
            · have hlj' : ¬ (j : Int) < (mr : Int) := by omega
              obtain rfl : j = mr := by omega
              have e1 : R1.take j = R1 := by rw [HMR.out, List.take_length]
              have TX := HTX.out
              rw [e1] at TX
              have HTX2 := Lib.hid TX
              have S4 := Lib.hid (ST4.out.mod HMQ.out (fun i hi hs => by
                rcases HF1.out i hi with h | h
                · exact hs.2.1 h
                · have := hs.1; omega))
              have MD4 := Lib.hid ((HMD.out.trans M4.out (fun i hi => HF.out i hi)).trans HMQ.out (fun i hi => .inr hi.2.2))
              clear e1 TX HRQ HTX HOW HMQ
              go_wp2_with fail
              go_roundw
              case rel => exact ⟨k + 1, A2, c - N, y, t2, F1, G ++ R1.map (·.1), by go_num, by omega, by rw [← HMY.out], HS2, HA2, S4, OK4, HF1', HTX2, MD4, HL3, HK1, HYL.out⟩
              case measure => simp [intOf]; omega
      · have hlt' : ¬ (k : Int) < (n9 : Int) := by omega
        have hx0 : x = [] := HK0.out (by omega)
        subst hx0
        obtain ⟨rfl, rfl⟩ := HT.out.done
        obtain ⟨Ag, cg, rfl, byg, -⟩ := HG.out.byss
        obtain ⟨-, hv, bv, kb, rr⟩ := HL.out.row
        have EQ := Lib.hid (EqualFB_any Ag A6 G G cg c6 wr byg (B6.out.on KCR.out) (by have := HWL.out; omega))
        rw [show (G == G) = true by simp, ← HMW.out] at EQ
        rw [← HMW.out]
        have RR := Lib.hid rr
        clear byg rr hm
        go_wp2_with fail
        refine EQ.out.mono ?_
        rintro e w5 ⟨rfl, k5⟩
        have ED := Lib.hid (endedH_any g false hv bv kb w5 (RR.out.on k5))
        have B5 := Lib.hid (Below.trans BWR.out (k5.mono BWR.out.size))
        clear k5 EQ
        go_wp2_with fail
        refine ED.out.mono ?_
        rintro e w6 ⟨rfl, rfl⟩
        go_wp2_with fail
        go_ret
        exact ⟨rfl, B5.out⟩
end Go.Proofs.YtgkfolgebkjjmaaGreatDoor
namespace Go.Proofs.YtgkfolgebkjjmaaGreatDoor
open Go.ChangeShapes Go.WideShapes Go.ChangeAt Go.RowKit Go.Deep Go.Shelf
set_option linter.unusedVariables false
set_option maxRecDepth 100000

/-- Itoa's contract, where its table lies. -/
theorem IT_of (n : Nat) (w : World) (hn : n ≤ 9223372036854775807) (hT : Lib.TabIs Tryz.prog w "internal/strconv.uint64pow10" .u64 Lib.pow10Tab) : IT n w := by
  unfold IT decD
  refine (Any.strconv_Itoa Tryz.laysM171 (n : Int) (by omega) (by omega) w hT).mono ?_
  rintro e w' ⟨rfl, k, os, rfl⟩
  refine ⟨?_, ?_⟩
  · unfold Lib.itoa
    rw [if_neg (by omega), Int.toNat_natCast]
  · exact Lib.below_grow w.heap.size w (Nat.le_refl _) k os
theorem pow_name : Tryz.prog.globalNamed "internal/strconv.uint64pow10" = some 0 := by kernel_rfl
theorem pow_type : (Tryz.prog.globals[0]?).map (·.type) = some 92 := by kernel_rfl
theorem pow_data : (Rows.laid_internal_strconv_uint64pow10 : DataW Unit) = Lib.tabData .u64 Lib.pow10Tab := by kernel_rfl
theorem tabP_of {W : World} (h : laidMetH Tryz.prog Rows.httpAskedRow.laid W) : Lib.TabIs Tryz.prog W "internal/strconv.uint64pow10" .u64 Lib.pow10Tab := by
  have h' : laidMet Tryz.prog [("math/bits.deBruijn32tab", Rows.laid_math_bits_deBruijn32tab), ("math/bits.deBruijn64tab", Rows.laid_math_bits_deBruijn64tab), ("internal/strconv.uint64pow10", Rows.laid_internal_strconv_uint64pow10), ("unicode/utf8.acceptRanges", Rows.laid_unicode_utf8_acceptRanges), ("unicode.CaseRanges", Rows.laid_unicode_CaseRanges), ("unicode/utf8.first", Rows.laid_unicode_utf8_first)] W := h
  have h2 := (laidMet.tail (laidMet.tail h'))
  rw [pow_data] at h2
  exact Lib.tabIs_of_head pow_name pow_type Tryz.underlying92 Tryz.underlying75 (by kernel_rfl) (by kernel_rfl) h2
theorem tabP_on {W W1 : World} (h : Lib.TabIs Tryz.prog W "internal/strconv.uint64pow10" .u64 Lib.pow10Tab) (k : Below W.heap.size W W1) : Lib.TabIs Tryz.prog W1 "internal/strconv.uint64pow10" .u64 Lib.pow10Tab := by
  have hc := Lib.TabIs.cell h pow_name 0 (by rw [Lib.pow10Tab_length]; omega)
  have := World.block_lt_of_cell? W _ hc
  unfold Lib.TabIs at h ⊢
  exact var?_below k pow_name this h
theorem brn_name : Tryz.prog.globalNamed "math/bits.deBruijn64tab" = some 2 := by kernel_rfl
theorem brn_type : (Tryz.prog.globals[2]?).map (·.type) = some 126 := by kernel_rfl
theorem brn_data : (Rows.laid_math_bits_deBruijn64tab : DataW Unit) = Lib.tabData .u8 [0, 1, 56, 2, 57, 49, 28, 3, 61, 58, 42, 50, 38, 29, 17, 4, 62, 47, 59, 36, 45, 43, 51, 22, 53, 39, 33, 30, 24, 18, 12, 5, 63, 55, 48, 27, 60, 41, 37, 16, 46, 35, 44, 21, 52, 32, 23, 11, 54, 26, 40, 15, 34, 20, 31, 10, 25, 14, 19, 9, 13, 8, 7, 6] := by kernel_rfl
theorem tabC_of {W : World} (h : laidMetH Tryz.prog Rows.httpAskedRow.laid W) : TabC W := by
  have h' : laidMet Tryz.prog [("math/bits.deBruijn32tab", Rows.laid_math_bits_deBruijn32tab), ("math/bits.deBruijn64tab", Rows.laid_math_bits_deBruijn64tab), ("internal/strconv.uint64pow10", Rows.laid_internal_strconv_uint64pow10), ("unicode/utf8.acceptRanges", Rows.laid_unicode_utf8_acceptRanges), ("unicode.CaseRanges", Rows.laid_unicode_CaseRanges), ("unicode/utf8.first", Rows.laid_unicode_utf8_first)] W := h
  have h2 := (laidMet.tail h')
  rw [brn_data] at h2
  have hT := Lib.tabIs_of_head brn_name brn_type Tryz.underlying126 Tryz.underlying5 (by kernel_rfl) (by kernel_rfl) h2
  exact hT.cell brn_name 15 (by decide)
end Go.Proofs.YtgkfolgebkjjmaaGreatDoor
