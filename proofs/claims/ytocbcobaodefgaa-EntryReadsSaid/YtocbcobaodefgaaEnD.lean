/-
  The landed entry's numbers and parts: appended to a slice that the call made.
-/
import Derived.Test.YtocbcobaodefgaaEnC
import Derived.WalkArith
namespace Go.Proofs.Ytocbcobaodefgaa
open Go.RowKit
set_option linter.unusedVariables false
set_option maxRecDepth 100000

/-- A number in so many bytes, the highest first. -/
def big : Nat → Nat → Bs
  | 0, _ => []
  | k + 1, n => UInt8.ofNat (n / 256 ^ k) :: big k n
def bigs (wd : Nat) (L : List Nat) : Bs := L.flatMap (big wd)
theorem big_len : ∀ (k n : Nat), (big k n).length = k
  | 0, _ => rfl
  | k + 1, n => by simp [big, big_len k n]
theorem big_drop : ∀ (wd k n : Nat), k ≤ wd → (big wd n).drop (wd - k) = big k n
  | 0, k, n, h => by
    obtain rfl : k = 0 := by omega
    rfl
  | wd + 1, k, n, h => by
    by_cases hk : k = wd + 1
    · subst hk; simp
    · rw [show wd + 1 - k = (wd - k) + 1 by omega, big, List.drop_succ_cons]
      exact big_drop wd k n (by omega)
theorem big_take (wd k n : Nat) (h : k + 1 ≤ wd) : (big wd n).take (wd - k) = (big wd n).take (wd - (k + 1)) ++ [UInt8.ofNat (n / 256 ^ k)] := by
  have hl := big_len wd n
  have hd := big_drop wd (k + 1) n h
  have hlt : wd - (k + 1) < (big wd n).length := by omega
  rw [show wd - k = (wd - (k + 1)) + 1 by omega, List.take_succ_eq_append_getElem hlt]
  congr 2
  rw [List.drop_eq_getElem_cons hlt, big] at hd
  exact (List.cons.inj hd).1
theorem bigs_len (wd : Nat) : ∀ L : List Nat, (bigs wd L).length = wd * L.length
  | [] => rfl
  | n :: L => by
    have ih := bigs_len wd L
    unfold bigs at *
    rw [List.flatMap_cons, List.length_append, big_len, ih, List.length_cons, Nat.mul_add]; omega
theorem bigs_next (wd : Nat) {L : List Nat} {k : Nat} (h : k < L.length) : bigs wd (L.take (k + 1)) = bigs wd (L.take k) ++ big wd L[k] := by
  unfold bigs
  rw [List.take_succ_eq_append_getElem h, List.flatMap_append]
  simp

/-- A slice of bytes that the call made, grown since the world W, where it was v0. -/
structure App (W : World) (base : Nat) (v0 : Value) (w : World) (v : Value) (l : Bs) : Prop where
  own : OwnB w base v l
  gr : W.grownBy w v0.ownBlock
  ap : ∀ g, v.ownBlock = some g → v0.ownBlock = some g ∨ W.heap.size ≤ g
theorem App.start {W : World} {base : Nat} {v : Value} {l : Bs} (h : OwnB W base v l) : App W base v W v l := ⟨h, grown_refl _ _, fun g h => .inl h⟩
theorem App.step {W w w' : World} {base : Nat} {v0 v v' : Value} {l l' : Bs} (h : App W base v0 w v l) (ho : OwnB w' base v' l') (hg : w.grownBy w' v.ownBlock) (hf : ∀ k, v'.ownBlock = some k → v.ownBlock = some k ∨ w.heap.size ≤ k) : App W base v0 w' v' l' :=
  ⟨ho, grown_trans h.gr hg h.ap, fun g hg' => by
    rcases hf g hg' with h1 | h1
    · exact h.ap g h1
    · exact .inr (Nat.le_trans h.gr.size h1)⟩
theorem App.call {W w w' : World} {base : Nat} {v0 v v' : Value} {l l' : Bs} (h : App W base v0 w v l) (hc : App w base v w' v' l') : App W base v0 w' v' l' := h.step hc.own hc.gr hc.ap
theorem App.alloc {W w : World} {base : Nat} {v0 v : Value} {l : Bs} (h : App W base v0 w v l) (o : Obj) : App W base v0 (w.alloc o) v l := h.step (h.own.alloc o) (grown_alloc w o _) (fun k hk => .inl hk)
theorem App.on {W w w' : World} {base : Nat} {v0 v : Value} {l : Bs} (h : App W base v0 w v l) (hB : Below w.heap.size w w') : App W base v0 w' v l := h.step (h.own.below hB (Nat.le_refl _)) (grown_of_below hB _) (fun k hk => .inl hk)
theorem App.below {W w : World} {base : Nat} {v0 v : Value} {l l0 : Bs} (h : App W base v0 w v l) (h0 : OwnB W base v0 l0) (hb : base ≤ W.heap.size) : Below base W w :=
  ⟨h.gr.os, h.gr.tape, h.gr.output, h.gr.size, fun k hk => h.gr.block k (by omega) (fun e => by have := (h0.lt k e.symm).1; omega)⟩
theorem App.block {W w : World} {base : Nat} {v0 v : Value} {l : Bs} (h : App W base v0 w v l) {g : Nat} (hl : g < W.heap.size) (hg : v0.ownBlock ≠ some g) : w.heap[g]? = W.heap[g]? := h.gr.block g hl (fun e => hg e.symm)
def AppPost (W : World) (base : Nat) (v0 : Value) (l : Bs) (e : Ending) (w' : World) : Prop := ∃ v', e = .returned v' ∧ App W base v0 w' v' l

set_option maxHeartbeats 2000000 in
set_option maxRecDepth 100000 in
theorem numbers_any (base : Nat) (v0 : Value) (b : Bs) (wd : Nat) (h1 : 1 ≤ wd) (h8 : wd ≤ 8) (L : List Nat) (n c : Nat) (hn : n = L.length) (g : Nat) (W : World) (hO : OwnB W base v0 b) (hb : base ≤ W.heap.size)
    (hc : ∀ j (h : j < L.length), W.cell? ⟨g, j, none⟩ = some (.int .i64 L[j])) (hg : v0.ownBlock ≠ some g) (hlen : b.length + wd * L.length ≤ 140737488355328) (hi : (L.length : Int) ≤ 1000000) :
    Calls Try.prog 71 #[v0, .int .i64 wd, .slice (some ⟨g, 0, none⟩) n c] W (AppPost W base v0 (b ++ bigs wd L)) := by
  have HN := Lib.hid hn
  have HL := Lib.hid hlen
  have HO := Lib.hid (App.start hO)
  have HC := Lib.hid hc
  have HI : (n : Int) ≤ 1000000 := by rw [hn]; exact hi
  have HE : Hid (b = b ++ bigs wd (L.take 0)) := Lib.hid (by simp [bigs])
  clear hn hlen hO hc hi
  go_enter Try.func71, Try.ntmps71
  go_wp2_with fail
  go_loopw [0, 12] (fun v i wr => ∃ k : Nat, i = .int .i64 k ∧ k ≤ n ∧ App W base v0 wr v (b ++ bigs wd (L.take k))) (fun _ i _ => n - (intOf i).toNat)
  case atStart => exact ⟨0, rfl, by omega, by rw [← HE.out]; exact HO.out⟩
  case round =>
    obtain ⟨k, rfl, hk, happ⟩ := hrel
    clear HE HO
    by_cases hlt : k < n
    · have hlt' : (k : Int) < (n : Int) := by omega
      have kL : k < L.length := by have := HN.out; omega
      have cw := HC.out k kL
      have glt := World.block_lt_of_cell? W _ cw
      have y := (World.cell?_of_block (a := ⟨g, k, none⟩) (happ.block glt hg)).trans cw
      have hnx := bigs_next wd kL
      have hll : (b ++ bigs wd (L.take k)).length + wd ≤ 140737488355328 := by
        have := HL.out
        rw [List.length_append, bigs_len, List.length_take]
        have h2 := Nat.mul_le_mul_left wd (show min k L.length + 1 ≤ L.length by omega)
        rw [Nat.mul_add] at h2
        omega
      generalize L[k] = x at *
      obtain ⟨l, hl⟩ : ∃ l, l = b ++ bigs wd (L.take k) := ⟨_, rfl⟩
      rw [← hl] at happ hll
      have HX : Hid (b ++ bigs wd (L.take (k + 1)) = l ++ big wd x) := Lib.hid (by rw [hnx, hl, List.append_assoc])
      have HA := Lib.hid happ
      have HLL := Lib.hid hll
      have H0 : Hid (l = l ++ (big wd x).take (wd - wd)) := Lib.hid (by simp)
      clear cw glt hnx happ hl hll
      go_wp2_with fail
      go_loopw [0, 9] (fun v i wq => ∃ (j : Nat) (s : Int), i = .int .i64 s ∧ s = 8 * (j : Int) - 8 ∧ j ≤ wd ∧ App W base v0 wq v (l ++ (big wd x).take (wd - j))) (fun _ i _ => ((intOf i) + 8).toNat)
      case atStart => exact ⟨wd, _, rfl, by omega, by omega, by rw [← H0.out]; exact HA.out⟩
      case round =>
        obtain ⟨j, s, rfl, hs, hj, happ⟩ := hrel
        clear HA H0 y
        by_cases hj0 : 1 ≤ j
        · obtain ⟨i, rfl⟩ : ∃ i, j = i + 1 := ⟨j - 1, by omega⟩
          have hge : 0 ≤ s := by omega
          have hle : s ≤ 64 := by omega
          have htk := big_take wd i x hj
          have hcell : (Value.int .u8 ((x : Int) / 2 ^ s.toNat % 256)) = byteV (UInt8.ofNat (x / 256 ^ i)) := by
            have e1 : s.toNat = 8 * i := by omega
            have e2 : ((x / 256 ^ i : Nat) : Int) = (x : Int) / 2 ^ s.toNat := by
              have e3 : (2 : Int) ^ (8 * i) = ((256 ^ i : Nat) : Int) := by
                rw [show (256 : Nat) ^ i = 2 ^ (8 * i) by rw [Nat.pow_mul]]
                simp
              rw [e1, e3]
              exact Int.natCast_ediv _ _
            simp only [byteV]
            congr 1
            rw [← e2]
            simp
          have HS := Lib.hid hs
          have HCC := Lib.hid hcell
          have HTK := Lib.hid htk
          have hq : (l ++ (big wd x).take (wd - (i + 1))).length + [UInt8.ofNat (x / 256 ^ i)].length ≤ 140737488355328 := by
            have := HLL.out
            have := big_len wd x
            simp only [List.length_append, List.length_take, List.length_cons, List.length_nil]
            omega
          have HQ := Lib.hid hq
          have HAP := Lib.hid happ
          have hbw : base ≤ wr.heap.size := Nat.le_trans hb happ.gr.size
          clear hs hcell htk hq happ
          go_wp2_with (first
            | (at_builtin; refine wpList_append_ownC rfl _ _ rfl base _ _ rfl (HAP.out.own.alloc _) ⟨wr.heap.size, 0, none⟩ 1 1 [UInt8.ofNat (x / 256 ^ i)] rfl rfl [.int .u8 ((x : Int) / 2 ^ s.toNat % 256)] (by rw [HCC.out]; rfl) (World.news_of_block (cs := #[.int .u8 ((x : Int) / 2 ^ s.toNat % 256)]) (t := 5) (fr := (0, 0)) (row_new _ rfl)) HQ.out (by simp; omega) ?_)
            | fail)
          intro v' w4 ho4 hg4 hf4
          have hap4 := HAP.out.step ho4 (grown_trans (grown_alloc wr _ _) hg4 (fun k hk => .inl hk)) (fun k hk => (hf4 k hk).imp id (fun h => by omega))
          rw [← HTK.out] at hap4
          have H4 := Lib.hid hap4
          clear ho4 hg4 hf4 hap4
          go_wp2_with fail
          go_roundw
          case rel => exact ⟨i, _, rfl, by have := HS.out; omega, by omega, H4.out⟩
          case measure => simp [intOf]; omega
        · obtain rfl : j = 0 := by omega
          have hlt0 : ¬ 0 ≤ s := by omega
          have hfin : App W base v0 wr u0 (b ++ bigs wd (L.take (k + 1))) := by
            rw [HX.out]
            have := big_len wd x
            rwa [Nat.sub_zero, List.take_of_length_le (by omega)] at happ
          have HF := Lib.hid hfin
          clear hs happ hfin
          go_wp2_with fail
          go_roundw
          case rel => exact ⟨k + 1, by go_num, by omega, HF.out⟩
          case measure => simp [intOf]; omega
    · have hlt' : ¬ (k : Int) < (n : Int) := by omega
      obtain rfl : k = n := by omega
      have hfin : App W base v0 wr u0 (b ++ bigs wd L) := by
        rwa [HN.out, List.take_length] at happ
      have HF := Lib.hid hfin
      clear happ hfin
      go_wp2_with fail
      go_ret
      exact ⟨_, rfl, HF.out⟩
end Go.Proofs.Ytocbcobaodefgaa
