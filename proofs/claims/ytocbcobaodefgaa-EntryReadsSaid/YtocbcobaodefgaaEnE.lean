/-
  The landed entry's parts: each with its length ahead, appended to a slice that the call made.
-/
import Derived.Test.YtocbcobaodefgaaEnD
namespace Go.Proofs.Ytocbcobaodefgaa
open Go.RowKit
set_option linter.unusedVariables false
set_option maxRecDepth 100000

def partB (wd : Nat) (x : Bs) : Bs := big wd x.length ++ x
def partsB (wd : Nat) (L : List Bs) : Bs := L.flatMap (partB wd)
theorem partsB_next (wd : Nat) {L : List Bs} {k : Nat} (h : k < L.length) : partsB wd (L.take (k + 1)) = partsB wd (L.take k) ++ big wd (L[k]).length ++ L[k] := by
  unfold partsB
  rw [List.take_succ_eq_append_getElem h, List.flatMap_append]
  simp [partB]
theorem partsB_le (wd : Nat) (L : List Bs) (k : Nat) : (partsB wd (L.take k)).length ≤ (partsB wd L).length := by
  unfold partsB
  conv => rhs; rw [← List.take_append_drop k L, List.flatMap_append, List.length_append]
  omega
theorem bigs_one (wd n : Nat) : bigs wd [n] = big wd n := by simp [bigs]

/-- Slices of bytes that stay as they are while the block r grows. -/
def ByssK (W : World) (r : Option Nat) (A : Option Addr) (L : List Bs) : Prop := 0 < L.length → ∃ g off, A = some ⟨g, off, none⟩ ∧ ∀ j (h : j < L.length), ∃ a c, (∀ w, W.grownBy w r → w.cell? ⟨g, off + j, none⟩ = some (.slice a (L[j]).length c) ∧ Bys w a L[j]) ∧ (L[j]).length ≤ c ∧ c ≤ 9223372036854775807 ∧ (a = none → c = 0)
theorem below_of_grown {B : Nat} {W0 W w : World} {r : Option Nat} (hB : Below B W0 W) (hg : W.grownBy w r) (hr : ∀ g, r = some g → B ≤ g) (hs : B ≤ W.heap.size) : Below B W0 w :=
  Below.grown hB hg hs hr
theorem ByssK.of {W0 W : World} {r : Option Nat} {A : Option Addr} {L : List Bs} (h : Byss W0 A L) (hB : Below W0.heap.size W0 W) (hr : ∀ g, r = some g → W0.heap.size ≤ g) : ByssK W r A L := fun hn => by
  obtain ⟨g, off, hA, hc⟩ := h hn
  refine ⟨g, off, hA, fun j hj => ?_⟩
  obtain ⟨a, c, h1, h2, h3⟩ := hc j hj
  exact ⟨a, c, fun w hw => by
    have hb := below_of_grown hB hw hr hB.size
    exact ⟨cell_on h1 hb, h2.on hb⟩, h3⟩
theorem ByssK.one {W : World} {r : Option Nat} {v : Value} {x : Bs} {base : Nat} (ho : OwnB W base v x) (ho1 : ∀ g, v.ownBlock = some g → r ≠ some g) (hr : ∀ g, r = some g → g < W.heap.size) :
    ByssK (W.alloc (.cells #[v] 22)) r (some ⟨W.heap.size, 0, none⟩) [x] := fun _ => by
  refine ⟨W.heap.size, 0, rfl, fun j hj => ?_⟩
  have : j = 0 := by simp at hj; omega
  subst this
  obtain ⟨A, d, hv2, h2, h3, h4⟩ := ho.bys
  refine ⟨A, d, fun w hw => ⟨?_, ?_⟩, h3, by unfold maxLen at h4; exact h4, fun hA => ?_⟩
  · have hb := hw.block W.heap.size (by simp) (fun e => by have := hr _ e.symm; omega)
    rw [World.cell?_of_block (a := ⟨W.heap.size, 0 + 0, none⟩) hb]
    exact (cell_of_row _ _ 0 _ _ _ (row_new _ rfl)).trans (by rw [hv2]; rfl)
  · have h5 := (ho.alloc (.cells #[v] 22)).kept hw (by
      cases hvo : v.ownBlock with
      | none => exact .inl rfl
      | some g => exact .inr (fun e => ho1 g hvo e.symm))
    obtain ⟨A', d', hv3, h6, _⟩ := h5.bys
    rw [hv2] at hv3
    injection hv3 with e1
    rw [e1]
    exact h6
  · rcases ho with ⟨h, h0⟩ | ⟨g, cap, h, _⟩
    · rw [h] at hv2
      injection hv2 with _ _ e3
      exact e3.symm
    · rw [h] at hv2
      injection hv2 with e1
      rw [hA] at e1
      cases e1

set_option maxHeartbeats 2000000 in
set_option maxRecDepth 100000 in
theorem parts_any (base : Nat) (v0 : Value) (b : Bs) (wd : Nat) (h1 : 1 ≤ wd) (h8 : wd ≤ 8) (L : List Bs) (A : Option Addr) (n c : Nat) (hn : n = L.length) (W : World) (hO : OwnB W base v0 b) (hb : base ≤ W.heap.size)
    (hK : ByssK W v0.ownBlock A L) (hlen : b.length + (partsB wd L).length ≤ 140737488355328) (hm : n ≤ 9223372036854775806) :
    Calls Try.prog 72 #[v0, .int .i64 wd, .slice A n c] W (AppPost W base v0 (b ++ partsB wd L)) := by
  have HN := Lib.hid hn
  have HL := Lib.hid hlen
  have HO := Lib.hid (App.start hO)
  have HK := Lib.hid hK
  have HE : Hid (b = b ++ partsB wd (L.take 0)) := Lib.hid (by simp [partsB])
  clear hn hlen hO hK
  go_enter Try.func72, Try.ntmps72
  go_wp2_with fail
  go_loopw [0, 11] (fun v i wr => ∃ k : Nat, i = .int .i64 k ∧ k ≤ n ∧ App W base v0 wr v (b ++ partsB wd (L.take k))) (fun _ i _ => n - (intOf i).toNat)
  case atStart => exact ⟨0, rfl, by omega, by rw [← HE.out]; exact HO.out⟩
  case round =>
    obtain ⟨k, rfl, hk, happ⟩ := hrel
    clear HE HO
    by_cases hlt : k < n
    · have hlt' : (k : Int) < (n : Int) := by omega
      have kL : k < L.length := by have := HN.out; omega
      obtain ⟨g1, o1, rfl, hc1⟩ := HK.out (by omega)
      obtain ⟨a1, d1, D1, hd1, hm1, hn1⟩ := hc1 k kL
      have hnx := partsB_next wd kL
      have hll : (b ++ partsB wd (L.take k)).length + wd + (L[k]).length ≤ 140737488355328 := by
        have h2 := partsB_le wd L (k + 1)
        have := HL.out
        rw [hnx, List.length_append, List.length_append, big_len] at h2
        rw [List.length_append]
        omega
      generalize L[k] = x at *
      obtain ⟨l, hl⟩ : ∃ l, l = b ++ partsB wd (L.take k) := ⟨_, rfl⟩
      rw [← hl] at happ hll
      have HX : Hid (b ++ partsB wd (L.take (k + 1)) = l ++ big wd x.length ++ x) := Lib.hid (by rw [hnx, hl]; simp)
      have hown := happ.own
      have hsz : base ≤ wr.heap.size := Nat.le_trans hb happ.gr.size
      have CN := Lib.hid (numbers_any base u0 l wd h1 h8 [x.length] 1 1 rfl wr.heap.size (wr.alloc (.cells #[.int .i64 x.length] 3)) (hown.alloc _) (by simp; omega) (fun j hj => by
        have : j = 0 := by simp at hj; omega
        subst this
        exact (cell_of_row _ _ 0 _ _ _ (row_new _ rfl)).trans rfl) (fun e => by have := (hown.lt _ e).2; omega) (by simp; omega) (by simp))
      have HLL := Lib.hid hll
      have HA := Lib.hid (happ.alloc (.cells #[.int .i64 x.length] 3))
      have C1 := (D1 wr happ.gr).1
      have HD := Lib.hid (fun w hw => (D1 w hw).2)
      have HN1 := Lib.hid hn1
      clear D1 hc1 hnx happ hl hll hown hn1 hd1 hm1 HK
      go_wp2_with fail
      refine CN.out.mono ?_
      rintro e w1 ⟨v1, rfl, ha1⟩
      have ha := HA.out.call ha1
      rw [bigs_one] at ha
      have HA1 := Lib.hid ha
      have hq : (l ++ big wd x.length).length + x.length ≤ 140737488355328 := by
        have := HLL.out
        rw [List.length_append, big_len]; exact this
      have HQ := Lib.hid hq
      have hbw : base ≤ w1.heap.size := Nat.le_trans hb ha.gr.size
      clear CN ha1 HA ha hq HLL
      go_wp2_with (first
        | (at_builtin; refine wpList_append_bys rfl _ _ rfl base _ _ rfl HA1.out.own a1 d1 x.length x rfl rfl (HD.out _ HA1.out.gr) HN1.out HQ.out hbw ?_)
        | fail)
      intro v' w4 ho4 hg4 hf4
      have hap4 : App W base v0 w4 v' (b ++ partsB wd (L.take (k + 1))) := by
        rw [HX.out, List.append_assoc]
        exact HA1.out.step ho4 hg4 hf4
      have H4 := Lib.hid hap4
      clear ho4 hg4 hf4 hap4 HA1 HQ HD
      go_wp2_with fail
      go_roundw
      case rel => exact ⟨k + 1, by go_num, by omega, H4.out⟩
      case measure => simp [intOf]; omega
    · have hlt' : ¬ (k : Int) < (n : Int) := by omega
      obtain rfl : k = n := by omega
      have hfin : App W base v0 wr u0 (b ++ partsB wd L) := by
        rwa [HN.out, List.take_length] at happ
      have HF := Lib.hid hfin
      clear happ hfin
      go_wp2_with fail
      go_ret
      exact ⟨_, rfl, HF.out⟩
end Go.Proofs.Ytocbcobaodefgaa
