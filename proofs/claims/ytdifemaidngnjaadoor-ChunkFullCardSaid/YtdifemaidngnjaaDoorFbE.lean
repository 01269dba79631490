/-
  slices.Chunk of bytes: its closure hands the parts.
-/
import Derived.Test.YtdifemaidngnjaaDoorFbD
import Derived.Sort.QuietIn
namespace Go.Proofs.YtdifemaidngnjaaDoor
open Go.RowKit
set_option linter.unusedVariables false
set_option maxRecDepth 100000
attribute [local go_sem] Oper.semAt_some

/-- A part of bytes that lay there ahead. -/
abbrev Part (w : World) (sz : Nat) := { x : Option Addr × Nat × Bs // Sl w x.1 x.2.1 x.2.2 ∧ x.2.2.length ≤ sz ∧ (x.2.2 ≠ [] → ∀ p, x.1 = some p → p.block < w.heap.size) }
def encPart {w : World} {sz : Nat} (x : Part w sz) : Array Value := #[.slice x.1.1 x.1.2.2.length x.1.2.1]
def catP {w : World} {sz : Nat} (xs : List (Part w sz)) : Bs := (xs.map (fun x => chunkC x.1.2.2)).flatten
theorem catP_snoc {w : World} {sz : Nat} (xs : List (Part w sz)) (x : Part w sz) : catP (xs ++ [x]) = catP xs ++ chunkC x.1.2.2 := by simp [catP]
/-- What a round keeps: whatever lay below B, but one block. -/
def KpB (bb B : Nat) : World → World → Prop := fun W W' => ∀ k, k < B → k ≠ bb → W'.heap[k]? = W.heap[k]?
theorem KpB.t {bb B : Nat} {X Y Z : World} (h : KpB bb B X Y) (k : KpB bb B Y Z) : KpB bb B X Z := fun i hi hn => (k i hi hn).trans (h i hi hn)

theorem slice3 (A : Option Addr) (n c i q : Nat) (h : i + q ≤ n) (hc : n ≤ c) (hq : 0 < q) (W : World) : (Instr.slice 22 (.slice A n c) (some (.int .i64 i)) (some (.int .i64 ((i + q : Nat) : Int))) (some (.int .i64 ((i + q : Nat) : Int)))).run Tryd.prog W = .ok (.slice (A.map (·.add i)) q q) W := by
  rw [run_slice_lhm W 22 A n c (by rw [elem_bytes]; exact Tryd.underlying22) _ _ _ _ _ _ (by omega) (by omega) (by omega) (by omega), elem_bytes, size_u8]
  simp only [Result.andThen_ok, sliced, Int.toNat_natCast]
  rw [if_neg (by omega), show i + q - i = q by omega, Nat.mul_one]
set_option maxHeartbeats 4000000 in
theorem chunk_stops (w : World) (A : Option Addr) (b : Bs) (c sz : Nat) (hb : Sl w A c b) (hs : 0 < sz) (hs6 : sz < 16 ^ 6) (hA : b ≠ [] → ∀ p, A = some p → p.block < w.heap.size) (hbl : b.length ≤ 1099511627776) (bb B b1 b2 : Nat) (h1 : b1 ≠ bb ∧ b1 < B) (h2 : b2 ≠ bb ∧ b2 < B) (W0 : World)
    (c1 : W0.cell? ⟨b1, 0, none⟩ = some (.slice A b.length c)) (c2 : W0.cell? ⟨b2, 0, none⟩ = some (.int .i64 sz)) (hBW : B ≤ W0.heap.size) :
    SeqStopsK Fence.wide 2 Tryd.prog 20 #[.pointer (some ⟨b1, 0, none⟩), .pointer (some ⟨b2, 0, none⟩)] (encPart (w := w) (sz := sz)) (KpB bb B) (fun xs => catP xs ++ endC = encC sz b.length b) (fun _ => True) (b.length / sz + 1) W0 := by
  intro l J Jx W hW hJ hJx hY h0
  have d1 : W.cell? ⟨b1, 0, none⟩ = some (.slice A b.length c) := (World.cell?_of_block (hW.block b1 (by omega))).trans c1
  have d2 : W.cell? ⟨b2, 0, none⟩ = some (.int .i64 sz) := (World.cell?_of_block (hW.block b2 (by omega))).trans c2
  obtain ⟨n, hn⟩ : ∃ n, n = b.length := ⟨_, rfl⟩
  have HN := Lib.hid hn
  have HB := Lib.hid hb
  have HAA := Lib.hid hA
  have HY := Lib.hid hY
  have HJ0 := Lib.hid h0
  rw [← hn] at d1 hbl
  have HJ : Hid (∀ pre wr w1, J pre wr → Below wr.heap.size wr w1 → J pre w1) := Lib.hid (fun pre wr w1 h k => hJ pre wr w1 none h (grown_of_below k none) (fun r e => by cases e))
  have hcz : n ≤ c := by rw [hn]; exact hb.le
  clear c1 c2 hW hJ hJx hn hb hA hY h0 hBW
  refine callsIn_of_wp Tryd.func20 rfl trivial ?_
  simp only [Tryd.ntmps20, List.size_toArray, List.length_cons, List.length_nil, Nat.reduceAdd, Nat.reduceSub, Array.replicate_succ, Array.replicate_zero, List.push_toArray, List.append_toArray, List.nil_append, List.cons_append]
  gi_wp2
  gi_loopw [4] (fun iv wr => ∃ (i : Nat) (pre : List (Part w sz)) (f : Nat), iv = .int .i64 i ∧ Hid (i = pre.length * sz) ∧ J pre wr ∧ wr.cell? ⟨b1, 0, none⟩ = some (.slice A n c) ∧ wr.cell? ⟨b2, 0, none⟩ = some (.int .i64 sz) ∧ Hid (encC sz n b = catP pre ++ encC sz f (b.drop i)) ∧ n ≤ i + f ∧ i < n + sz) (fun iv _ => n - (intOf iv).toNat)
  case atStart => exact ⟨0, [], n, rfl, Lib.hid (by simp), HJ0.out, d1, d2, Lib.hid (by simp [catP]), by omega, by omega⟩
  case round =>
    clear d1 d2
    obtain ⟨i, pre, f, rfl, hi, hJp, d1, d2, hG, hf, hin⟩ := hrel
    have HJp := Lib.hid hJp
    clear hJp
    by_cases hlt : i < n
    · have hlt' : (i : Int) < (n : Int) := by omega
      obtain ⟨m, hm⟩ : ∃ m, m = n - i := ⟨_, rfl⟩
      obtain ⟨q, hq⟩ : ∃ q, q = min sz m := ⟨_, rfl⟩
      have hmin : min (sz : Int) (m : Int) = (q : Int) := by omega
      obtain ⟨A2, lo, -, -⟩ := HB.out.rest i i (by rw [← HN.out]; omega) rfl
      rw [List.length_drop, ← HN.out, ← hm] at lo
      have s3 := slice3 A n c i q (by omega) hcz (by omega)
      have wr1 : IntKind.i64.wrap ((i : Int) + (q : Int)) = ((i + q : Nat) : Int) := by rw [IntWalk.i64_in _ (by omega)]; omega
      have wr2 : IntKind.i64.wrap ((i : Int) + (sz : Int)) = ((i + sz : Nat) : Int) := by rw [IntWalk.i64_in _ (by omega)]; omega
      have hi0 : (i : Int) ≤ (n : Int) := by omega
      obtain ⟨d, hd⟩ : ∃ d, d = (b.drop i).take sz := ⟨_, rfl⟩
      have ld : d.length = q := by rw [hd, List.length_take, List.length_drop, ← HN.out, hq, hm]
      have bne : b ≠ [] := fun e => by have := HN.out; rw [e] at this; simp at this; omega
      have dne : b.drop i ≠ [] := fun e => by have := congrArg List.length e; rw [List.length_drop, ← HN.out] at this; simp at this; omega
      have sx : Sl w (A.map (·.add i)) q d := by
        refine ⟨?_, by omega, by omega, fun h => ?_⟩
        · have := (HB.out.bys.cut (k := i) HB.out.le).pre sz
          rw [if_neg (by omega), ← hd] at this
          exact this
        · cases A with
          | none => have := HB.out.nil rfl; omega
          | some a => cases h
      have px : ∀ p, A.map (·.add i) = some p → p.block < w.heap.size := fun p hp => by
        cases A with
        | none => cases hp
        | some a =>
          injection hp with hp
          rw [← hp]
          have := HAA.out bne a rfl
          have e : (a.add i).block = a.block := by unfold Addr.add; split <;> rfl
          rw [e]; exact this
      obtain ⟨f', rfl⟩ : ∃ f', f = f' + 1 := ⟨f - 1, by omega⟩
      have hx0 : Sl w (A.map (·.add i), q, d).1 (A.map (·.add i), q, d).2.1 (A.map (·.add i), q, d).2.2 ∧ (A.map (·.add i), q, d).2.2.length ≤ sz ∧ ((A.map (·.add i), q, d).2.2 ≠ [] → ∀ p, (A.map (·.add i), q, d).1 = some p → p.block < w.heap.size) := ⟨sx, by show d.length ≤ sz; omega, fun _ => px⟩
      obtain ⟨x, hx⟩ : ∃ x : Part w sz, x.1 = (A.map (·.add i), q, d) := ⟨⟨_, hx0⟩, rfl⟩
      have ex : encPart x = #[.slice (A.map (·.add i)) q q] := by simp only [encPart, hx, ld]
      have G2 : Hid (encC sz n b = catP (pre ++ [x]) ++ encC sz f' (b.drop (i + sz))) := Lib.hid (by
        rw [hG.out, enc_step dne, catP_snoc, hx, List.append_assoc, ← hd, List.drop_drop])
      have hN : pre.length < b.length / sz + 1 := by
        rw [← HN.out]
        have h1 : pre.length * sz ≤ n := by rw [← hi.out]; omega
        have := (Nat.le_div_iff_mul_le hs).2 h1
        omega
      have I2 : Hid (i + sz = (pre ++ [x]).length * sz) := Lib.hid (by rw [hi.out, List.length_append, Nat.add_mul]; simp)
      have YY := Lib.hid (fun W1 (h : J pre W1) => HY.out pre x W1 h hN)
      rw [ex] at YY
      have hcx : ∀ nq, (wr.drewN nq).cell? ⟨b1, 0, none⟩ = some (.slice A n c) := fun nq => d1
      have hcy : ∀ nq, (wr.drewN nq).cell? ⟨b2, 0, none⟩ = some (.int .i64 sz) := fun nq => d2
      have hmm : ((n : Int) - (i : Int)) = (m : Int) := by omega
      clear hm hq hd ld bne dne sx px hx ex hG hN hi
      gi_wp2
      gi_quiet (fail)
      obtain ⟨fn, tmps, assign, body, hy, hR⟩ := YY.out (wr.drewN nq) (HJ.out pre wr _ HJp.out (below_drewN (Below.refl _ _) nq))
      have e1 := hcx nq
      have e2 := hcy nq
      clear hcx hcy YY
      gi_wp2
      refine hR.mono ?_
      rintro e W3 (⟨rfl, hJ3, hk3⟩ | ⟨rfl, hJx3⟩)
      · have d1' : W3.cell? ⟨b1, 0, none⟩ = some (.slice A n c) := (World.cell?_of_block (hk3 b1 h1.2 h1.1)).trans e1
        have d2' : W3.cell? ⟨b2, 0, none⟩ = some (.int .i64 sz) := (World.cell?_of_block (hk3 b2 h2.2 h2.1)).trans e2
        have J3 := Lib.hid hJ3
        clear hJ3 hk3 e1 e2 hR
        gi_wp2
        go_roundw
        case rel => exact ⟨i + sz, pre ++ [x], f', rfl, I2, J3.out, d1', d2', G2, by omega, by omega⟩
        case measure => simp [intOf]; omega
      · have JX := Lib.hid hJx3
        clear hJx3 hR
        gi_wp2
        refine bodyPost_ret (results_none rfl _ _ _) rfl ?_
        exact ⟨⟨_, rfl⟩, .inr ⟨_, trivial, JX.out⟩⟩
    · have hlt' : ¬ (i : Int) < (n : Int) := by omega
      have FIN : Hid (catP pre ++ endC = encC sz b.length b) := Lib.hid (by
        rw [← HN.out, hG.out, List.drop_eq_nil_of_le (by rw [← HN.out]; omega), enc_nil])
      clear hG hi
      gi_wp2
      go_end0
      exact ⟨⟨_, rfl⟩, .inl ⟨_, FIN.out, HJp.out⟩⟩
end Go.Proofs.YtdifemaidngnjaaDoor
