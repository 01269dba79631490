/-
  A map from records' keys to places.
-/
import Derived.Test.YtbeggckkgaoacaaGrB
import Derived.Test.YtbeggckkgaoacaaRrB
import Derived.Maps.OwnSet
import Derived.DeepKeys4
import Derived.ChangeKeys
namespace Go.Proofs.Ytbeggckkgaoacaa
open Go.RowKit Go.Maps
set_option linter.unusedVariables false
set_option maxRecDepth 100000

theorem laidR : laidOutB Try.prog = true := by kernel_rfl
theorem keyedR : Keyed Try.prog 58 := Keyed.of_law (deep_law_laid laidR (m := 2) (by omega) (of_decide_eq_true (by kernel_rfl)) (by kernel_rfl) (by rw [Try.underlying58]))
def litsK (k : Bs × Int × Int) : List Lit := [.string k.1, .int .i64 k.2.1, .int .i64 k.2.2]
def litK (k : Bs × Int × Int) : Lit := .string (keyBytes (litsK k))
def keyV (k : Bs × Int × Int) : Array Value := #[.string (bs k.1), .int .i64 k.2.1, .int .i64 k.2.2]
structure KeyOk (k : Bs × Int × Int) : Prop where
  len : k.1.length ≤ 255
  t : 0 ≤ k.2.1 ∧ k.2.1 ≤ 65535
  c : 0 ≤ k.2.2 ∧ k.2.2 ≤ 65535
theorem wf64 {n : Int} (h : 0 ≤ n ∧ n ≤ 65535) : (Lit.int .i64 n).wf = true := by
  simp [Lit.wf, IntKind.min, IntKind.max, IntKind.signed, IntKind.bits]
  omega
theorem keyOf_rr {k : Bs × Int × Int} (h : KeyOk k) : keyOf Try.prog 58 (.agg (keyV k)) = some (litK k) := by
  have hkt : Try.prog.keyType 58 = true := by kernel_rfl
  have hc : Try.prog.cellsOf 58 = 3 := by kernel_rfl
  have c1 : Try.prog.cellsOf 9 = 1 := by kernel_rfl
  have c2 : Try.prog.cellsOf 3 = 1 := by kernel_rfl
  have hu := Try.underlying58
  have u1 := Try.underlying9
  have u2 := Try.underlying3
  obtain ⟨m, hm⟩ : ∃ m, Try.prog.types.size = m + 1 := ⟨Try.prog.types.size - 1, by kernel_rfl⟩
  have w1 := wf64 h.t
  have w2 := wf64 h.c
  have hl := h.len
  have hs : (bs k.1).size ≤ maxLen := by rw [bs_size]; unfold maxLen; omega
  have hb := bs_toList k.1
  obtain ⟨n, t, c⟩ := k
  unfold keyOf
  simp only [hu]
  rw [if_pos (by simp [hkt, Value.formed, hu, hc, keyV]), hm]
  unfold Program.keyLits
  simp only [hu, Value.cells, keyV]
  rw [if_pos (by rw [hc]; exact ⟨rfl, by simp⟩)]
  simp only at w1 w2 hs
  simp [c1, c2, Program.keyLits, u1, u2, w1, w2, hs, litK, litsK]
theorem litK_inj {k k' : Bs × Int × Int} (h : KeyOk k) (h' : KeyOk k') (e : litK k = litK k') : k = k' := by
  unfold litK at e
  injection e with e
  have wf : ∀ {k : Bs × Int × Int}, KeyOk k → ∀ a ∈ litsK k, a.keyWf := fun {k} h a ha => by
    simp only [litsK, List.mem_cons, List.not_mem_nil, or_false] at ha
    rcases ha with rfl | rfl | rfl
    · show k.1.length ≤ maxLen
      have := h.len
      unfold maxLen; omega
    · exact wf64 h.t
    · exact wf64 h.c
  have hh := keyBytes_inj (l := litsK k) (l' := litsK k') ⟨trivial, rfl, rfl, trivial⟩ (wf h) (wf h') e
  simp only [litsK, List.cons.injEq, Lit.string.injEq, Lit.int.injEq, true_and, and_true] at hh
  obtain ⟨n, t, c⟩ := k
  obtain ⟨n', t', c'⟩ := k'
  obtain ⟨rfl, rfl, rfl⟩ := hh
  rfl

/-- Where a key stands. -/
def idxP (F : List Rr) (k : Bs × Int × Int) : Option Nat := F.findIdx? (isK k)
theorem idx_none {F : List Rr} {k : Bs × Int × Int} (h : idxP F k = none) : k ∉ F.map keyR := by
  intro hk
  rw [← any_isK, List.any_eq_true] at hk
  obtain ⟨x, hx, hi⟩ := hk
  have := List.findIdx?_eq_none_iff.1 h x hx
  rw [this] at hi; cases hi
theorem idx_some {F : List Rr} {k : Bs × Int × Int} {i : Nat} (h : idxP F k = some i) : ∃ hi : i < F.length, keyR F[i] = k := by
  obtain ⟨hi, h1, -⟩ := List.findIdx?_eq_some_iff_getElem.1 h
  exact ⟨hi, isK_iff.1 h1⟩
theorem idx_new {F : List Rr} {r : Rr} (h : idxP F (keyR r) = none) (k : Bs × Int × Int) : idxP (F ++ [r]) k = if k = keyR r then some F.length else idxP F k := by
  unfold idxP at *
  rw [List.findIdx?_append]
  by_cases e : k = keyR r
  · rw [if_pos e, e, h]
    simp [isK_self]
  · rw [if_neg e]
    have hi : isK k r = false := by
      rw [Bool.eq_false_iff]
      intro hh
      exact e (isK_iff.1 hh).symm
    simp [hi]

theorem zeroIntR (w : World) : (zeroValue 3).run Try.prog w = .ok (.int .i64 0) w := by kernel_rfl
/-- How a number reads. -/
def intG : Value → Option (DataW Unit × List MemPlace)
  | .int .i64 x => some (.lit (.int .i64 x), [])
  | _ => none
theorem intG_mk (x : Int) : intG (.int .i64 x) = some (.lit (.int .i64 x), []) := rfl
theorem intG_inv {v : Value} {x : Int} {ps : List MemPlace} (h : intG v = some (.lit (.int .i64 x), ps)) : v = .int .i64 x := by
  unfold intG at h
  split at h
  · injection h with h
    injection h with h1 h2
    simp at h1
    rw [h1]
  · cases h
/-- The map of places. -/
def PlM (w : World) (mb N : Nat) (F : List Rr) : Prop := ∃ D : DataW Unit, w.ownsMap Try.prog 58 intG mb N D ∧
  (∀ k, KeyOk k → D.atKey (litK k) (.lit (.int .i64 0)) = .lit (.int .i64 ((idxP F k).getD 0 : Nat))) ∧ ∀ k, KeyOk k → Maps.has D (litK k) = (idxP F k).isSome
theorem PlM.new (w : World) : PlM (w.alloc (.map #[] 0)) w.heap.size 0 [] := ⟨.map [], World.ownsMap_made w Try.prog 58 _, fun k _ => rfl, fun k _ => rfl⟩
theorem PlM.put_facts {F : List Rr} {r : Rr} {D : DataW Unit} (hm : IsMap D) (h1 : ∀ k, KeyOk k → D.atKey (litK k) (.lit (.int .i64 0)) = .lit (.int .i64 ((idxP F k).getD 0 : Nat))) (h2 : ∀ k, KeyOk k → Maps.has D (litK k) = (idxP F k).isSome) (hk : KeyOk (keyR r)) (hn : idxP F (keyR r) = none) :
    (∀ k, KeyOk k → (D.put (litK (keyR r)) (.lit (.int .i64 F.length))).atKey (litK k) (.lit (.int .i64 0)) = .lit (.int .i64 ((idxP (F ++ [r]) k).getD 0 : Nat))) ∧ ∀ k, KeyOk k → Maps.has (D.put (litK (keyR r)) (.lit (.int .i64 F.length))) (litK k) = (idxP (F ++ [r]) k).isSome := by
  refine ⟨fun k hk' => ?_, fun k hk' => ?_⟩
  · rw [idx_new hn]
    by_cases e : k = keyR r
    · subst e
      rw [atKey_put_same hm (by trivial), if_pos rfl]; rfl
    · rw [atKey_put_other (fun e' => e (litK_inj hk' hk e')), if_neg e]
      exact h1 k hk'
  · rw [idx_new hn]
    by_cases e : k = keyR r
    · subst e
      rw [has_put_same hm (by trivial), if_pos rfl]; rfl
    · rw [has_put_other (fun e' => e (litK_inj hk' hk e')), if_neg e]
      exact h2 k hk'
theorem PlM.lt {w : World} {mb N : Nat} {F : List Rr} (h : PlM w mb N F) : mb < w.heap.size := by
  obtain ⟨D, hD, _⟩ := h
  exact hD.lt
theorem PlM.map {w : World} {mb N : Nat} {F : List Rr} (h : PlM w mb N F) : ∃ es ck, w.heap[mb]? = some (.map es ck) := by
  obtain ⟨D, ⟨es, ck, hb, _⟩, _⟩ := h
  exact ⟨es, ck, hb⟩
theorem PlM.kept {w w' : World} {mb N : Nat} {F : List Rr} {r : Option Nat} (h : PlM w mb N F) (hg : w.grownBy w' r) (hr : ∀ g, r = some g → ∃ cs t fz, w.heap[g]? = some (.cells cs t fz)) : PlM w' mb N F := by
  obtain ⟨es, ck, hb⟩ := h.map
  obtain ⟨D, ⟨es', ck', hb', rest⟩, h2⟩ := h
  refine ⟨D, ⟨es', ck', ?_, rest⟩, h2⟩
  rw [hg.block mb (Array.getElem?_eq_some_iff.1 hb').1 (fun e => ?_)]
  · exact hb'
  · obtain ⟨cs, t, fz, h3⟩ := hr mb e.symm
    rw [hb] at h3
    injection h3 with h3
    cases h3
theorem PlM.below {w w' : World} {mb N : Nat} {F : List Rr} (h : PlM w mb N F) (hB : Below w.heap.size w w') : PlM w' mb N F := h.kept (r := none) (grown_of_below hB none) (fun g h => by cases h)
theorem PlM.look {w : World} {mb N : Nat} {F : List Rr} (h : PlM w mb N F) {k : Bs × Int × Int} (hk : KeyOk k) (V : Array Value) (hV : V = keyV k) : (Instr.lookup 77 (.map (some mb)) (.agg V) true).run Try.prog w = .ok (.tuple #[.int .i64 ((idxP F k).getD 0 : Nat), .bool (idxP F k).isSome]) w := by
  subst hV
  obtain ⟨M, hM, hat, hhas⟩ := h
  obtain ⟨u, ps, hrun, hv⟩ := hM.look_ok keyedR Try.underlying77 (zeroIntR w) (intG_mk 0) (keyOf_rr hk)
  rw [hat k hk] at hv
  rw [hrun, intG_inv hv, hhas k hk]
theorem PlM.put {w : World} {mb N : Nat} {F : List Rr} (h : PlM w mb N F) (hN : N < 1000000000000000) {r : Rr} (hk : KeyOk (keyR r)) (hn : idxP F (keyR r) = none) (V : Array Value) (hV : V = keyV (keyR r)) (m : Nat) (hm : m = F.length) :
    ∃ w', (Instr.mapUpdate 77 (.map (some mb)) (.agg V) (.int .i64 (m : Int))).run Try.prog w = .ok () w' ∧ w.grownBy w' (some mb) ∧ PlM w' mb (N + 1) (F ++ [r]) := by
  subst hV hm
  obtain ⟨M, hM, hat, hhas⟩ := h
  obtain ⟨w', hrun, hM', hgr⟩ := hM.update keyedR Try.underlying77 (by unfold maxLen; omega) (keyOf_rr hk) (intG_mk (F.length : Int))
  obtain ⟨f1, f2⟩ := PlM.put_facts hM.isMap hat hhas hk hn
  exact ⟨w', hrun, hgr, _, hM', f1, f2⟩
/-- A record that can play a part has a key that can be told. -/
theorem canD_lenR {r : Rr} (h : canRR r = true) : KeyOk (keyR r) := by
  unfold canRR rangeN at h
  simp only [Bool.and_eq_true, decide_eq_true_eq] at h
  obtain ⟨h1, h2, h3, _⟩ := h
  exact ⟨lower_len_le r.n, by simp only [keyR]; omega, by simp only [keyR]; omega⟩
end Go.Proofs.Ytbeggckkgaoacaa
