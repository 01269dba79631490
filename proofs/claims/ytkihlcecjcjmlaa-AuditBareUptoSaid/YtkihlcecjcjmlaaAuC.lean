/-
  A map from asks to numbers: read, and one number turned.
-/
import Derived.Test.YtkihlcecjcjmlaaAuB
import Derived.Maps.OwnSet
import Derived.DeepKeys4
import Derived.ChangeKeys
import Derived.WideKeyEntry
namespace Go.Proofs.Ytkihlcecjcjmlaa
open Go.RowKit Go.Maps Go.WideElems Go.ChangeMaps
open Go.WideMaps (KeyLaw)
set_option linter.unusedVariables false
set_option maxRecDepth 100000

theorem laidA : laidOutB Try.prog = true := by kernel_rfl
theorem lawA : KeyLaw Try.prog 39 := deep_law_laid laidA (m := 3) (by omega) (of_decide_eq_true (by kernel_rfl)) (by kernel_rfl) (by rw [Try.underlying39])
theorem keyedA : Keyed Try.prog 39 := Keyed.of_law lawA
def litsA (k : Ask) : List Lit := [.int .i64 k.st, .int .i64 k.i, .int .i64 k.o, .bool k.rd, .string k.n, .int .i64 k.t, .int .i64 k.c]
def litA (k : Ask) : Lit := .string (keyBytes (litsA k))
theorem wf64a {n : Int} (h : I64a n) : (Lit.int .i64 n).wf = true := by
  unfold I64a at h
  simp [Lit.wf, IntKind.min, IntKind.max, IntKind.signed, IntKind.bits]
  omega
theorem keyOf_ask {k : Ask} (h : AskOk k) : keyOf Try.prog 39 (.agg (askC k)) = some (litA k) := by
  have hkt : Try.prog.keyType 39 = true := by kernel_rfl
  have hc : Try.prog.cellsOf 39 = 7 := by kernel_rfl
  have hc3 : Try.prog.cellsOf 35 = 3 := by kernel_rfl
  have c1 : Try.prog.cellsOf 9 = 1 := by kernel_rfl
  have c2 : Try.prog.cellsOf 3 = 1 := by kernel_rfl
  have c4 : Try.prog.cellsOf 4 = 1 := by kernel_rfl
  have hu := Try.underlying39
  have hq := Try.underlying35
  have u1 := Try.underlying9
  have u2 := Try.underlying3
  have u4 := Try.underlying4
  obtain ⟨m, hm⟩ : ∃ m, Try.prog.types.size = m + 2 := ⟨Try.prog.types.size - 2, by kernel_rfl⟩
  have w1 := wf64a h.st
  have w2 := wf64a h.i
  have w3 := wf64a h.o
  have w4 := wf64a h.t
  have w5 := wf64a h.c
  have hl := h.n
  have hs : (bs k.n).size ≤ maxLen := by rw [bs_size]; unfold maxLen; omega
  have hb := bs_toList k.n
  obtain ⟨st, i, o, rd, n, t, c⟩ := k
  unfold keyOf
  simp only [hu]
  rw [if_pos (by simp [hkt, Value.formed, hu, hc, askC]), hm]
  unfold Program.keyLits
  simp only [hu, Value.cells, askC]
  rw [if_pos (by rw [hc]; exact ⟨rfl, by simp⟩)]
  simp only at w1 w2 w3 w4 w5 hs
  simp [c1, c2, c4, hc3, Program.keyLits, u1, u2, u4, hq, w1, w2, w3, w4, w5, hs, litA, litsA]
  rw [if_pos (by intro i hi; rcases i with _ | _ | _ | i <;> first | (simp; done) | omega)]
  rfl
theorem litA_inj {k k' : Ask} (h : AskOk k) (h' : AskOk k') (e : litA k = litA k') : k = k' := by
  unfold litA at e
  injection e with e
  have wf : ∀ {k : Ask}, AskOk k → ∀ a ∈ litsA k, a.keyWf := fun {k} h a ha => by
    simp only [litsA, List.mem_cons, List.not_mem_nil, or_false] at ha
    rcases ha with rfl | rfl | rfl | rfl | rfl | rfl | rfl
    · exact wf64a h.st
    · exact wf64a h.i
    · exact wf64a h.o
    · trivial
    · show k.n.length ≤ maxLen
      have := h.n
      unfold maxLen; omega
    · exact wf64a h.t
    · exact wf64a h.c
  have hh := keyBytes_inj (l := litsA k) (l' := litsA k') ⟨rfl, rfl, rfl, trivial, trivial, rfl, rfl, trivial⟩ (wf h) (wf h') e
  simp only [litsA, List.cons.injEq, Lit.string.injEq, Lit.int.injEq, Lit.bool.injEq, true_and, and_true] at hh
  obtain ⟨st, i, o, rd, n, t, c⟩ := k
  obtain ⟨st', i', o', rd', n', t', c'⟩ := k'
  obtain ⟨rfl, rfl, rfl, rfl, rfl, rfl, rfl⟩ := hh
  rfl

theorem zeroIntA (w : World) : (zeroValue 3).run Try.prog w = .ok (.int .i64 0) w := by kernel_rfl
/-- How a number reads. -/
def intG : Value → Option (DataW Unit × List MemPlace)
  | .int .i64 x => some (.lit (.int .i64 x), [])
  | _ => none
theorem intG_mk (x : Int) : intG (.int .i64 x) = some (.lit (.int .i64 x), []) := rfl
theorem intG_inv {v : Value} {x : Int} {ps : List MemPlace} (h : intG v = some (.lit (.int .i64 x), ps)) : v = .int .i64 x := by
  unfold intG at h
  split at h
  · injection h with h
    injection h with h1 h2
    simp at h1
    rw [h1]
  · cases h
/-- The map of numbers. -/
def CtM (w : World) (mb N : Nat) (F : Ask → Int) : Prop := ∃ D : DataW Unit, w.ownsMap Try.prog 39 intG mb N D ∧ ∀ k, AskOk k → D.atKey (litA k) (.lit (.int .i64 0)) = .lit (.int .i64 (F k))
theorem CtM.new (w : World) : CtM (w.alloc (.map #[] 0)) w.heap.size 0 (fun _ => 0) := ⟨.map [], World.ownsMap_made w Try.prog 39 _, fun k _ => rfl⟩
theorem CtM.lt {w : World} {mb N : Nat} {F : Ask → Int} (h : CtM w mb N F) : mb < w.heap.size := by
  obtain ⟨D, hD, _⟩ := h
  exact hD.lt
theorem CtM.below {w w' : World} {mb N : Nat} {F : Ask → Int} (h : CtM w mb N F) (hB : Below w.heap.size w w') : CtM w' mb N F := by
  obtain ⟨D, ⟨es, ck, hb, rest⟩, h2⟩ := h
  exact ⟨D, ⟨es, ck, (hB.block mb (Array.getElem?_eq_some_iff.1 hb).1).trans hb, rest⟩, h2⟩
theorem CtM.more {w : World} {mb N M : Nat} {F : Ask → Int} (h : CtM w mb N F) (hM : N ≤ M) : CtM w mb M F := by
  obtain ⟨D, hD, h2⟩ := h
  exact ⟨D, hD.mono hM, h2⟩
theorem CtM.look {w : World} {mb N : Nat} {F : Ask → Int} (h : CtM w mb N F) {k : Ask} (hk : AskOk k) (V : Array Value) (hV : V = askC k) : (Instr.lookup 37 (.map (some mb)) (.agg V) false).run Try.prog w = .ok (.int .i64 (F k)) w := by
  subst hV
  obtain ⟨D, hD, hat⟩ := h
  obtain ⟨u, ps, hrun, hv⟩ := hD.lookup keyedA Try.underlying37 (zeroIntA w) (intG_mk 0) (keyOf_ask hk)
  rw [hat k hk] at hv
  rw [hrun, intG_inv hv]
theorem CtM.put {w w' : World} {mb N : Nat} {F : Ask → Int} (h : CtM w mb N F) (hN : N < 1000000000000000) {k : Ask} (hk : AskOk k) (x : Int) (hrun : (Instr.mapUpdate 37 (.map (some mb)) (.agg (askC k)) (.int .i64 x)).run Try.prog w = .ok () w') :
    CtM w' mb (N + 1) (fun j => if j = k then x else F j) ∧ w.grownBy w' (some mb) := by
  obtain ⟨D, hD, hat⟩ := h
  obtain ⟨w2, hr2, hD2, hg⟩ := hD.update keyedA Try.underlying37 (by unfold maxLen; omega) (keyOf_ask hk) (intG_mk x)
  rw [hrun] at hr2
  injection hr2 with _ hw
  subst hw
  refine ⟨⟨_, hD2, fun j hj => ?_⟩, hg⟩
  by_cases e : j = k
  · subst e
    rw [atKey_put_same hD.isMap (by trivial)]
    simp
  · rw [atKey_put_other (fun e' => e (litA_inj hj hk e')), hat j hj]
    simp [e]
/-- What stands at a key, or nothing, put there anew: that is what 'm[k] op= x' does first. -/
theorem entry_upd {P : Program} {w : World} {t k e : TypeId} {R : Value → Option (DataW Unit × List MemPlace)} {b : Nat} {es : Array MapEntry} {clock : Nat} (K : KeyLaw P k) (ht : P.underlying t = some (.map k e)) {z : Value} (hz : ∀ u : World, (zeroValue e).run P u = .ok z u) (hb : w.heap[b]? = some (.map es clock)) (F : WideElems.Fit P k R es clock)
    {key : Value} {kl : Lit} (hkey : keyOf P k key = some kl) : ∃ v0 st w', (Instr.mapEntry t (.map (some b)) key).run P w = .ok (.tuple #[v0, goInt st]) w' ∧ (Instr.mapUpdate t (.map (some b)) key v0).run P w = .ok () w' ∧ (Instr.lookup t (.map (some b)) key false).run P w = .ok v0 w := by
  rcases K.find w hkey es.toList F.keys with ⟨h1, h2⟩ | ⟨j, e0, h1, h2, h3⟩
  · refine ⟨z, clock, setBlock w b (.map (es.push ⟨key, z, clock⟩) (clock + 1)), ?_, ?_, ?_⟩
    · simp [Instr.mapEntry, run_underlying ht, MapKept.run_getObj_map hb, K.check w false hkey, h1, hz, MapKept.run_setObj_map _ hb, Result.andThen, setBlock]
    · simp [Instr.mapUpdate, run_underlying ht, MapKept.run_getObj_map hb, K.check w false hkey, h1, MapKept.run_setObj_map _ hb, Result.andThen, setBlock]
    · simp [Instr.lookup, run_underlying ht, MapKept.run_getObj_map hb, K.check w _ hkey, h1, hz, Result.andThen]
  · have hj : es[j]? = some e0 := by simpa using h2
    have hs : ∀ f : MapEntry → MapEntry, f e0 = e0 → es.modify j f = es := fun f hf => by
      apply Array.ext'
      rw [Array.toList_modify]
      apply List.ext_getElem?
      intro i
      rw [List.getElem?_modify]
      by_cases hi : j = i
      · subst hi
        rw [h2]
        simp [hf]
      · simp [hi]
    refine ⟨e0.val, e0.born, setBlock w b (.map es clock), ?_, ?_, ?_⟩
    · simp [Instr.mapEntry, run_underlying ht, MapKept.run_getObj_map hb, K.check w false hkey, h1, hj, h3, K.stays w hkey, hs (fun e' => { e' with key := key }) (by rw [← h3]), MapKept.run_setObj_map _ hb, Result.andThen, setBlock]
    · simp [Instr.mapUpdate, run_underlying ht, MapKept.run_getObj_map hb, K.check w false hkey, h1, hj, h3, K.stays w hkey, hs (fun e' => { e' with key := key, val := e0.val }) (by rw [← h3]), MapKept.run_setObj_map _ hb, Result.andThen, setBlock]
    · simp [Instr.lookup, run_underlying ht, MapKept.run_getObj_map hb, K.check w _ hkey, h1, Result.andThen]
/-- 'm[k] = x' behind 'm[k]' was read, in two steps. -/
theorem CtM.bump {w : World} {mb N : Nat} {F : Ask → Int} (h : CtM w mb N F) (hN : N < 100000000000000) {k : Ask} (hk : AskOk k) (V : Array Value) (hV : V = askC k) :
    ∃ (u : Value) (st : Nat) (w1 : World), (Instr.mapEntry 37 (.map (some mb)) (.agg V)).run Try.prog w = .ok (.tuple #[u, .int .i64 (st : Int)]) w1 ∧ CtM w1 mb (N + 1) F ∧ w.grownBy w1 (some mb) ∧
      ∀ x, ∃ w2, (Instr.entryStore 37 (.map (some mb)) (.int .i64 (st : Int)) (.int .i64 x)).run Try.prog w1 = .ok () w2 ∧ CtM w2 mb (N + 1) (fun j => if j = k then x else F j) ∧ w.grownBy w2 (some mb) := by
  subst hV
  have hl := h.look hk (askC k) rfl
  obtain ⟨D, ⟨es, ck, hb, Ft, hs, hD⟩, hat⟩ := id h
  obtain ⟨v0, st, w1, m1, m2, m3⟩ := entry_upd lawA Try.underlying37 zeroIntA hb Ft (keyOf_ask hk)
  obtain ⟨v1, st1, es1, ck1, n1, -, n3⟩ := entry_then_store lawA Try.underlying37 zeroIntA hb Ft (keyOf_ask hk)
  rw [hl] at m3
  injection m3 with e0 _
  subst e0
  rw [m1] at n1
  injection n1 with e1 e2
  subst e2
  have e3 : st1 = st := by
    have := congrArg (fun v => match v with | .tuple xs => xs.getD 1 undef | _ => undef) e1
    simp [goInt] at this
    omega
  subst e3
  obtain ⟨c1, g1⟩ := h.put (by omega) hk (F k) m2
  refine ⟨_, st1, _, m1, ?_, g1, fun x => ?_⟩
  · obtain ⟨D', h1, h2⟩ := c1
    refine ⟨D', h1, fun j hj => ?_⟩
    rw [h2 j hj]
    by_cases e : j = k
    · simp [e]
    · simp [e]
  · obtain ⟨es2, ck2, q1, q2⟩ := n3 _ (.int .i64 x) (heap_setBlock_same hb _)
    obtain ⟨c2, g2⟩ := h.put (by omega) hk x q2
    have e4 : setBlock (setBlock w mb (.map es1 ck1)) mb (.map es2 ck2) = setBlock w mb (.map es2 ck2) := by
      unfold setBlock
      simp
    rw [e4] at q1
    exact ⟨_, q1, c2, g2⟩
end Go.Proofs.Ytkihlcecjcjmlaa
