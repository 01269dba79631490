/-
  A map from facts to lists of spans: one more span.
-/
import Derived.Test.YtkihlcecjcjmlaaAuK
import Derived.Test.YtkihlcecjcjmlaaAuC
import Derived.Maps.OwnRows
namespace Go.Proofs.Ytkihlcecjcjmlaa
open Go.RowKit Go.Maps Go.WideElems Go.ChangeMaps
open Go.WideMaps (KeyLaw)
set_option linter.unusedVariables false
set_option maxRecDepth 100000

theorem lawF : KeyLaw Try.prog 62 := deep_law_laid laidA (m := 2) (by omega) (of_decide_eq_true (by kernel_rfl)) (by kernel_rfl) (by rw [Try.underlying62])
theorem keyedF : Keyed Try.prog 62 := Keyed.of_law lawF
structure FaOk (f : Fa) : Prop where
  n : f.n.length ≤ 9223372036854775807
  t : I64a f.t
  c : I64a f.c
  d : f.d.length ≤ 9223372036854775807
def litF (f : Fa) : Lit := .string (keyBytes [.string f.n, .int .i64 f.t, .int .i64 f.c, .string f.d])
theorem keyOf_fa {k : Fa} (h : FaOk k) : keyOf Try.prog 62 (.agg (faC k)) = some (litF k) := by
  have hkt : Try.prog.keyType 62 = true := by kernel_rfl
  have hc : Try.prog.cellsOf 62 = 4 := by kernel_rfl
  have c1 : Try.prog.cellsOf 9 = 1 := by kernel_rfl
  have c2 : Try.prog.cellsOf 3 = 1 := by kernel_rfl
  have hu := Try.underlying62
  have u1 := Try.underlying9
  have u2 := Try.underlying3
  obtain ⟨m, hm⟩ : ∃ m, Try.prog.types.size = m + 1 := ⟨Try.prog.types.size - 1, by kernel_rfl⟩
  have w1 := wf64a h.t
  have w2 := wf64a h.c
  have hl := h.n
  have hd := h.d
  have hs : (bs k.n).size ≤ maxLen := by rw [bs_size]; unfold maxLen; omega
  have hs2 : (bs k.d).size ≤ maxLen := by rw [bs_size]; unfold maxLen; omega
  obtain ⟨n, t, c, d⟩ := k
  unfold keyOf
  simp only [hu]
  rw [if_pos (by simp [hkt, Value.formed, hu, hc, faC]), hm]
  unfold Program.keyLits
  simp only [hu, Value.cells, faC]
  rw [if_pos (by rw [hc]; exact ⟨rfl, by simp⟩)]
  simp only at w1 w2 hs hs2
  simp [c1, c2, Program.keyLits, u1, u2, w1, w2, hs, hs2, litF]

/-- How an element reads: whatever it is, as one and the same. -/
def anyG : Value → Option (DataW Unit × List MemPlace) := fun _ => some (.lit (.bool true), [])
theorem setBlock_inj {w : World} {b : Nat} {es : Array MapEntry} {ck : Nat} {o1 o2 : Obj} (hb : w.heap[b]? = some (.map es ck)) (h : setBlock w b o1 = setBlock w b o2) : o1 = o2 := by
  have h1 := heap_setBlock_same hb o1
  have h2 := heap_setBlock_same hb o2
  rw [h, h2] at h1
  exact (Option.some.inj h1).symm
theorem entry_full {P : Program} {w : World} {t k e : TypeId} {b : Nat} {es : Array MapEntry} {ck : Nat} (K : KeyLaw P k) (ht : P.underlying t = some (.map k e)) {z : Value} (hz : ∀ u : World, (zeroValue e).run P u = .ok z u) (hb : w.heap[b]? = some (.map es ck)) (F : WideElems.Fit P k anyG es ck) (hs : es.size < maxLen)
    {key : Value} {kl : Lit} (hkey : keyOf P k key = some kl) : ∃ j v0 st es1 ck1, (Instr.mapEntry t (.map (some b)) key).run P w = .ok (.tuple #[v0, goInt st]) (setBlock w b (.map es1 ck1)) ∧ ((j = es.size ∧ v0 = z) ∨ ∃ e0, es[j]? = some e0 ∧ v0 = e0.val) ∧
      ∀ (w2 : World) (val : Value), w2.heap[b]? = some (.map es1 ck1) → ∃ es' ck', (Instr.entryStore t (.map (some b)) (goInt st) val).run P w2 = .ok () (setBlock w2 b (.map es' ck')) ∧ WideElems.Fit P k anyG es' ck' ∧ es'.size ≤ es.size + 1 ∧ (∀ i, i ≠ j → es'[i]? = es[i]?) ∧ ∃ e', es'[j]? = some e' ∧ e'.val = val := by
  obtain ⟨v0, st, es1, ck1, n1, -, n3⟩ := entry_then_store K ht hz hb F hkey
  have fs := fun val => Maps.fit_store (R' := anyG) (Keyed.of_law K) ht hb F hs (fun _ _ _ _ h => h) hkey (val := val) (yv := (.lit (.bool true), [])) rfl
  rcases K.find w hkey es.toList F.keys with ⟨h1, h2⟩ | ⟨j, e0, h1, h2, h3⟩
  · have m1 : (Instr.mapEntry t (.map (some b)) key).run P w = .ok (.tuple #[z, goInt ck]) (setBlock w b (.map (es.push ⟨key, z, ck⟩) (ck + 1))) := by
      simp [Instr.mapEntry, run_underlying ht, MapKept.run_getObj_map hb, K.check w false hkey, h1, hz, MapKept.run_setObj_map _ hb, Result.andThen, setBlock]
    rw [m1] at n1
    injection n1 with e1 e2
    have e3 : v0 = z := by
      have := congrArg (fun v => match v with | .tuple xs => xs.getD 0 undef | _ => undef) e1
      simpa using this.symm
    refine ⟨es.size, v0, st, es1, ck1, by rw [m1, e1, e2], .inl ⟨rfl, e3⟩, fun w2 val hw2 => ?_⟩
    obtain ⟨es2, ck2, q1, q2⟩ := n3 w2 val hw2
    have m2 : (Instr.mapUpdate t (.map (some b)) key val).run P w = .ok () (setBlock w b (.map (es.push ⟨key, val, ck⟩) (ck + 1))) := by
      simp [Instr.mapUpdate, run_underlying ht, MapKept.run_getObj_map hb, K.check w false hkey, h1, MapKept.run_setObj_map _ hb, Result.andThen, setBlock]
    obtain ⟨es3, ck3, f1, f2, -⟩ := fs val
    rw [m2] at q2 f1
    injection q2 with _ q2
    injection f1 with _ f1
    have g1 := setBlock_inj hb q2
    have g2 := setBlock_inj hb f1
    injection g1 with g1 g1'
    injection g2 with g2 g2'
    subst g1 g1'
    subst g2 g2'
    refine ⟨_, _, q1, f2, by simp, fun i hi => ?_, ⟨key, val, ck⟩, by simp, rfl⟩
    rw [Array.getElem?_push]
    rw [if_neg hi]
  · have hj : es[j]? = some e0 := by simpa using h2
    have hjs : j < es.size := (Array.getElem?_eq_some_iff.1 hj).1
    have m1 : ∃ es9, (Instr.mapEntry t (.map (some b)) key).run P w = .ok (.tuple #[e0.val, goInt e0.born]) (setBlock w b (.map es9 ck)) := by
      refine ⟨es.modify j (fun e' => { e' with key := key }), ?_⟩
      simp [Instr.mapEntry, run_underlying ht, MapKept.run_getObj_map hb, K.check w false hkey, h1, hj, h3, K.stays w hkey, MapKept.run_setObj_map _ hb, Result.andThen, setBlock]
    obtain ⟨es9, m1⟩ := m1
    rw [m1] at n1
    injection n1 with e1 e2
    have e3 : v0 = e0.val := by
      have := congrArg (fun v => match v with | .tuple xs => xs.getD 0 undef | _ => undef) e1
      simpa using this.symm
    refine ⟨j, v0, st, es1, ck1, by rw [m1, e1, e2], .inr ⟨e0, hj, e3⟩, fun w2 val hw2 => ?_⟩
    obtain ⟨es2, ck2, q1, q2⟩ := n3 w2 val hw2
    have m2 : (Instr.mapUpdate t (.map (some b)) key val).run P w = .ok () (setBlock w b (.map (es.modify j (fun e' => { e' with key := key, val := val })) ck)) := by
      simp [Instr.mapUpdate, run_underlying ht, MapKept.run_getObj_map hb, K.check w false hkey, h1, hj, h3, K.stays w hkey, MapKept.run_setObj_map _ hb, Result.andThen, setBlock]
    obtain ⟨es3, ck3, f1, f2, -⟩ := fs val
    rw [m2] at q2 f1
    injection q2 with _ q2
    injection f1 with _ f1
    have g1 := setBlock_inj hb q2
    have g2 := setBlock_inj hb f1
    injection g1 with g1 g1'
    injection g2 with g2 g2'
    subst g1 g1'
    subst g2 g2'
    refine ⟨_, _, q1, f2, by simp, fun i hi => ?_, ⟨key, val, e0.born⟩, ?_, rfl⟩
    · rw [Array.getElem?_modify, if_neg (fun e => hi e.symm)]
    · rw [Array.getElem?_modify, if_pos rfl, hj]
      rfl
end Go.Proofs.Ytkihlcecjcjmlaa
