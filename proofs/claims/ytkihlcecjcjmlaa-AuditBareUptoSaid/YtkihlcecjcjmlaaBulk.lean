/-
  How great what comes in can be, by the bulk that the second form's rows allow: bytes; lists of texts.
-/
import Derived.Test.YtkihlcecjcjmlaaOq
import Derived.Test.YtkihlcecjcjmlaaRows
import Derived.ProofKit
import Derived.OpenShut
namespace Go.Proofs.Ytkihlcecjcjmlaa
open Go.ChangeShapes Go.WideShapes Go.ChangeAt Go.RowKit Go.Deep
set_option linter.unusedVariables false
set_option maxRecDepth 100000

theorem bulk_lits {H : Type} (k : IntKind) : ∀ (zs : List Int), zs.length ≤ Rows.uptoBulkAll (H := H) (lits k zs)
  | [] => Nat.zero_le _
  | z :: zs => by
    have := bulk_lits (H := H) k zs
    show zs.length + 1 ≤ Rows.uptoBulk (H := H) (.lit (.int k z)) + Rows.uptoBulkAll (lits k zs)
    have e : Rows.uptoBulk (H := H) (.lit (.int k z)) = 1 := rfl
    omega
theorem bulk_sum {H : Type} : ∀ (L : List Bs) (E : List (DataW H)), E.length = L.length → (∀ i (h1 : i < L.length) (h2 : i < E.length), (L[i]).length ≤ Rows.uptoBulk E[i]) → (L.map List.length).sum ≤ Rows.uptoBulkAll E
  | [], _, _, _ => by simp
  | y :: L, [], h, _ => by simp at h
  | y :: L, e :: E, h, hi => by
    have h0 := hi 0 (by simp) (by simp)
    have hr := bulk_sum L E (by simpa using h) (fun i h1 h2 => by
      have := hi (i + 1) (by simp; omega) (by simp; omega)
      simpa using this)
    show (y.length :: L.map List.length).sum ≤ Rows.uptoBulk e + Rows.uptoBulkAll E
    rw [List.sum_cons]
    have h0' : y.length ≤ Rows.uptoBulk e := h0
    omega
section
variable {H : Type} {enc : TypeId × Value → H} {w : World} {held : Bool} {d : DataW H} {p : List MemPlace}
theorem open_bulk {a : Option Addr} {n c : Nat} (h : DataW.Trod enc Try.prog w 0 (fun _ => true) held 47 (.slice a n c) d p) : n ≤ Rows.uptoBulk d := by
  obtain ⟨fuel, hf⟩ := h
  rcases open_ints Try.underlying47 Try.underlying5 (by kernel_rfl) hf with ⟨hcs, _⟩ | ⟨x, l, c', zs, hcs, _, hl, hm, hz, hx, _⟩
  · simp [Value.cells] at hcs
    omega
  · simp [Value.cells] at hcs
    obtain ⟨rfl, rfl, rfl⟩ := hcs
    simp only [Prod.mk.injEq] at hx
    rw [hx.1]
    have h1 := bulk_lits (H := H) .u8 (zs.take n)
    have h2 : (zs.take n).length = n := by have hz' : zs.length = c := by simpa using hz
                                           rw [List.length_take]; omega
    simp only [Rows.uptoBulk]
    omega
theorem open_bulks {r0 : Reach} {b0 : Nat} {v : Value} (hv : Value.okWide Try.prog w r0 b0 53 v) (h : DataW.Trod enc Try.prog w 0 (fun _ => true) held 53 v d p) :
    ∀ (L : List Bs) (A : Option Addr) (c : Nat), v = .slice A L.length c → Byss w A L → (L.map List.length).sum ≤ Rows.uptoBulk d := by
  intro L A c e hB
  subst e
  obtain ⟨n, hf⟩ := h
  have hf' : DataW.trod enc Try.prog w 0 (fun _ => true) held n 53 [.slice A L.length c] = some (d, p) := by simpa [Value.cells] using hf
  rcases open_slice Try.underlying53 hf' with ⟨hcs, _⟩ | ⟨ad, len, cap, m, k, D, Pl, hcs, _, hl, hm, hmm, hx, hE⟩
  · simp at hcs
    obtain rfl : L = [] := hcs.2.1
    simp
  · simp at hcs
    simp only [if_true] at hmm
    subst hmm
    obtain ⟨rfl, hlen, hcc⟩ := hcs
    simp only [Prod.mk.injEq] at hx
    rw [hx.1]
    have key := bulk_sum (H := H) L ((List.range len).map D) (by simp [hlen]) (fun i h1 h2 => by
      obtain ⟨g, off, had, hc⟩ := hB (by omega)
      injection had with had
      subst had
      obtain ⟨a, c', h3, -⟩ := hc i h1
      obtain ⟨cs', e1, e2⟩ := hE i (by omega)
      obtain ⟨_, hl1, hcell⟩ := World.cells?_some e1
      rw [slCells] at hl1 hcell
      match cs', hl1 with
      | [x0], _ =>
        have h4 := hcell 0 (by omega)
        have h5 : w.cell? ⟨g, off + i, none⟩ = some x0 := by
          have h6 := h4
          simp [add_zero'] at h6
          rw [Addr.add_lit] at h6
          exact h6
        obtain rfl := Option.some.inj (h3.symm.trans h5)
        have := open_bulk (d := D i) ⟨_, by simpa [Value.cells] using e2⟩
        simpa using this)
    simp only [Rows.uptoBulk]
    omega
end
end Go.Proofs.Ytkihlcecjcjmlaa
