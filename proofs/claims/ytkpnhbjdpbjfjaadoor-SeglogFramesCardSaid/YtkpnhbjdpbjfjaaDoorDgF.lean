/-
  Towards the document's 64 words of a block: numbers that the call made, read.
-/
import Derived.Test.YtkpnhbjdpbjfjaaDoorDgE
import Derived.Test.YtkpnhbjdpbjfjaaDoorRdW
import Derived.Test.YtkpnhbjdpbjfjaaDoorQt
import Derived.Deep.QuietTactic
import Derived.BigQuiet
import Derived.Deep.RegionHeld3
namespace Go.Proofs.YtkpnhbjdpbjfjaaDoor
open Go.RowKit
set_option linter.unusedVariables false
set_option maxRecDepth 100000

theorem info_u32 : (Tryd.prog.info? 25).map (fun i => (i.zero, i.size, i.bytes)) = some (some (.int .u32 0), 1, 4) := by kernel_rfl
theorem info_parts32 {P : Program} {t : TypeId} {z : Option Value} {s b : Nat} (h : (P.info? t).map (fun i => (i.zero, i.size, i.bytes)) = some (z, s, b)) : ∃ i, P.info? t = some i ∧ i.zero = z ∧ i.size = s ∧ i.bytes = b := by
  cases hi : P.info? t with
  | none => rw [hi] at h; cases h
  | some i =>
    rw [hi] at h
    simp only [Option.map_some, Option.some.injEq, Prod.mk.injEq] at h
    exact ⟨i, rfl, h.1, h.2.1, h.2.2⟩
theorem dgOwn_below {w w' : World} {base size n B : Nat} {e : TypeId} {v : Value} {xs : List Value} (h : w.ownsRow base e size v n xs) (hB : Below B w w') (hs : w.heap.size ≤ B) : w'.ownsRow base e size v n xs := by
  refine h.kept (row := none) ⟨hB.os, hB.tape, hB.output, hB.size, fun k hk _ => hB.block k (by omega)⟩ (by cases hv : v.ownBlock <;> simp)
theorem dgNext {B : Nat} {w w1 w2 : World} (h : Below B w w1) (hs : B ≤ w1.heap.size) (k : Below w1.heap.size w1 w2) : Below B w w2 ∧ B ≤ w2.heap.size := ⟨Below.trans h (k.mono hs), Nat.le_trans hs k.size⟩
theorem div8 (x : Nat) : (x : Int) / (8 : Int) = ((x >>> 3 : Nat) : Int) := by
  rw [Nat.shiftRight_eq_div_pow]
  omega
theorem div1024 (x : Nat) : (x : Int) / (1024 : Int) = ((x >>> 10 : Nat) : Int) := by
  rw [Nat.shiftRight_eq_div_pow]
  omega
/-- Numbers that the call made, read. -/
theorem own_u32 {w : World} {B n : Nat} {v : Value} {L : List Nat} (h : w.ownsRow B 25 1 v n (L.map u32V)) (hn : 0 < n) : ∃ g c, v = .slice (some ⟨g, 0, none⟩) n c ∧ B ≤ g ∧ n = L.length ∧ n ≤ c ∧ c ≤ maxLen ∧ ∀ j, j < n → w.cell? ⟨g, j, none⟩ = some (.int .u32 (L.getD j 0 : Nat)) := by
  have hl := h.1
  simp at hl
  rcases h.2 with ⟨_, h0⟩ | ⟨g, cap, cur, hv, hb, hh, hc, hm, hsz, ht⟩
  · omega
  · refine ⟨g, cap, hv, hb, hl.symm, hc, hm, fun j hj => ?_⟩
    refine (cell_of_row _ _ _ _ _ _ hh).trans ?_
    have e := congrArg (fun x => x[j]?) ht
    have hj' : j < L.length := by omega
    simp [hj, hj'] at e
    simpa [u32V, hj'] using e

structure DgS (W w4 : World) (g cc i x16 x7 : Nat) (L : List Nat) (w : World) : Prop where
  own : w.ownsRow W.heap.size 25 1 (.slice (some ⟨g, 0, none⟩) i cc) i (L.map u32V)
  c16 : w.cell? ⟨g, i - 16, none⟩ = some (.int .u32 (x16 : Nat))
  c7 : w.cell? ⟨g, i - 7, none⟩ = some (.int .u32 (x7 : Nat))
  bel : Below W.heap.size W w
theorem DgS.drew {W w4 w : World} {g cc i x16 x7 : Nat} {L : List Nat} (h : DgS W w4 g cc i x16 x7 L w) : DgS W w4 g cc i x16 x7 L w.drew := ⟨h.own.drew, h.c16, h.c7, h.bel.drew⟩
theorem DgS.triple {W w4 w : World} {g cc i x16 x7 : Nat} {L : List Nat} (h : DgS W w4 g cc i x16 x7 L w) : w.cell? ⟨g, i - 16, none⟩ = some (.int .u32 (x16 : Nat)) ∧ w.cell? ⟨g, i - 7, none⟩ = some (.int .u32 (x7 : Nat)) ∧ DgS W w4 g cc i x16 x7 L w := ⟨h.c16, h.c7, h⟩
theorem DgS.alloc {W w4 w : World} {g cc i x16 x7 : Nat} {L : List Nat} (h : DgS W w4 g cc i x16 x7 L w) (o : Obj) : DgS W w4 g cc i x16 x7 L (w.alloc o) := by
  have hg := (h.own.lt g rfl).2
  have hb := (Below.alloc (Below.refl w.heap.size w) (Nat.le_refl _) o).block g hg
  exact ⟨h.own.alloc o, (World.cell?_of_block (a := ⟨g, i - 16, none⟩) hb).trans h.c16, (World.cell?_of_block (a := ⟨g, i - 7, none⟩) hb).trans h.c7, Below.alloc h.bel h.bel.size o⟩

end Go.Proofs.YtkpnhbjdpbjfjaaDoor
