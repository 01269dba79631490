/-
  Numbers that come in.
  Bytes that come in, as the names' laws want them.
  Bytes, and lists of texts, that come in: how great they can be.
  Lists of texts, and of numbers, that come in.
-/
import Derived.Test.YtknpkifhkefikaaDoorGc
import Derived.Test.YtknpkifhkefikaaDoorGa
import Derived.Test.YtknpkifhkefikaaDoorRows
import Derived.ProofKit
import Derived.OpenShut
import Derived.ShutString
import Derived.ChangeOld
import Derived.Deep.Slices
import Derived.Deep.Fields
import Derived.SizedLaws
namespace Go.Proofs.YtknpkifhkefikaaDoor
open Go.RowKit
set_option linter.unusedVariables false
set_option maxRecDepth 100000

/-- Numbers in memory. -/
def Nts (w : World) (A : Option Addr) (l : List Int) : Prop := 0 < l.length → ∃ g off, A = some ⟨g, off, none⟩ ∧ ∀ j (h : j < l.length), w.cell? ⟨g, off + j, none⟩ = some (.int .i64 l[j])
theorem Nts.on {w w1 : World} {A : Option Addr} {l : List Int} (h : Nts w A l) (hB : Below w.heap.size w w1) : Nts w1 A l := fun hl => by
  obtain ⟨g, off, hA, hc⟩ := h hl
  exact ⟨g, off, hA, fun j hj => cell_on (hc j hj) hB⟩
end Go.Proofs.YtknpkifhkefikaaDoor
namespace Go.Proofs.YtknpkifhkefikaaDoor
open Go.ChangeShapes Go.WideShapes Go.ChangeAt Go.RowKit

theorem own : ownKnob Tryd.prog.godebug = none := by kernel_rfl
theorem laidOut : laidOutB Tryd.prog = true := by kernel_rfl

section
variable {H : Type} {enc : TypeId × Value → H} {w : World} {held : Bool} {a : Option Addr} {len cap : Nat} {d : DataW H} {p : List MemPlace}
theorem open_bys (h : DataW.Trod enc Tryd.prog w 0 (fun _ => true) held 29 (.slice a len cap) d p) : ∃ l : Bs, l.length = len ∧ Bys w a l ∧ len ≤ cap ∧ cap ≤ 9223372036854775807 := by
  obtain ⟨fuel, hf⟩ := h
  rcases open_ints Tryd.underlying29 Tryd.underlying5 (by kernel_rfl) hf with ⟨hcs, _⟩ | ⟨x, l, c, zs, hcs, _, hl, hm, hz, _, hcell, hwz⟩
  · simp [Value.cells] at hcs
    obtain ⟨rfl, rfl, rfl⟩ := hcs
    exact ⟨[], rfl, fun h => absurd h (by simp), by omega, by omega⟩
  · simp [Value.cells] at hcs
    obtain ⟨rfl, rfl, rfl⟩ := hcs
    have hz' : zs.length = cap := by simpa using hz
    have hln : ((zs.take len).map (fun n : Int => UInt8.ofNat n.toNat)).length = len := by simp; omega
    refine ⟨(zs.take len).map (fun n : Int => UInt8.ofNat n.toNat), hln, fun h0 => ?_, hl, by unfold maxLen at hm; omega⟩
    obtain ⟨b, off, rfl, hc⟩ := ints_at hcell (by omega)
    refine ⟨b, off, rfl, fun j hj => ?_⟩
    have hj' : j < len := by omega
    rw [hc j (by omega)]
    have hr := range_u8 hwz j
    rw [List.getD_eq_getElem?_getD]
    simp only [List.getElem_map, List.getElem_take]
    have hjz : j < zs.length := by omega
    rw [List.getElem?_eq_getElem hjz] at hr ⊢
    simp only [Option.getD_some] at hr ⊢
    congr 2
    simp; omega
end
end Go.Proofs.YtknpkifhkefikaaDoor
namespace Go.Proofs.YtknpkifhkefikaaDoor
open Go.ChangeShapes Go.WideShapes Go.ChangeAt Go.RowKit Go.Deep
set_option linter.unusedVariables false
set_option maxRecDepth 100000

theorem slCells : Tryd.prog.cellsOf 29 = 1 := by kernel_rfl
theorem u8Bytes : Tryd.prog.bytesOf 5 = 1 := by kernel_rfl
theorem slBytes : Tryd.prog.bytesOf 29 = 24 := by kernel_rfl
theorem add_zero' (a : Addr) : a.add 0 = a := by
  obtain ⟨b, o, v⟩ := a
  unfold Addr.add
  split <;> simp_all
theorem of_two {α : Type} (l : List α) (h : l.length = 2) : ∃ a b, l = [a, b] := by
  match l, h with
  | [a, b], _ => exact ⟨a, b, rfl⟩
/-- All that a datum weighs is within reach. -/
def Within {H : Type} (t : TypeId) (d : DataW H) : Prop := ∀ n ∈ d.weights Tryd.prog t, n ≤ reachBytes
theorem Within.part {H : Type} {t u : TypeId} {parts : List (DataW H)} {fs : Array Field} {i : Nat} {d : DataW H} (h : Within t (.agg parts)) (ht : Tryd.prog.underlying t = some (.struct fs)) (hu : (fs.toList.map (·.type))[i]? = some u) (hd : parts[i]? = some d) : Within u d := by
  intro n hn
  refine h n ?_
  rw [DataW.weights, ht]
  exact DataW.weights_mem_each hu hd n hn
theorem weightsAll_mem {H : Type} {e : TypeId} {d : DataW H} {n : Nat} (hn : n ∈ d.weights Tryd.prog e) : ∀ {l : List (DataW H)}, d ∈ l → n ∈ DataW.weightsAll Tryd.prog e l
  | x :: l, h => by
    rw [DataW.weightsAll, List.mem_append]
    rcases List.mem_cons.1 h with rfl | h
    · exact .inl hn
    · exact .inr (weightsAll_mem hn h)
theorem Within.elem {H : Type} {t e : TypeId} {elems spare : List (DataW H)} {d : DataW H} (h : Within t (.slice elems spare)) (ht : Tryd.prog.underlying t = some (.slice e)) (hd : d ∈ elems) : Within e d := by
  intro n hn
  refine h n ?_
  rw [DataW.weights, ht]
  exact List.mem_cons_of_mem _ (List.mem_append_left _ (weightsAll_mem hn hd))
theorem Within.len {H : Type} {t e : TypeId} {elems spare : List (DataW H)} (h : Within t (.slice elems spare)) (ht : Tryd.prog.underlying t = some (.slice e)) : (elems.length + spare.length) * Tryd.prog.bytesOf e ≤ reachBytes := by
  refine h _ ?_
  rw [DataW.weights, ht]
  exact List.mem_cons_self

theorem Within.str {H : Type} {t : TypeId} {b : List UInt8} (h : Within (H := H) t (.lit (.string b))) : b.length ≤ reachBytes := h _ (by simp [DataW.weights])

section
variable {H : Type} {enc : TypeId × Value → H} {w : World} {held : Bool} {d : DataW H} {p : List MemPlace}
theorem open_data {x : Value} {n : Nat} (h : DataW.trod enc Tryd.prog w 0 (fun _ => true) held n 29 [x] = some (d, p)) : ∃ (y : Bs) (a : Option Addr) (c : Nat), x = .slice a y.length c ∧ (Bys w a y ∧ y.length ≤ c ∧ c ≤ 9223372036854775807 ∧ (a = none → c = 0)) ∧ (Within 29 d → y.length ≤ reachBytes) := by
  have hs : ∃ a l c, x = .slice a l c ∧ (a = none → c = 0) ∧ (Within 29 d → l ≤ reachBytes) := by
    rcases open_ints Tryd.underlying29 Tryd.underlying5 (by kernel_rfl) h with ⟨hcs, hx⟩ | ⟨x', l', c', zs, hcs, _, hl, hm, hz, hx, _⟩
    · simp at hcs; exact ⟨none, 0, 0, hcs, fun _ => rfl, fun _ => Nat.zero_le _⟩
    · simp at hcs
      refine ⟨some x', l', c', hcs, (fun h => by cases h), fun hw => ?_⟩
      simp only [Prod.mk.injEq] at hx
      rw [hx.1] at hw
      have := hw.len Tryd.underlying29
      rw [u8Bytes] at this
      have hz' : zs.length = c' := by simpa using hz
      simp only [lits, List.length_map, List.length_take] at this
      omega
  obtain ⟨a, l, c, rfl, hn, hw⟩ := hs
  obtain ⟨y, rfl, hB, hlc, hcm⟩ := open_bys (d := d) (p := p) ⟨n, by simpa [Value.cells] using h⟩
  exact ⟨y, a, c, rfl, ⟨hB, hlc, hcm, hn⟩, hw⟩


theorem open_bytes {r0 : Reach} {b0 : Nat} {v : Value} (hv : Value.okWide Tryd.prog w r0 b0 29 v) (h : DataW.Trod enc Tryd.prog w 0 (fun _ => true) held 29 v d p) :
    ∃ (l : Bs) (A : Option Addr) (c : Nat), v = .slice A l.length c ∧ Sl w A c l ∧ (Within 29 d → l.length ≤ reachBytes) := by
  obtain ⟨a, len, c, rfl⟩ := okWide_slice Tryd.underlying29 hv
  obtain ⟨n, hf⟩ := h
  obtain ⟨y, A, c', he, ⟨h1, h2, h3, h4⟩, hw⟩ := open_data (x := .slice a len c) (n := n) (by simpa [Value.cells] using hf)
  exact ⟨y, A, c', he, ⟨h1, h2, h3, h4⟩, hw⟩
end
end Go.Proofs.YtknpkifhkefikaaDoor
namespace Go.Proofs.YtknpkifhkefikaaDoor
open Go.ChangeShapes Go.WideShapes Go.ChangeAt Go.RowKit Go.Deep
set_option linter.unusedVariables false
set_option maxRecDepth 100000

section
variable {H : Type} {enc : TypeId × Value → H} {w : World} {held : Bool} {d : DataW H} {p : List MemPlace}
theorem open_nts {r0 : Reach} {b0 : Nat} {v : Value} (hv : Value.okWide Tryd.prog w r0 b0 54 v) (h : DataW.Trod enc Tryd.prog w 0 (fun _ => true) held 54 v d p) :
    ∃ (l : List Int) (A : Option Addr) (c : Nat), v = .slice A l.length c ∧ Nts w A l ∧ (l.length ≤ c ∧ c ≤ 9223372036854775807) ∧ ∀ z ∈ l, -9223372036854775808 ≤ z ∧ z ≤ 9223372036854775807 := by
  obtain ⟨a, len, cap, rfl⟩ := okWide_slice Tryd.underlying54 hv
  obtain ⟨fuel, hf⟩ := h
  rcases open_ints Tryd.underlying54 Tryd.underlying3 (by kernel_rfl) hf with ⟨hcs, _⟩ | ⟨x, l, c, zs, hcs, _, hl, hm, hz, _, hcell, hwz⟩
  · simp [Value.cells] at hcs
    obtain ⟨rfl, rfl, rfl⟩ := hcs
    exact ⟨[], none, 0, rfl, fun h => absurd h (by simp), by simp, fun z hz => by cases hz⟩
  · simp [Value.cells] at hcs
    obtain ⟨rfl, rfl, rfl⟩ := hcs
    have hz' : zs.length = cap := by simpa using hz
    have hln : (zs.take len).length = len := by simp; omega
    refine ⟨zs.take len, some x, cap, by rw [hln], fun h0 => ?_, by rw [hln]; exact ⟨hl, by unfold maxLen at hm; omega⟩, fun z hz => ?_⟩
    · obtain ⟨b, off, rfl, hc⟩ := ints_at hcell (by omega)
      refine ⟨b, off, rfl, fun j hj => ?_⟩
      have hj' : j < len := by omega
      rw [hc j (by omega), List.getD_eq_getElem?_getD]
      have hjz : j < zs.length := by omega
      rw [List.getElem?_eq_getElem hjz, Option.getD_some]
      simp
    · have := hwz z (List.mem_of_mem_take hz)
      simp only [Lit.wf, Bool.and_eq_true, decide_eq_true_eq] at this
      exact this
end
end Go.Proofs.YtknpkifhkefikaaDoor
