/-
  Bytes, and lists of texts, that come in: how great they can be.
-/
import Derived.Test.YtjhmjokmjoldkaaGreatDoorNmP
import Derived.Test.YtjhmjokmjoldkaaGreatDoorSl
import Derived.Deep.Slices
import Derived.Deep.Fields
import Derived.SizedLaws
namespace Go.Proofs.YtjhmjokmjoldkaaGreatDoor
open Go.ChangeShapes Go.WideShapes Go.ChangeAt Go.RowKit Go.Deep
set_option linter.unusedVariables false
set_option maxRecDepth 100000

theorem slCells : Tryz.prog.cellsOf 22 = 1 := by kernel_rfl
theorem u8Bytes : Tryz.prog.bytesOf 5 = 1 := by kernel_rfl
theorem slBytes : Tryz.prog.bytesOf 22 = 24 := by kernel_rfl
theorem add_zero' (a : Addr) : a.add 0 = a := by
  obtain ⟨b, o, v⟩ := a
  unfold Addr.add
  split <;> simp_all
theorem of_two {α : Type} (l : List α) (h : l.length = 2) : ∃ a b, l = [a, b] := by
  match l, h with
  | [a, b], _ => exact ⟨a, b, rfl⟩
/-- All that a datum weighs is within reach. -/
def Within {H : Type} (t : TypeId) (d : DataW H) : Prop := ∀ n ∈ d.weights Tryz.prog t, n ≤ reachBytes
theorem Within.part {H : Type} {t u : TypeId} {parts : List (DataW H)} {fs : Array Field} {i : Nat} {d : DataW H} (h : Within t (.agg parts)) (ht : Tryz.prog.underlying t = some (.struct fs)) (hu : (fs.toList.map (·.type))[i]? = some u) (hd : parts[i]? = some d) : Within u d := by
  intro n hn
  refine h n ?_
  rw [DataW.weights, ht]
  exact DataW.weights_mem_each hu hd n hn
theorem weightsAll_mem {H : Type} {e : TypeId} {d : DataW H} {n : Nat} (hn : n ∈ d.weights Tryz.prog e) : ∀ {l : List (DataW H)}, d ∈ l → n ∈ DataW.weightsAll Tryz.prog e l
  | x :: l, h => by
    rw [DataW.weightsAll, List.mem_append]
    rcases List.mem_cons.1 h with rfl | h
    · exact .inl hn
    · exact .inr (weightsAll_mem hn h)
theorem Within.elem {H : Type} {t e : TypeId} {elems spare : List (DataW H)} {d : DataW H} (h : Within t (.slice elems spare)) (ht : Tryz.prog.underlying t = some (.slice e)) (hd : d ∈ elems) : Within e d := by
  intro n hn
  refine h n ?_
  rw [DataW.weights, ht]
  exact List.mem_cons_of_mem _ (List.mem_append_left _ (weightsAll_mem hn hd))
theorem Within.len {H : Type} {t e : TypeId} {elems spare : List (DataW H)} (h : Within t (.slice elems spare)) (ht : Tryz.prog.underlying t = some (.slice e)) : (elems.length + spare.length) * Tryz.prog.bytesOf e ≤ reachBytes := by
  refine h _ ?_
  rw [DataW.weights, ht]
  exact List.mem_cons_self

theorem Within.str {H : Type} {t : TypeId} {b : List UInt8} (h : Within (H := H) t (.lit (.string b))) : b.length ≤ reachBytes := h _ (by simp [DataW.weights])

section
variable {H : Type} {enc : TypeId × Value → H} {w : World} {held : Bool} {d : DataW H} {p : List MemPlace}
theorem open_data {x : Value} {n : Nat} (h : DataW.trod enc Tryz.prog w 0 (fun _ => true) held n 22 [x] = some (d, p)) : ∃ (y : Bs) (a : Option Addr) (c : Nat), x = .slice a y.length c ∧ (Bys w a y ∧ y.length ≤ c ∧ c ≤ 9223372036854775807 ∧ (a = none → c = 0)) ∧ (Within 22 d → y.length ≤ reachBytes) := by
  have hs : ∃ a l c, x = .slice a l c ∧ (a = none → c = 0) ∧ (Within 22 d → l ≤ reachBytes) := by
    rcases open_ints Tryz.underlying22 Tryz.underlying5 (by kernel_rfl) h with ⟨hcs, hx⟩ | ⟨x', l', c', zs, hcs, _, hl, hm, hz, hx, _⟩
    · simp at hcs; exact ⟨none, 0, 0, hcs, fun _ => rfl, fun _ => Nat.zero_le _⟩
    · simp at hcs
      refine ⟨some x', l', c', hcs, (fun h => by cases h), fun hw => ?_⟩
      simp only [Prod.mk.injEq] at hx
      rw [hx.1] at hw
      have := hw.len Tryz.underlying22
      rw [u8Bytes] at this
      have hz' : zs.length = c' := by simpa using hz
      simp only [lits, List.length_map, List.length_take] at this
      omega
  obtain ⟨a, l, c, rfl, hn, hw⟩ := hs
  obtain ⟨y, rfl, hB, hlc, hcm⟩ := open_bys (d := d) (p := p) ⟨n, by simpa [Value.cells] using h⟩
  exact ⟨y, a, c, rfl, ⟨hB, hlc, hcm, hn⟩, hw⟩


theorem open_bytes {r0 : Reach} {b0 : Nat} {v : Value} (hv : Value.okWide Tryz.prog w r0 b0 22 v) (h : DataW.Trod enc Tryz.prog w 0 (fun _ => true) held 22 v d p) :
    ∃ (l : Bs) (A : Option Addr) (c : Nat), v = .slice A l.length c ∧ Sl w A c l ∧ (Within 22 d → l.length ≤ reachBytes) := by
  obtain ⟨a, len, c, rfl⟩ := okWide_slice Tryz.underlying22 hv
  obtain ⟨n, hf⟩ := h
  obtain ⟨y, A, c', he, ⟨h1, h2, h3, h4⟩, hw⟩ := open_data (x := .slice a len c) (n := n) (by simpa [Value.cells] using hf)
  exact ⟨y, A, c', he, ⟨h1, h2, h3, h4⟩, hw⟩
end
end Go.Proofs.YtjhmjokmjoldkaaGreatDoor
