/-
  Bytes that come in, as the names' laws want them.
-/
import Derived.Test.YtjhmjokmjoldkaaGreatDoorNmJ
import Derived.Test.YtjhmjokmjoldkaaGreatDoorRows
import Derived.ProofKit
import Derived.OpenShut
import Derived.ShutString
import Derived.ChangeOld
namespace Go.Proofs.YtjhmjokmjoldkaaGreatDoor
open Go.ChangeShapes Go.WideShapes Go.ChangeAt Go.RowKit

theorem own : ownKnob Tryz.prog.godebug = none := by kernel_rfl
theorem laidOut : laidOutB Tryz.prog = true := by kernel_rfl

section
variable {H : Type} {enc : TypeId × Value → H} {w : World} {held : Bool} {a : Option Addr} {len cap : Nat} {d : DataW H} {p : List MemPlace}
theorem open_bys (h : DataW.Trod enc Tryz.prog w 0 (fun _ => true) held 22 (.slice a len cap) d p) : ∃ l : Bs, l.length = len ∧ Bys w a l ∧ len ≤ cap ∧ cap ≤ 9223372036854775807 := by
  obtain ⟨fuel, hf⟩ := h
  rcases open_ints Tryz.underlying22 Tryz.underlying5 (by kernel_rfl) hf with ⟨hcs, _⟩ | ⟨x, l, c, zs, hcs, _, hl, hm, hz, _, hcell, hwz⟩
  · simp [Value.cells] at hcs
    obtain ⟨rfl, rfl, rfl⟩ := hcs
    exact ⟨[], rfl, fun h => absurd h (by simp), by omega, by omega⟩
  · simp [Value.cells] at hcs
    obtain ⟨rfl, rfl, rfl⟩ := hcs
    have hz' : zs.length = cap := by simpa using hz
    have hln : ((zs.take len).map (fun n : Int => UInt8.ofNat n.toNat)).length = len := by simp; omega
    refine ⟨(zs.take len).map (fun n : Int => UInt8.ofNat n.toNat), hln, fun h0 => ?_, hl, by unfold maxLen at hm; omega⟩
    obtain ⟨b, off, rfl, hc⟩ := ints_at hcell (by omega)
    refine ⟨b, off, rfl, fun j hj => ?_⟩
    have hj' : j < len := by omega
    rw [hc j (by omega)]
    have hr := range_u8 hwz j
    rw [List.getD_eq_getElem?_getD]
    simp only [List.getElem_map, List.getElem_take]
    have hjz : j < zs.length := by omega
    rw [List.getElem?_eq_getElem hjz] at hr ⊢
    simp only [Option.getD_some] at hr ⊢
    congr 2
    simp; omega
end
end Go.Proofs.YtjhmjokmjoldkaaGreatDoor
