/-
  The library's functions on texts, by their contracts, over lists of bytes.
-/
import Derived.Test.YtjhameebehkdjaaGreatDoorSh
import Derived.Test.YtjhameebehkdjaaGreatDoorMo
namespace Go.Proofs.YtjhameebehkdjaaGreatDoor
open Go.RowKit Go.Shelf
set_option linter.unusedVariables false
set_option maxRecDepth 100000

/-- The library's own number is there. -/
def MaxL (w : World) : Prop := ∃ m, w.cell? ⟨Tryz.lays146_ren.g 1, 0, none⟩ = some (.int .i64 m)
theorem MaxL.of {w : World} (h : w.ShapedOpen Tryz.prog) : MaxL w := Tryz.laysM146.s1_3 w h
theorem MaxL.lt {w : World} (h : MaxL w) : Tryz.lays146_ren.g 1 < w.heap.size := by
  obtain ⟨m, hm⟩ := h
  exact World.block_lt_of_cell? w _ hm
theorem MaxL.on {w w1 : World} (h : MaxL w) (k : Below w.heap.size w w1) : MaxL w1 := by
  obtain ⟨m, hm⟩ := h
  exact ⟨m, cell_on hm k⟩
theorem MaxL.mod {S : Nat → Prop} {w w1 : World} (h : MaxL w) (k : Mod S w w1) (hs : ¬ S (Tryz.lays146_ren.g 1)) : MaxL w1 := by
  obtain ⟨m, hm⟩ := h
  exact ⟨m, k.cell hm hs⟩
theorem below_ofDrewN (w : World) (n : Nat) : Below w.heap.size w (w.drewN n) := below_drewN (Below.refl _ _) n

theorem split_any (s sep : Bs) (w : World) (hm : MaxL w) (hs : s.length < 4294967281) (h1 : 1 ≤ sep.length) :
    Calls Tryz.prog 105 #[.string (bs s), .string (bs sep)] w fun e w' => e = .returned (.slice (some ⟨w.heap.size, 0, none⟩) (Lib.split s sep).length (Lib.split s sep).length) ∧ w' = w.alloc (.cells ((Lib.split s sep).map fun x => Value.string (bs x)).toArray 9) := by
  obtain ⟨m, hm⟩ := hm
  have c := Any.strings_Split Tryz.lays146 (by kernel_rfl) (bs s) (bs sep) m w (by rw [bs_size]; exact hs) hm (by rw [bs_size]; exact h1)
  have e1 : Lib.countB (bs s) (bs sep) = Lib.count s sep := rfl
  have e2 : (Lib.splitB (bs sep) 0 (Lib.countB (bs s) (bs sep)) (bs s)).map (·.data.toList) = Lib.split s sep := by rw [Lib.splitB_data, e1]; rfl
  have e3 : Lib.splitB (bs sep) 0 (Lib.countB (bs s) (bs sep)) (bs s) = (Lib.split s sep).map (fun x => bs x) := by
    rw [← e2, List.map_map]
    conv => lhs; rw [← List.map_id (Lib.splitB (bs sep) 0 (Lib.countB (bs s) (bs sep)) (bs s))]
    exact List.map_congr_left fun x _ => by cases x; rfl
  have e4 : Lib.countB (bs s) (bs sep) + 1 = (Lib.split s sep).length := by
    rw [← Lib.splitB_all (bs sep) (by rw [bs_size]; exact h1) 0 _ (bs s) rfl, e3, List.length_map]
  rw [e3, e4, List.map_map] at c
  exact c
theorem cut_any (s sep : Bs) (w : World) (hm : MaxL w) (hs : s.length < 4294967281) :
    Calls Tryz.prog 110 #[.string (bs s), .string (bs sep)] w fun e w' => e = .returned (.tuple #[.string (bs (Lib.cut s sep).1), .string (bs (Lib.cut s sep).2.1), .bool (Lib.cut s sep).2.2]) ∧ Below w.heap.size w w' := by
  obtain ⟨m, hm⟩ := hm
  refine (Any.strings_Cut Tryz.lays145 (bs s) (bs sep) m w (by rw [bs_size]; exact hs) hm).mono ?_
  rintro e w' ⟨h1, n, h2⟩
  exact ⟨h1, by rw [h2]; exact below_ofDrewN w n⟩
theorem trimSuffix_any (s p : Bs) (w : World) (hs : s.length ≤ 9223372036854775807) : Calls Tryz.prog 106 #[.string (bs s), .string (bs p)] w fun e w' => e = .returned (.string (bs (Lib.trimSuffix s p))) ∧ w' = w :=
  Any.strings_TrimSuffix Tryz.lays102 (bs s) (bs p) w (by rw [bs_size]; exact hs)
theorem trim_any (s cs : Bs) (w : World) (hs : s.length ≤ 9223372036854775807) (hc : cs.length < 4294967281) (ha : cs.all (fun b => decide (b.toNat < 128)) = true) : Calls Tryz.prog 34 #[.string (bs s), .string (bs cs)] w fun e w' => e = .returned (.string (bs (Lib.trimS s cs))) ∧ Below w.heap.size w w' :=
  Any.strings_Trim_laid Tryz.lays160 (by kernel_rfl) (bs s) (bs cs) w (by rw [bs_size]; exact hs) (by rw [bs_size]; exact hc) (ascii_of_all ha)
theorem toLower_any (s : Bs) (w : World) (hs : s.length ≤ 140737488355328) (ha : ∀ b ∈ s, b.toNat < 128) : Calls Tryz.prog 113 #[.string (bs s)] w fun e w' => e = .returned (.string (bs (Lib.toLowerA s))) ∧ Below w.heap.size w w' :=
  Any.strings_ToLower_ascii Tryz.lays159 Tryz.Builder_Extra_159 (bs s) w (by rw [bs_size]; exact hs) (fun j b hb => ha b (List.mem_of_getElem? hb))
/-- Bytes as the library's words have them. -/
def numsI (l : Bs) : List Int := l.map fun b => (b.toNat : Int)
theorem numsI_bytes (l : Bs) : Lib.bytesOf (numsI l) = l := by
  unfold Lib.bytesOf numsI
  rw [List.map_map]
  conv => rhs; rw [← List.map_id l]
  exact List.map_congr_left fun b _ => by simp
theorem Sl.bytesIn {w : World} {A : Option Addr} {c : Nat} {l : Bs} (h : Sl w A c l) : Lib.BytesIn w A l.length (numsI l) := fun hn => by
  obtain ⟨b, o, hA, hc⟩ := h.bys hn
  refine ⟨b, o, hA, fun i hi => ?_⟩
  rw [hc i hi]
  simp [numsI, hi]
theorem hasSuffix_any (A1 A2 : Option Addr) (x y : Bs) (c d : Nat) (w : World) (h1 : Sl w A1 c x) (h2 : Sl w A2 d y) : Calls Tryz.prog 102 #[.slice A1 x.length c, .slice A2 y.length d] w fun e w' => e = .returned (.bool (Lib.hasSuffix x y)) ∧ w' = w := by
  have c := Any.bytes_HasSuffix_all Tryz.laysnb117 A1 A2 x.length c y.length d (numsI x) (numsI y) w (by simp [numsI]) (by simp [numsI]) h1.le (Nat.le_trans h1.le h1.max) h1.bytesIn h2.bytesIn
  rw [numsI_bytes, numsI_bytes] at c
  exact c
end Go.Proofs.YtjhameebehkdjaaGreatDoor
