/-
  The landed disk's add: a file is put in under a name.
-/
import Derived.Test.YtcnnifogppabdaaFlD
import Derived.Deep.RegionWith
import Derived.Deep.RegionHeld3
namespace Go.Proofs.Ytcnnifogppabdaa
open Go.RowKit
set_option linter.unusedVariables false
set_option maxRecDepth 100000

/-- The world behind a store into the disk's map. -/
noncomputable def updW (m g : Nat) (n : Bs) (w : World) : World := match (Instr.mapUpdate 63 (.map (some m)) (.string (bs n)) (.pointer (some ⟨g, 0, none⟩))).run Try.prog w with
  | .ok _ w' => w'
  | .halt _ w' => w'
/-- The layout with a file more. -/
def Ly.more (y : Ly) (n : Bs) (g : Nat) (v' : Value) : Ly := { y with fb := fun m => if m = n then g else y.fb m, v := fun m => if m = n then v' else y.v m, N := y.N + 1 }
structure NewF (y : Ly) (D : Dk) (n : Bs) (g : Nat) (v' : Value) (d' : Bs) (s' : Nat) (w : World) : Prop where
  none : find D.S n = none
  m : y.N < maxLen
  l : n.length ≤ 281474976710656
  file : w.heap[g]? = some (.cells #[v', .int .i64 s'] 76 (0, 0))
  row : w.ownsRow 0 5 1 v' d'.length (d'.map byteV)
  g : ∀ f ∈ D.S, y.fb f.n ≠ g
  v : ∀ f ∈ D.S, ∀ k, v'.ownBlock = some k → (y.v f.n).ownBlock ≠ some k
theorem updW_is {y : Ly} {D : Dk} {u : Int} {n : Bs} {g : Nat} {v' : Value} {d' : Bs} {s' : Nat} {w w' : World} (h : DiskU y D u w) (hF : NewF y D n g v' d' s' w) (hB : Below w.heap.size w w') :
    (Instr.mapUpdate 63 (.map (some y.m)) (.string (bs n)) (.pointer (some ⟨g, 0, none⟩))).run Try.prog w' = .ok () (updW y.m g n w') ∧ w'.grownBy (updW y.m g n w') (some y.m) ∧ DiskU (y.more n g v') { D with S := ins D.S ⟨n, d', s'⟩ } u (updW y.m g n w') := by
  have h' := h.below hB
  have f1 := (hB.block g (some_lt hF.file)).trans hF.file
  have f2 : w'.ownsRow 0 5 1 v' d'.length (d'.map byteV) := row_block hF.row fun k e => by
    obtain ⟨c, hc⟩ := row_lt hF.row e
    exact hB.block k (some_lt hc)
  obtain ⟨w2, hrun, hgr, hD⟩ := h'.onNew hF.none hF.m (by have := hF.l; unfold maxLen; omega) f1 f2 hF.g hF.v
  have e : updW y.m g n w' = w2 := by unfold updW; rw [hrun]
  rw [e]
  exact ⟨hrun, hgr, hD⟩
set_option maxHeartbeats 1000000 in
theorem add_any {y : Ly} {D : Dk} {u : Int} {n : Bs} {g : Nat} {v' : Value} {d' : Bs} {s' : Nat} (w : World) (h : DiskU y D u w) (hF : NewF y D n g v' d' s' w) :
    Calls Try.prog 54 #[.pointer (some ⟨y.p, 0, none⟩), .string (bs n), .pointer (some ⟨g, 0, none⟩)] w fun e w' => e = .returned (.tuple #[]) ∧ DiskU (y.more n g v') { D with S := ins D.S ⟨n, d', s'⟩ } u w' ∧ Only (fun k => k = y.m) w w' := by
  have c0 : w.cell? ⟨y.p, 0, none⟩ = some (.map (some y.m)) := h.cells.1
  have c1 : ∀ w', Below w.heap.size w.drew w' → w'.cell? ⟨y.p, 0, none⟩ = some (.map (some y.m)) := fun w' hB => (h.drew.below hB).cells.1
  have c2 : ∀ w', Below w.heap.size w.drew w' → (updW y.m g n w').cell? ⟨y.p, 0, none⟩ = some (.map (some y.m)) := fun w' hB => (updW_is (w' := w') h hF ⟨hB.os, hB.tape, hB.output, hB.size, hB.block⟩).2.2.cells.1
  have fu : ∀ w', Below w.heap.size w.drew w' → (Instr.mapUpdate 63 (.map (some y.m)) (.string (bs n)) (.pointer (some ⟨g, 0, none⟩))).run Try.prog w' = .ok () (updW y.m g n w') := fun w' hB => (updW_is h hF ⟨hB.os, hB.tape, hB.output, hB.size, hB.block⟩).1
  have fin := Lib.hid (fun w' (hB : Below w.heap.size w.drew w') => (updW_is (w' := w') h hF ⟨hB.os, hB.tape, hB.output, hB.size, hB.block⟩).2)
  have K := Lib.hid (fun W => clone_any n W hF.l)
  have c0d : w.drew.cell? ⟨y.p, 0, none⟩ = some (.map (some y.m)) := c0
  clear h hF
  go_enter Try.func54, Try.ntmps54
  go_wp2_with fail
  go_region_held3 (fun w' => w'.cell? ⟨y.p, 0, none⟩ = some (.map (some y.m)))
    (first | assumption | exact c1 _ (by assumption) | exact c2 _ (by assumption))
    (first
      | (go_at_call 62; (with_reducible refine (K.out _).mono ?_); rintro e w' ⟨rfl, hBx⟩; replace hBx : Below w.heap.size w.drew w' := hBx))
  go_wp2_with fail
  go_end0
  obtain ⟨hg, hD⟩ := fin.out _ hBx
  refine ⟨rfl, hD, ?_⟩
  exact (Only.of_below (a := w) (b := w') ⟨hBx.os, hBx.tape, hBx.output, hBx.size, hBx.block⟩).grown hg fun k e => by injection e with e; exact .inl e.symm
end Go.Proofs.Ytcnnifogppabdaa
