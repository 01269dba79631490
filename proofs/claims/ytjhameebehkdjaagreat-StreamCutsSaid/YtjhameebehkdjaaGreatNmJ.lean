/-
  The document's Join, and the statements' Name.
-/
import Derived.Test.YtjhameebehkdjaaGreatNmM
import Derived.Test.YtjhameebehkdjaaGreatNmW
import Derived.Laws.IdiomStrings
import Derived.LoopTactic
import Derived.OwnWalk
import Derived.Deep.AppendLies
namespace Go.Proofs.YtjhameebehkdjaaGreat
open Go.RowKit

/-- A slice of strings reads as a list. -/
def Strs (w : World) (A : Option Addr) (L : List Bs) : Prop := 0 < L.length → ∃ g off, A = some ⟨g, off, none⟩ ∧ ∀ j (h : j < L.length), w.cell? ⟨g, off + j, none⟩ = some (.string (bs L[j]))
theorem Strs.on {w w1 : World} {A : Option Addr} {L : List Bs} (h : Strs w A L) (hB : Below w.heap.size w w1) : Strs w1 A L := fun hn => by
  obtain ⟨g, off, e, hc⟩ := h hn
  exact ⟨g, off, e, fun j hj => (hB.cell (p := ⟨g, off + j, none⟩) (World.block_lt_of_cell? w _ (hc j hj))).trans (hc j hj)⟩

theorem one_string (w : World) (n : Nat) (h : n ≤ 63) : (convert 29 9 (.slice (some ⟨w.heap.size, 0, none⟩) 1 1)).run Tryz.prog (w.alloc (Obj.cells #[.int .u8 n] 5 (0, 0))) = .ok (.string (bs [UInt8.ofNat n])) (w.alloc (Obj.cells #[.int .u8 n] 5 (0, 0))) :=
  run_convert_bytes_back (P := Tryz.prog) _ 29 9 5 ⟨w.heap.size, 0, none⟩ 1 [UInt8.ofNat n] Tryz.underlying29 Tryz.underlying5 Tryz.underlying9 (fun j hj => by
    have : j = 0 := by simp at hj; omega
    subst this
    have e : (UInt8.ofNat n).toNat = n := by simp; omega
    refine (cell_of_row _ _ _ _ _ _ (row_new _ rfl)).trans ?_
    simp; omega)

theorem enc_short : ∀ {L : List Bs}, (∀ x ∈ L, x.length ≤ 63) → (enc L).length ≤ 64 * L.length
  | [], _ => by simp [enc]
  | x :: L, h => by
    have := enc_short (L := L) fun y hy => h y (by simp [hy])
    have := h x (by simp)
    rw [enc_len_cons]
    simp; omega
theorem enc_one (x : Bs) : enc [x] = UInt8.ofNat x.length :: x := by simp [enc]

/-- A slice of bytes reads as a list. -/
def Bys (w : World) (A : Option Addr) (l : Bs) : Prop := 0 < l.length → ∃ g off, A = some ⟨g, off, none⟩ ∧ ∀ j (h : j < l.length), w.cell? ⟨g, off + j, none⟩ = some (.int .u8 (l[j]).toNat)
theorem Bys.on {w w1 : World} {A : Option Addr} {L : Bs} (h : Bys w A L) (hB : Below w.heap.size w w1) : Bys w1 A L := fun hn => by
  obtain ⟨g, off, e, hc⟩ := h hn
  exact ⟨g, off, e, fun j hj => (hB.cell (p := ⟨g, off + j, none⟩) (World.block_lt_of_cell? w _ (hc j hj))).trans (hc j hj)⟩

def tab (r : Nat) : Bs := match r with
  | 0 => [97]
  | 1 => [98]
  | 2 => [119, 119, 119]
  | 3 => [110, 115]
  | 4 => [65]
  | _ => [120, 45, 49]
def nameOf (l : Bs) : List Bs := (l.take 4).map fun c => tab (c.toNat % 6)
theorem tab_lab (r : Nat) : Lab (tab r) := by
  unfold tab Lab
  split <;> decide
theorem nameOf_lab (l : Bs) : ∀ x ∈ nameOf l, Lab x := by
  intro x hx
  obtain ⟨c, _, rfl⟩ := List.mem_map.1 hx
  exact tab_lab _

theorem info_str : (Tryz.prog.info? 9).map (fun i => (i.zero, i.size, i.bytes)) = some (some (.string ⟨#[]⟩), 1, 16) := by kernel_rfl
theorem own_strs {w : World} {B : Nat} {A : Option Addr} {n c : Nat} {L : List Bs} (h : w.ownsRow B 9 1 (.slice A n c) n (L.map fun x => .string (bs x))) : n = L.length ∧ Strs w A L := by
  have hl := h.1
  simp at hl
  refine ⟨hl.symm, fun hn => ?_⟩
  rcases h.2 with ⟨_, h0⟩ | ⟨g, cap, cur, hv, _, hh, _, _, hsz, ht⟩
  · omega
  · have hA : A = some ⟨g, 0, none⟩ := by injection hv
    subst hA
    refine ⟨g, 0, rfl, fun j hj => ?_⟩
    refine (cell_of_row _ _ _ _ _ _ hh).trans ?_
    have e := congrArg (fun x => x[j]?) ht
    simp [hj] at e
    rw [List.getElem?_take_of_lt (by omega)] at e
    simpa using e


end Go.Proofs.YtjhameebehkdjaaGreat
