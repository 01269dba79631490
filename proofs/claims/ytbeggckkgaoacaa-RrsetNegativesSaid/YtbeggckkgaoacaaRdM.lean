/-
  The document's Make (layer 3).
-/
import Derived.Test.YtbeggckkgaoacaaRdN
import Derived.Test.YtbeggckkgaoacaaGb
namespace Go.Proofs.Ytbeggckkgaoacaa
open Go.RowKit
set_option linter.unusedVariables false
set_option maxRecDepth 100000

def fit (n : Int) : Bool := decide (0 ≤ n) && decide (n < 4294967296)
def putL (V : List Int) : Bs := V.flatMap fun n => fourB n.toNat
def soaV (m r : Bs) (V : List Int) : Value := .agg (#[.string (bs m), .string (bs r)] ++ (V.map (Value.int .i64)).toArray)
def makes (m r : Bs) (V : List Int) : Bool := can m && (can r && V.all fit)
def MakePost (w : World) (m r : Bs) (V : List Int) (e : Ending) (w' : World) : Prop :=
  Below w.heap.size w w' ∧ ((makes m r V = false ∧ e = .returned (.tuple #[.slice none 0 0, .int .i64 1])) ∨
    (makes m r V = true ∧ ∃ v, e = .returned (.tuple #[v, .int .i64 0]) ∧ OwnB w' w.heap.size v (m ++ r ++ putL V)))

theorem putL_snoc (V : List Int) (n : Int) : putL (V ++ [n]) = putL V ++ fourB n.toNat := by simp [putL]
theorem putL_len (V : List Int) : (putL V).length = 4 * V.length := by induction V with
  | nil => rfl
  | cons n V ih => simp [putL, fourB] at ih ⊢; omega

theorem OwnB.ne {w : World} {base G : Nat} {v : Value} {l : Bs} {x : Int} (h : OwnB w base v l) (hl : 0 < l.length) (hc : w.cell? ⟨G, 0, none⟩ = some (.int .i64 x)) : v.ownBlock ≠ some G := by
  rcases h with ⟨_, rfl⟩ | ⟨g, cap, rfl, _, _, _, _, hcs, _⟩
  · simp at hl
  · intro he
    simp [Value.ownBlock] at he
    subst he
    have := (hcs 0 hl).symm.trans hc
    injection this with this
    unfold byteV at this
    injection this with h1 _
    cases h1
theorem kept_block {w w' : World} {r : Option Nat} {g : Nat} {o : Obj} (h : w.grownBy w' r) (hg : w.heap[g]? = some o) (hne : r ≠ some g) : w'.heap[g]? = some o := (h.block g (Array.getElem?_eq_some_iff.1 hg).1 (fun e => hne e.symm)).trans hg
theorem alloc_block {w : World} {g : Nat} {o o' : Obj} (hg : w.heap[g]? = some o) : (w.alloc o').heap[g]? = some o := kept_block (r := none) (World.grownBy_alloc w o' none) hg (by simp)
theorem makes_no {m r : Bs} {V : List Int} {k : Nat} (hk : k < V.length) (h : fit V[k] = false) : makes m r V = false := by
  unfold makes
  have : V.all fit = false := by
    rw [List.all_eq_false]
    exact ⟨_, List.getElem_mem hk, by simp [h]⟩
  rw [this]; simp

end Go.Proofs.Ytbeggckkgaoacaa
