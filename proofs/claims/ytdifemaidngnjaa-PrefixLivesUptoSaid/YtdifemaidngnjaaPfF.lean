/-
  What is asked of the program's reader of frames: New, Feed, Left, Encode.
-/
import Derived.Test.YtdifemaidngnjaaPfE
namespace Go.Proofs.Ytdifemaidngnjaa
open Go.RowKit
set_option linter.unusedVariables false
set_option maxRecDepth 100000

abbrev RdrP := World → (Nat → Prop) → Value → Bs → Prop
def NewP (PR : RdrP) (w : World) (e : Ending) (w' : World) : Prop := ∃ p F, e = .returned p ∧ PR w' F p [] ∧ Below w.heap.size w w' ∧ ∀ k, F k → w.heap.size ≤ k
def FeedP (PR : RdrP) (w : World) (F : Nat → Prop) (p : Value) (x b : Bs) (e : Ending) (w' : World) : Prop := ∃ v F', e = .returned v ∧ TxS w' (fun k => F' k ∨ (k < w.heap.size ∧ ¬ F k)) v (feedP (x ++ b)).1 ∧ PR w' F' p (feedP (x ++ b)).2 ∧ Mod F w w' ∧ ∀ k, F' k → F k ∨ w.heap.size ≤ k
structure PfI (PR : RdrP) : Prop where
  mod : ∀ {S F : Nat → Prop} {w w1 : World} {p : Value} {x : Bs}, PR w F p x → Mod S w w1 → (∀ i, F i → ¬ S i) → PR w1 F p x
  lt : ∀ {F : Nat → Prop} {w : World} {p : Value} {x : Bs}, PR w F p x → ∀ k, F k → k < w.heap.size
  new : ∀ w : World, Calls Try.prog 9 #[] w (NewP PR w)
  feed : ∀ {F : Nat → Prop} {p : Value} {x b : Bs} {A : Option Addr} {c : Nat} {w : World}, PR w F p x → Sl w A c b → Off F A → x.length + b.length ≤ 4398046511104 → Calls Try.prog 12 #[p, .slice A b.length c] w (FeedP PR w F p x b)
  left : ∀ {F : Nat → Prop} {p : Value} {x : Bs} {w : World}, PR w F p x → Calls Try.prog 14 #[p] w fun e w' => e = .returned (.int .i64 x.length) ∧ Below w.heap.size w w'
  enc : ∀ (A : Option Addr) (b : Bs) (c : Nat) (w : World), Sl w A c b → Calls Try.prog 16 #[.slice A b.length c] w (EncF w b)
theorem PfI.on {PR : RdrP} (I : PfI PR) {F : Nat → Prop} {w w1 : World} {p : Value} {x : Bs} (h : PR w F p x) (k : Below w.heap.size w w1) : PR w1 F p x := I.mod (S := fun _ => False) h (Mod.below k) (fun _ _ e => e)
end Go.Proofs.Ytdifemaidngnjaa
