/-
  header.Encode by a contract: appendNumber, then the whole.
-/
import Derived.Test.YtgfahkgnblkhaaaGreatDoorHdA
import Derived.Test.YtgfahkgnblkhaaaGreatDoorHdR
import Derived.Deep.AppendLies
namespace Go.Proofs.YtgfahkgnblkhaaaGreatDoor
open Go.RowKit

theorem hinfo_u8 : (Tryz.prog.info? 5).map (fun i => (i.zero, i.size, i.bytes)) = some (some (.int .u8 0), 1, 1) := by kernel_rfl

theorem below_grown {base : Nat} {w w1 : World} {o : Obj} {v : Value} {e : TypeId} {size n : Nat} {xs : List Value} (hown : w.ownsRow base e size v n xs) (hb : base ≤ w.heap.size) (hg : (w.alloc o).grownBy w1 v.ownBlock) : Below base w w1 :=
  ((Below.refl base w).alloc hb o).grown hg (by simp; omega) (fun k hk => (hown.lt k hk).1)

set_option maxHeartbeats 1000000 in
/-- A slice of bytes that the call owns, of the numbers xs; behind appendNumber it has two more. -/
theorem append_any (base : Nat) (v : Value) (n : Nat) (xs : List Value) (m : Int) (w : World) (hown : w.ownsRow base 5 1 v n xs) (hn : n ≤ 1000) (hb : base ≤ w.heap.size) (hm : 0 ≤ m ∧ m ≤ 65535) :
    Calls Tryz.prog 70 #[v, .int .i64 m] w fun e w' => ∃ v', e = .returned v' ∧ w'.ownsRow base 5 1 v' (n + 2) (xs ++ [.int .u8 (m / 256), .int .u8 (m % 256)]) ∧ Below base w w' ∧ w.heap.size ≤ w'.heap.size := by
  obtain ⟨i0, hi, hz0, hz1, hz2⟩ := info_parts hinfo_u8
  have hq : m / 256 % 256 = m / 256 := by omega
  have HX : Hid (w.ownsRow base 5 1 v n xs) := Lib.hid hown
  clear hown
  go_enter Tryz.func70, Tryz.ntmps70
  go_wp2_with (at_builtin; refine wpList_append_own _ rfl _ _ 30 rfl base 5 i0 (.int .u8 0) 1 1 Tryz.underlying30 hi hz0 hz1 hz2 rfl (by decide) _ n xs rfl (HX.out.alloc _) ⟨w.heap.size, 0, none⟩ 2 2 [.int .u8 (m / 256), .int .u8 (m % 256)] rfl rfl ?c1 ?c2 ?c3 ?c4 ?c5 ?_)
  case c1 => exact World.news_of_block (cs := #[.int .u8 (m / 256), .int .u8 (m % 256)]) (t := 5) (fr := (0, 0)) (heap_alloc_new w _)
  case c2 => simp [Value.oneCell']
  case c3 => unfold maxLen; omega
  case c4 => omega
  case c5 => simp; omega
  intro v' w1 hown' hgrow _
  go_wp2
  go_ret
  exact ⟨v', rfl, hown', below_grown HX.out hb hgrow, by have := hgrow.size; simp at this; omega⟩

end Go.Proofs.YtgfahkgnblkhaaaGreatDoor
