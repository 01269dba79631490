/-
  The statements' own small call 'awake': it answers true.
-/
import Derived.Test.YtigpkcpdccgnfaaDoorHdG
namespace Go.Proofs.YtigpkcpdccgnfaaDoor
open Go.RowKit

abbrev wakeB : List Int := [0, 1, 0, 0, 0, 1, 0, 0, 0, 0, 0, 0]
theorem enc_awake : encB 1 (flags 0 0 false false false false false) 1 0 0 0 = wakeB.map (Value.int .u8) := by simp [encB, flags, flk, bi]

set_option maxHeartbeats 1000000 in
set_option maxRecDepth 100000 in
theorem awake_any (w : World) (hm : Masks w) : Calls Tryd.prog 10 #[] w fun e w' => e = .returned (.bool true) ∧ Below w.heap.size w w' := by
  go_enter Tryd.func10, Tryd.ntmps10
  go_wp2_with fail
  refine (Encode_yes 1 0 0 1 0 0 0 false false false false false w (by simp [canH]) hm).mono ?_
  rintro e w1 ⟨v, rfl, hown, hB⟩
  rw [enc_awake] at hown
  have s1 := owned_string hown
  have s1' := fun o => owned_string (hown.alloc o)
  clear hown s1
  go_wp2_with fail
  refine (Equal_same _ _ (strOfNums wakeB) _ (s1' _) (row_string (heap_alloc_new w1 _) rfl rfl)).mono ?_
  rintro e w2 ⟨rfl, rfl⟩
  go_wp2_with fail
  go_ret
  exact ⟨rfl, hB.alloc hB.size _⟩

end Go.Proofs.YtigpkcpdccgnfaaDoor
