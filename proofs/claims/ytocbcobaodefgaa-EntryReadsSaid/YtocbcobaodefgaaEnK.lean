/-
  The statements' awake: a small entry is written.
-/
import Derived.Test.YtocbcobaodefgaaEnJ
namespace Go.Proofs.Ytocbcobaodefgaa
open Go.RowKit
set_option linter.unusedVariables false
set_option maxRecDepth 100000

def awS : St := ⟨[0], 2, 1, 0, 0, 0, [], []⟩
theorem aw_can : canE true awS = true := by decide +kernel
theorem aw_enc : encB true awS = [1, 1, 0, 0, 2, 0, 1] := by decide +kernel
theorem aw_sized : Sized awS := ⟨by decide, by decide, (fun x h => by cases h), by decide⟩
theorem bys_row {w : World} {cs : Array Value} {t : TypeId} {l : Bs} (h : cs = (l.map byteV).toArray) : Bys (w.alloc (.cells cs t)) (some ⟨w.heap.size, 0, none⟩) l := fun _ => by
  subst h
  refine ⟨_, 0, rfl, fun j hj => ?_⟩
  have hr := row_new (w := w) (k := w.heap.size) (.cells (l.map byteV).toArray t (0, 0)) rfl
  refine (cell_of_row _ _ _ _ _ _ hr).trans ?_
  simp [hj, byteV]

set_option maxHeartbeats 1000000 in
theorem awakeE (w : World) : Calls Try.prog 15 #[] w fun e w' => e = .returned (.bool true) ∧ Below w.heap.size w w' := by
  have E1 : Hid (∀ W, Calls Try.prog 43 #[.agg #[.bool true, .string ⟨#[0]⟩, .int .i64 2, .int .i64 1, .int .i64 0, .int .i64 0, .int .i64 0, .string ⟨#[]⟩, .slice none 0 0]] W (EncPost W true awS)) := Lib.hid (fun W => Enc_any true awS none 0 W (byss_nil W) aw_sized)
  go_enter Try.func15, Try.ntmps15
  go_wp2_with fail
  refine (E1.out _).mono ?_
  rintro e w1 ⟨b1, h⟩
  rcases h with ⟨h, _⟩ | ⟨_, v, rfl, ho⟩
  · rw [aw_can] at h; cases h
  rw [aw_enc] at ho
  obtain ⟨A, c, rfl, hB, -, -⟩ := ho.bys
  have hB2 := hB.on (Below.alloc (Below.refl w1.heap.size w1) (Nat.le_refl _) (.cells #[.int .u8 1, .int .u8 1, .int .u8 0, .int .u8 0, .int .u8 2, .int .u8 0, .int .u8 1] 5))
  have E2 : Hid (Calls Try.prog 14 #[.slice A 7 c, .slice (some ⟨w1.heap.size, 0, none⟩) 7 7] (w1.alloc (.cells #[.int .u8 1, .int .u8 1, .int .u8 0, .int .u8 0, .int .u8 2, .int .u8 0, .int .u8 1] 5)) fun e w' => e = .returned (.bool true) ∧ (w1.alloc (.cells #[.int .u8 1, .int .u8 1, .int .u8 0, .int .u8 0, .int .u8 2, .int .u8 0, .int .u8 1] 5)) = w') := Lib.hid (EqualB_any A (some ⟨w1.heap.size, 0, none⟩) [1, 1, 0, 0, 2, 0, 1] [1, 1, 0, 0, 2, 0, 1] 7 7 c 7 _ hB2 (bys_row rfl) rfl rfl)
  have b2 : Below w.heap.size w (w1.alloc (.cells #[.int .u8 1, .int .u8 1, .int .u8 0, .int .u8 0, .int .u8 2, .int .u8 0, .int .u8 1] 5)) := Below.alloc b1 b1.size _
  clear ho hB hB2 E1 b1
  go_wp2_with fail
  refine E2.out.mono ?_
  rintro e w2 ⟨rfl, rfl⟩
  go_wp2_with fail
  go_ret
  exact ⟨rfl, b2⟩
end Go.Proofs.Ytocbcobaodefgaa
