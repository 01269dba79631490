/-
  The landed pool: a question's frame.
-/
import Derived.Test.YtknpkifhkefikaaDoorPoA
import Derived.Test.YtknpkifhkefikaaDoorPoP
import Derived.Test.YtknpkifhkefikaaDoorWrL
namespace Go.Proofs.YtknpkifhkefikaaDoor
open Go.RowKit Go.Maps
set_option linter.unusedVariables false
set_option maxRecDepth 100000

set_option maxHeartbeats 1000000 in
theorem frame_any (id : Int) (q : Qu) (w : World) (hk : Masks w) (hc : canM (qMsg id q) = true) (X : Wt) (hX : encX (qMsg id q) = some X) (hl : X.b.length ≤ 65535) : Calls Tryd.prog 60 #[.int .i64 id, .agg (quC q)] w fun e w' => ∃ v, e = .returned v ∧ OwnB w' w.heap.size v (encP X.b) ∧ Below w.heap.size w w' := by
  have M := Lib.hid (fun W => message_any id q W)
  have E := Lib.hid (fun g W (hM : Ms W (qMsg id q) (qMV g)) (h : Masks W) => Encode_any (qMsg id q) (qMV g) W hM h)
  have HK := Lib.hid hk
  have HC := Lib.hid hc
  have HX := Lib.hid hX
  have HL := Lib.hid hl
  obtain ⟨n, t, c⟩ := q
  simp only [quC, quL] at M ⊢
  generalize qMsg id ⟨n, t, c⟩ = m at *
  have B0 : Below w.heap.size w (w.alloc (.cells #[.string (bs n), .int .i64 t, .int .i64 c] 44)) := Below.alloc (Below.refl _ _) (Nat.le_refl _) _
  clear hk hc hX hl
  go_enter Tryd.func60, Tryd.ntmps60
  go_wp2_with fail
  refine (M.out _).mono ?_
  rintro e w1 ⟨g, rfl, hM, b1⟩
  have B1 := Below.trans B0 (b1.mono B0.size)
  have EE := Lib.hid (E.out g w1 hM (HK.out.on B1))
  clear E M B0 b1 hM
  generalize msL m (qMV g) = ml at *
  go_wp2_with fail
  refine EE.out.mono ?_
  rintro e w2 ⟨v, k, rfl, b2, -, -, h⟩
  obtain ⟨rfl, ho, -⟩ := h X HC.out HX.out
  have B2 := Below.trans B1 (b2.mono B1.size)
  obtain ⟨A1, c1, rfl, S1⟩ := ho.ownB.bysN
  have P := Lib.hid (encLP_any A1 X.b c1 w2 S1)
  obtain ⟨x, hx⟩ : ∃ x, x = X.b := ⟨_, rfl⟩
  rw [← hx] at P HL S1
  have HXB := Lib.hid hx
  obtain ⟨nx, hnx⟩ : ∃ nx, nx = x.length := ⟨_, rfl⟩
  rw [← hnx] at P
  rw [← hx, ← hnx]
  have HN := Lib.hid hnx
  clear EE ho h b2 S1 hnx B1 hx
  go_wp2_with fail
  refine P.out.mono ?_
  rintro e w3 ⟨b3, h3⟩
  rcases h3 with ⟨hlong, -⟩ | ⟨-, v, rfl, o3⟩
  · exact absurd HL.out (by omega)
  · have B3 := Below.trans B2 (b3.mono B2.size)
    have O3 := Lib.hid (o3.mono B2.size)
    clear o3 b3 P
    go_wp2_with fail
    go_ret
    exact ⟨v, rfl, HXB.out ▸ O3.out, B3⟩
end Go.Proofs.YtknpkifhkefikaaDoor
