/-
  The walk of WireBack.
-/
import Derived.Test.YtknpkifhkefikaaDoorDc4
import Derived.Test.YtknpkifhkefikaaDoorWdM
namespace Go.Proofs.YtknpkifhkefikaaDoor
open Go.RowKit Go.Maps
set_option linter.unusedVariables false
set_option maxRecDepth 100000
attribute [local go_sem ↓] exec_loadMg

theorem EncP.tell {w w' : World} {m : Msg} {e : Ending} (h : EncP w m e w') : ∃ A c, e = .returned (.tuple #[.slice A (encL m).length c, .int .i64 (encN m)]) ∧ Below w.heap.size w w' ∧ Sl w' A c (encL m) := by
  obtain ⟨v, k, rfl, hB, h1, h2, h3⟩ := h
  unfold encL encN
  cases hc : canM m with
  | false =>
    obtain ⟨rfl, rfl⟩ := h1 hc
    exact ⟨none, 0, rfl, hB, Sl.none _⟩
  | true =>
    cases hx : encX m with
    | none =>
      obtain ⟨rfl, rfl⟩ := h2 hc hx
      exact ⟨none, 0, rfl, hB, Sl.none _⟩
    | some X =>
      obtain ⟨rfl, o, n⟩ := h3 X hc hx
      obtain ⟨A, c, hv, hs⟩ := o.ownB.bysN
      subst hv
      exact ⟨A, c, rfl, hB, hs⟩
theorem enc_ok {m : Msg} (h : encN m = 0) : ∃ X, canM m = true ∧ encX m = some X ∧ encL m = X.b := by
  unfold encN at h
  split at h
  · rename_i hc
    split at h
    · cases h
    · rename_i X hx
      exact ⟨X, hc, hx, by unfold encL; rw [if_pos hc, hx]⟩
  · cases h
theorem enc_no {m : Msg} (h : encN m ≠ 0) : encL m = [] := by
  unfold encN at h
  unfold encL
  split
  · rename_i hc
    rw [if_pos hc] at h
    split
    · rfl
    · rename_i X hx
      rw [hx] at h
      exact absurd rfl h
  · rfl
/-- The message, and what is read of it. -/
structure SB (w : World) (g3 : Nat) (la lb : Array Value) (m : Msg) (v u : MV) (w' : World) : Prop where
  r1 : w'.heap[w.heap.size]? = some (.cells la 27 (0, 0))
  r3 : w'.heap[g3]? = some (.cells lb 27 (0, 0))
  ma : Ms w' m v
  mb : Ms w' m u
  bel : Below w.heap.size w w'
theorem SB.on {w : World} {g3 : Nat} {la lb : Array Value} {m : Msg} {v u : MV} {w1 w2 : World} (h : SB w g3 la lb m v u w1) (hB : Below w1.heap.size w1 w2) : SB w g3 la lb m v u w2 :=
  ⟨(hB.block _ (Array.getElem?_eq_some_iff.1 h.r1).1).trans h.r1, (hB.block _ (Array.getElem?_eq_some_iff.1 h.r3).1).trans h.r3, h.ma.on hB, h.mb.on hB, Below.trans h.bel (hB.mono h.bel.size)⟩
set_option maxHeartbeats 4000000 in
set_option maxRecDepth 100000 in
theorem WireBack_any (m : Msg) (v : MV) (w : World) (hM : Ms w m v) (hk : Masks w) : Calls Tryd.prog 4 #[.agg (msL m v).toArray] w fun e w' => e = .returned (.bool true) ∧ Below w.heap.size w w' := by
  obtain ⟨la, hla⟩ : ∃ x, x = (msL m v).toArray := ⟨_, rfl⟩
  have b0 : Below w.heap.size w (w.alloc (.cells la 27 (0, 0))) := Below.alloc (Below.refl _ _) (Nat.le_refl _) _
  have r0 : (w.alloc (.cells la 27 (0, 0))).heap[w.heap.size]? = some (.cells la 27 (0, 0)) := row_new _ rfl
  have iA : Hid ((Tryd.prog.info? 27).map (·.size) = some la.size) := Lib.hid (by rw [hla]; exact info_ms)
  have fa : loadMg (.pointer (some ⟨w.heap.size, 0, none⟩)) (w.alloc (.cells la 27 (0, 0))) = .ok (.value (.agg la)) (w.alloc (.cells la 27 (0, 0))) := loadMg_row r0 iA.out
  have E1 := (Encode_any m v _ (hM.on b0) (hk.on b0)).mono fun e w' h => h.tell
  have E2 := Lib.hid (fun W (h : Below w.heap.size w W) => (dEncode_any m v W (hM.on h) (hk.on h)).mono fun e w' h => h.tell)
  rw [← hla] at E1 E2 ⊢
  have E1 := Lib.hid E1
  obtain ⟨l, hl⟩ : ∃ l, l = encL m := ⟨_, rfl⟩
  obtain ⟨k, hkk⟩ : ∃ k, k = encN m := ⟨_, rfl⟩
  obtain ⟨n, hn⟩ : ∃ n, n = l.length := ⟨_, rfl⟩
  rw [← hl, ← hkk, ← hn] at E1 E2
  have HL := Lib.hid hl
  have HK := Lib.hid hkk
  have HN := Lib.hid hn
  have HLA := Lib.hid hla
  have HR0 := Lib.hid r0
  have HB0 := Lib.hid b0
  have HM := Lib.hid hM
  have HMK := Lib.hid hk
  clear hla b0 r0 hM hk hl hkk hn
  go_enter Tryd.func4, Tryd.ntmps4
  go_wp2_with fail
  refine E1.out.mono ?_
  rintro e w1 ⟨A1, c1, rfl, b1, s1⟩
  have B1 : Below w.heap.size w w1 := Below.trans HB0.out (b1.mono HB0.out.size)
  have R1 : w1.heap[w.heap.size]? = some (.cells la 27 (0, 0)) := (b1.block _ (Array.getElem?_eq_some_iff.1 HR0.out).1).trans HR0.out
  have fa1 : loadMg (.pointer (some ⟨w.heap.size, 0, none⟩)) w1 = .ok (.value (.agg la)) w1 := loadMg_row R1 iA.out
  have E2 := Lib.hid (E2.out w1 B1)
  have HR1 := Lib.hid R1
  have HB1 := Lib.hid B1
  have HS1 := Lib.hid s1
  clear b1 s1 B1 R1 E1 fa
  go_wp2_with fail
  refine E2.out.mono ?_
  rintro e w2 ⟨A2, c2, rfl, b2, -⟩
  have B2 : Below w.heap.size w w2 := Below.trans HB1.out (b2.mono HB1.out.size)
  have R2 : w2.heap[w.heap.size]? = some (.cells la 27 (0, 0)) := (b2.block _ (Array.getElem?_eq_some_iff.1 HR1.out).1).trans HR1.out
  have HS2 := Lib.hid (HS1.out.on b2)
  have HR2 := Lib.hid R2
  have HB2 := Lib.hid B2
  have hkeq : ((k : Int) != (k : Int)) = false := by simp
  clear b2 B2 R2 E2 fa1 HS1 HR1 HB1
  by_cases h0 : k = 0
  · obtain ⟨X, x1, x2, x3⟩ := enc_ok (HK.out ▸ h0)
    obtain ⟨y1, y2, y3, y4, y5⟩ := enc_back x1 x2
    rw [← x3, ← HL.out] at y1 y2 y3 y4 y5
    have DC := DecodeD_any A1 c1 l w2 HS2.out y1 y2 (HMK.out.on HB2.out) y5
    rw [y3, y4, ← HN.out] at DC
    have DC := Lib.hid DC
    have hk0 : ((k : Int) != 0) = false := by simp [h0]
    clear x1 x2 x3 y1 y2 y3 y4 y5 h0
    go_wp2_with fail
    refine DC.out.mono ?_
    rintro e w3 ⟨u, rfl, hU, b3⟩
    obtain ⟨lb, hlb⟩ : ∃ x, x = (msL m u).toArray := ⟨_, rfl⟩
    rw [show (⟨m.h, m.q, m.an, m.au, m.ad⟩ : Msg) = m from rfl] at hU
    have iB : Hid ((Tryd.prog.info? 27).map (·.size) = some lb.size) := Lib.hid (by rw [hlb]; exact info_ms)
    have oneB : Hid (lb.all (·.oneCell') = true) := Lib.hid (by rw [hlb]; exact ms_one m u)
    have zB' : Hid (zeroM.size = lb.size) := Lib.hid (by rw [hlb]; rfl)
    have rZ := row_new (w := w3) (k := w3.heap.size) (.cells zeroM 27 (0, 0)) rfl
    obtain ⟨W4, hW4⟩ : ∃ W4, W4 = (w3.alloc (.cells zeroM 27)).setRow w3.heap.size lb := ⟨_, rfl⟩
    have r3 : W4.heap[w3.heap.size]? = some (.cells lb 27 (0, 0)) := by rw [hW4]; exact setRow_heap _ _ _ lb _ _ rZ
    have q4 : Below w3.heap.size w3 W4 := by rw [hW4]; exact Below.setRow (Below.alloc (Below.refl _ _) (Nat.le_refl _) _) (Nat.le_refl _) _
    have B3 : Below w.heap.size w w3 := Below.trans HB2.out (b3.mono HB2.out.size)
    have R3 : W4.heap[w.heap.size]? = some (.cells la 27 (0, 0)) := by
      have l0 := (Array.getElem?_eq_some_iff.1 HR2.out).1
      exact (q4.block _ (Nat.lt_of_lt_of_le l0 b3.size)).trans ((b3.block _ l0).trans HR2.out)
    have B4 : Below w.heap.size w W4 := Below.trans B3 (q4.mono B3.size)
    have HS4 := Lib.hid (⟨R3, r3, HM.out.on B4, hU.on q4, B4⟩ : SB w w3.heap.size la lb m v u W4)
    have HW4 := Lib.hid hW4
    rw [show (msL (⟨m.h, m.q, m.an, m.au, m.ad⟩ : Msg) u).toArray = lb from hlb.symm]
    have C2 := Lib.hid (fun W (h : SB w w3.heap.size la lb m v u W) => by have := Same_msg m m u v W h.mb h.ma; rw [sameM_self, ← HLA.out, ← hlb] at this; exact this)
    have C4 := Lib.hid (fun W (h : SB w w3.heap.size la lb m v u W) => by have := SameMessage_msg m m u v W h.mb h.ma; rw [sameM_self, ← HLA.out, ← hlb] at this; exact this)
    have F1 := Lib.hid (fun W (h : SB w w3.heap.size la lb m v u W) => (⟨loadMg_row h.r3 iB.out, loadMg_row h.r1 iA.out⟩ : loadMg (.pointer (some ⟨w3.heap.size, 0, none⟩)) W = .ok (.value (.agg lb)) W ∧ loadMg (.pointer (some ⟨w.heap.size, 0, none⟩)) W = .ok (.value (.agg la)) W))
    obtain ⟨f1, f2⟩ := F1.out _ HS4.out
    clear hU b3 hlb hW4 r3 q4 B3 R3 B4 DC
    go_wp2_with (first
      | (refine wpList_store_row rfl 27 (.tmp 7) (.tmp 32) rfl w3.heap.size lb rfl rfl 27 _ rZ iB.out (by first | exact zB'.out | exact zB'.out.symm) oneB.out ?_; rw [← HW4.out])
      | fail)
    refine (C2.out _ HS4.out).mono ?_
    rintro e w5 ⟨rfl, b5⟩
    have HS5 := Lib.hid (HS4.out.on b5)
    obtain ⟨g1, g2⟩ := F1.out _ HS5.out
    clear b5 f1 f2 HS4
    go_wp2_with fail
    refine (C4.out _ HS5.out).mono ?_
    rintro e w6 ⟨rfl, b6⟩
    have HS6 := Lib.hid (HS5.out.on b6)
    clear b6 g1 g2 HS5
    go_wp2_with fail
    go_ret
    exact ⟨rfl, HS6.out.bel⟩
  · have hl0 := enc_no (HK.out ▸ h0)
    have hn0 : n = 0 := by rw [HN.out, HL.out, hl0]; rfl
    have AW := Lib.hid (awake4_any w2 (HMK.out.on HB2.out))
    have hk0 : ((k : Int) != 0) = true := by rw [bne_iff_ne]; omega
    have hnn : ((n : Int) == 0) = true := by simp [hn0]
    clear h0 hl0 hn0
    go_wp2_with fail
    refine AW.out.mono ?_
    rintro e w3 ⟨rfl, b3⟩
    have HB3 := Lib.hid (Below.trans HB2.out (b3.mono HB2.out.size))
    go_wp2_with fail
    go_ret
    exact ⟨rfl, HB3.out⟩
end Go.Proofs.YtknpkifhkefikaaDoor
