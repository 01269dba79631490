/-
  The walk of WireWrites.
-/
import Derived.Test.YtknpkifhkefikaaDoorWdJ
import Derived.Test.YtknpkifhkefikaaDoorWl
import Derived.Test.YtknpkifhkefikaaDoorWmI
import Derived.Test.YtknpkifhkefikaaDoorWh
import Derived.Deep.RegionHeld3
namespace Go.Proofs.YtknpkifhkefikaaDoor
open Go.RowKit Go.Maps
set_option linter.unusedVariables false
set_option maxRecDepth 100000
attribute [local go_sem ↓] exec_loadMg

def encL (m : Msg) : Bs := if canM m = true then (match encX m with | none => [] | some X => X.b) else []
def encN (m : Msg) : Nat := if canM m = true then (match encX m with | none => 42 | some _ => 0) else 1
theorem EncP.told {w w' : World} {m : Msg} {e : Ending} (h : EncP w m e w') : ∃ A c, e = .returned (.tuple #[.slice A (encL m).length c, .int .i64 (encN m)]) ∧ Below w.heap.size w w' ∧ Bys w' A (encL m) := by
  obtain ⟨v, k, rfl, hB, h1, h2, h3⟩ := h
  unfold encL encN
  cases hc : canM m with
  | false =>
    obtain ⟨rfl, rfl⟩ := h1 hc
    exact ⟨none, 0, rfl, hB, fun h => absurd h (by simp)⟩
  | true =>
    cases hx : encX m with
    | none =>
      obtain ⟨rfl, rfl⟩ := h2 hc hx
      exact ⟨none, 0, rfl, hB, fun h => absurd h (by simp)⟩
    | some X =>
      obtain ⟨rfl, o, n⟩ := h3 X hc hx
      obtain ⟨g, c, hv, -⟩ := OwnR.slice_form o n
      subst hv
      exact ⟨some ⟨g, 0, none⟩, c, rfl, hB, ownR_bys o⟩
/-- The message, its copy, the bytes of both sides. -/
structure SW (w : World) (g3 : Nat) (la lb : Array Value) (m : Msg) (v u : MV) (A1 A2 : Option Addr) (l : Bs) (w' : World) : Prop where
  r1 : w'.heap[w.heap.size]? = some (.cells la 27 (0, 0))
  r3 : w'.heap[g3]? = some (.cells lb 27 (0, 0))
  ma : Ms w' m v
  mb : Ms w' m u
  k : Masks w'
  b1 : Bys w' A1 l
  b2 : Bys w' A2 l
  bel : Below w.heap.size w w'
theorem SW.on {w : World} {g3 : Nat} {la lb : Array Value} {m : Msg} {v u : MV} {A1 A2 : Option Addr} {l : Bs} {w1 w2 : World} (h : SW w g3 la lb m v u A1 A2 l w1) (hB : Below w1.heap.size w1 w2) : SW w g3 la lb m v u A1 A2 l w2 :=
  ⟨(hB.block _ (Array.getElem?_eq_some_iff.1 h.r1).1).trans h.r1, (hB.block _ (Array.getElem?_eq_some_iff.1 h.r3).1).trans h.r3, h.ma.on hB, h.mb.on hB, h.k.on hB, h.b1.on hB, h.b2.on hB, Below.trans h.bel (hB.mono h.bel.size)⟩
theorem SW.drew {w : World} {g3 : Nat} {la lb : Array Value} {m : Msg} {v u : MV} {A1 A2 : Option Addr} {l : Bs} {w1 : World} (h : SW w g3 la lb m v u A1 A2 l w1) : SW w g3 la lb m v u A1 A2 l w1.drew := h.on (Below.drew (Below.refl _ _))
set_option maxHeartbeats 4000000 in
set_option maxRecDepth 100000 in
theorem WireWrites_any (m : Msg) (v : MV) (w : World) (hM : Ms w m v) (hk : Masks w) (h1 : m.q.length * 32 ≤ 140737488351232) (h2 : ∀ L, L = m.an ∨ L = m.au ∨ L = m.ad → L.length * 64 ≤ 140737488351232 ∧ ∀ x ∈ L, x.d.length ≤ 140737488351232) : Calls Tryd.prog 3 #[.agg (msL m v).toArray] w fun e w' => e = .returned (.bool true) ∧ Below w.heap.size w w' := by
  obtain ⟨la, hla⟩ : ∃ x, x = (msL m v).toArray := ⟨_, rfl⟩
  have b0 : Below w.heap.size w (w.alloc (.cells la 27 (0, 0))) := Below.alloc (Below.refl _ _) (Nat.le_refl _) _
  have r0 : (w.alloc (.cells la 27 (0, 0))).heap[w.heap.size]? = some (.cells la 27 (0, 0)) := row_new _ rfl
  have iA : Hid ((Tryd.prog.info? 27).map (·.size) = some la.size) := Lib.hid (by rw [hla]; exact info_ms)
  have fa : loadMg (.pointer (some ⟨w.heap.size, 0, none⟩)) (w.alloc (.cells la 27 (0, 0))) = .ok (.value (.agg la)) (w.alloc (.cells la 27 (0, 0))) := loadMg_row r0 iA.out
  have MC := Message_any m v _ (hM.on b0) h1 h2
  rw [← hla] at MC ⊢
  have MC := Lib.hid MC
  have HLA := Lib.hid hla
  have HR0 := Lib.hid r0
  have HB0 := Lib.hid b0
  have HM := Lib.hid hM
  have HK := Lib.hid hk
  clear hla b0 r0 hM hk h1 h2
  go_enter Tryd.func3, Tryd.ntmps3
  go_wp2_with fail
  refine MC.out.mono ?_
  rintro e w1 ⟨u, rfl, hU, b1⟩
  obtain ⟨lb, hlb⟩ : ∃ x, x = (msL m u).toArray := ⟨_, rfl⟩
  rw [← hlb]
  have HLB := Lib.hid hlb
  have iB : Hid ((Tryd.prog.info? 27).map (·.size) = some lb.size) := Lib.hid (by rw [hlb]; exact info_ms)
  have oneB : Hid (lb.all (·.oneCell') = true) := Lib.hid (by rw [hlb]; exact ms_one m u)
  have zB : Hid ((#[.int .i64 0, .bool false, .int .i64 0, .bool false, .bool false, .bool false, .bool false, .int .i64 0, .slice none 0 0, .slice none 0 0, .slice none 0 0, .slice none 0 0] : Array Value).size = lb.size) := Lib.hid (by rw [hlb]; rfl)
  have rZ := row_new (w := w1) (k := w1.heap.size) (.cells #[.int .i64 0, .bool false, .int .i64 0, .bool false, .bool false, .bool false, .bool false, .int .i64 0, .slice none 0 0, .slice none 0 0, .slice none 0 0, .slice none 0 0] 27 (0, 0)) rfl
  obtain ⟨W2, hW2⟩ : ∃ W2, W2 = (w1.alloc (.cells #[.int .i64 0, .bool false, .int .i64 0, .bool false, .bool false, .bool false, .bool false, .int .i64 0, .slice none 0 0, .slice none 0 0, .slice none 0 0, .slice none 0 0] 27)).setRow w1.heap.size lb := ⟨_, rfl⟩
  have r3 : W2.heap[w1.heap.size]? = some (.cells lb 27 (0, 0)) := by rw [hW2]; exact setRow_heap _ _ _ lb _ _ rZ
  have q2 : Below w1.heap.size w1 W2 := by rw [hW2]; exact Below.setRow (Below.alloc (Below.refl _ _) (Nat.le_refl _) _) (Nat.le_refl _) _
  have B1 : Below w.heap.size w w1 := Below.trans HB0.out (b1.mono HB0.out.size)
  have B2 : Below w.heap.size w W2 := Below.trans B1 (q2.mono B1.size)
  have R1 : W2.heap[w.heap.size]? = some (.cells la 27 (0, 0)) := by
    have h0 := HR0.out
    have l0 := (Array.getElem?_eq_some_iff.1 h0).1
    exact (q2.block _ (Nat.lt_of_lt_of_le l0 b1.size)).trans ((b1.block _ l0).trans h0)
  have HW2 := Lib.hid hW2
  have S2 : SW w w1.heap.size la lb m v u none none [] W2 := ⟨R1, r3, HM.out.on B2, hU.on q2, HK.out.on B2, fun h => absurd h (by simp), fun h => absurd h (by simp), B2⟩
  have HS2 := Lib.hid S2
  have fb : loadMg (.pointer (some ⟨w1.heap.size, 0, none⟩)) W2 = .ok (.value (.agg lb)) W2 := loadMg_row r3 iB.out
  have E1 := Encode_any m u W2 (hU.on q2) (HK.out.on B2)
  rw [← hlb] at E1
  have E1 := Lib.hid (E1.mono fun e w' h => h.told)
  obtain ⟨g3, hg3⟩ : ∃ g, g = w1.heap.size := ⟨_, rfl⟩
  have HG3 := Lib.hid hg3
  clear hU b1 hlb hW2 r3 q2 B1 B2 R1 S2 MC fa hg3
  go_wp2_with (first
    | (refine wpList_store_row rfl 27 (.tmp 3) (.tmp 9) rfl w1.heap.size lb rfl rfl 27 _ rZ iB.out (by first | exact zB.out | exact zB.out.symm) oneB.out ?_; rw [← HW2.out])
    | fail)
  refine E1.out.mono ?_
  rintro e w3 ⟨A1, c1, rfl, b3, y1⟩
  have S3 := HS2.out.on b3
  have S3 : SW w w1.heap.size la lb m v u A1 none (encL m) w3 ∨ True := .inr trivial
  have HS3 := Lib.hid (HS2.out.on b3)
  have HY1 := Lib.hid y1
  have fa3 : loadMg (.pointer (some ⟨w.heap.size, 0, none⟩)) w3 = .ok (.value (.agg la)) w3 := loadMg_row HS3.out.r1 iA.out
  have E2 := dEncode_any m v w3 HS3.out.ma HS3.out.k
  rw [← HLA.out] at E2
  have E2 := Lib.hid (E2.mono fun e w' h => h.told)
  clear b3 y1 E1 fb HS2 rZ S3
  go_wp2_with fail
  refine E2.out.mono ?_
  rintro e w4 ⟨A2, c2, rfl, b4, y2⟩
  have s4 := HS3.out.on b4
  have HS4 := Lib.hid (⟨s4.r1, s4.r3, s4.ma, s4.mb, s4.k, HY1.out.on b4, y2, s4.bel⟩ : SW w w1.heap.size la lb m v u A1 A2 (encL m) w4)
  clear b4 y2 s4 E2 HS3 HY1 fa3
  obtain ⟨l, hl⟩ : ∃ l, l = encL m := ⟨_, rfl⟩
  obtain ⟨n, hn⟩ : ∃ n, n = l.length := ⟨_, rfl⟩
  rw [← hl] at HS4 ⊢
  rw [← hn]
  have HN := Lib.hid hn
  obtain ⟨kk, hkk⟩ : ∃ k, k = encN m := ⟨_, rfl⟩
  rw [← hkk]
  obtain ⟨cm, hcm⟩ : ∃ c, c = canM m := ⟨_, rfl⟩
  have hkeq : ((kk : Int) == (kk : Int)) = true := by simp
  have hceq : (cm == cm) = true := by simp
  have C1 := Lib.hid (fun W (h : SW w w1.heap.size la lb m v u A1 A2 l W) => (EqualB_any A1 A2 l l n n c1 c2 W h.b1 h.b2 HN.out HN.out).mono fun e w' ⟨h1, h2⟩ => (show e = Ending.returned (.bool true) ∧ Below W.heap.size W w' from ⟨by rw [h1]; simp, h2 ▸ Below.refl _ _⟩))
  have C2 := Lib.hid (fun W (h : SW w w1.heap.size la lb m v u A1 A2 l W) => by have := CanM_any m u W h.mb h.k; rw [← HLB.out, ← hcm] at this; exact this)
  have C3 := Lib.hid (fun W (h : SW w w1.heap.size la lb m v u A1 A2 l W) => by have := dCanM_any m v W h.ma h.k; rw [← HLA.out, ← hcm] at this; exact this)
  have C4 := Lib.hid (fun W (h : SW w w1.heap.size la lb m v u A1 A2 l W) => by have := SameMessage_msg m m u v W h.mb h.ma; rw [sameM_self, ← HLA.out, ← HLB.out] at this; exact this)
  have C5 := Lib.hid (fun W (h : SW w w1.heap.size la lb m v u A1 A2 l W) => awake4_any W h.k)
  have F1 : ∀ W, SW w w1.heap.size la lb m v u A1 A2 l W → loadMg (.pointer (some ⟨w.heap.size, 0, none⟩)) W = .ok (.value (.agg la)) W := fun W h => loadMg_row h.r1 iA.out
  have F3 : ∀ W, SW w w1.heap.size la lb m v u A1 A2 l W → loadMg (.pointer (some ⟨w1.heap.size, 0, none⟩)) W = .ok (.value (.agg lb)) W := fun W h => loadMg_row h.r3 iB.out
  have S4 := HS4.out
  clear HN hn hl hkk hcm iA iB oneB zB HW2 HLA HLB HR0 HB0 HM HK HS4 HG3
  go_upto_region 4 with fail
  go_region_held3 (fun w' => SW w w1.heap.size la lb m v u A1 A2 l w')
    (first | assumption | exact SW.drew (by assumption) | exact SW.on (by assumption) (by assumption))
    (first
      | (go_at_call 11; (with_reducible refine (C1.out _ (by assumption)).mono ?_); rintro e w' ⟨rfl, hBx⟩)
      | (go_at_call 12; (with_reducible refine (C2.out _ (by assumption)).mono ?_); rintro e w' ⟨rfl, hBx⟩)
      | (go_at_call 13; (with_reducible refine (C3.out _ (by assumption)).mono ?_); rintro e w' ⟨rfl, hBx⟩)
      | (go_at_call 14; (with_reducible refine (C4.out _ (by assumption)).mono ?_); rintro e w' ⟨rfl, hBx⟩)
      | (go_at_call 15; (with_reducible refine (C5.out _ (by assumption)).mono ?_); rintro e w' ⟨rfl, hBx⟩))
  go_wp2_with fail
  go_ret
  exact ⟨rfl, SW.bel (g3 := w1.heap.size) (la := la) (lb := lb) (m := m) (v := v) (u := u) (A1 := A1) (A2 := A2) (l := l) (by assumption)⟩
end Go.Proofs.YtknpkifhkefikaaDoor
