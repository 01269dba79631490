/-
  The walk of HeaderWrites.
-/
import Derived.Test.YtigpkcpdccgnfaaDoorHdH
import Derived.Test.YtigpkcpdccgnfaaDoorHdW
namespace Go.Proofs.YtigpkcpdccgnfaaDoor
open Go.RowKit

theorem Masks.below {w W : World} (h : Masks w) (hB : Below w.heap.size w W) : Masks W :=
  ⟨(hB.cell (p := ⟨0, 0, none⟩) h.lt).trans h.m0, (hB.cell (p := ⟨0, 1, none⟩) h.lt).trans h.m1, (hB.cell (p := ⟨0, 2, none⟩) h.lt).trans h.m2, (hB.cell (p := ⟨0, 3, none⟩) h.lt).trans h.m3, (hB.cell (p := ⟨0, 4, none⟩) h.lt).trans h.m4, Nat.lt_of_lt_of_le h.lt hB.size⟩

/-- What a call owns stands as long as nothing is written below what it made. -/
theorem ownsRow_below {w W : World} {base : Nat} {e : TypeId} {size n : Nat} {v : Value} {xs : List Value} (h : w.ownsRow base e size v n xs) (hB : Below w.heap.size w W) : W.ownsRow base e size v n xs := by
  obtain ⟨h1, h2⟩ := h
  refine ⟨h1, ?_⟩
  rcases h2 with h2 | ⟨g, cap, cur, hv, hg, hh, r⟩
  · exact .inl h2
  · exact .inr ⟨g, cap, cur, hv, hg, (hB.block g (Array.getElem?_eq_some_iff.1 hh).1).trans hh, r⟩

/-- The twelve bytes, as numbers. -/
def encN (i fl n0 n1 n2 n3 : Int) : List Int := [i / 256, i % 256, fl / 256, fl % 256, n0 / 256, n0 % 256, n1 / 256, n1 % 256, n2 / 256, n2 % 256, n3 / 256, n3 % 256]
theorem encN_B (i fl n0 n1 n2 n3 : Int) : encB i fl n0 n1 n2 n3 = (encN i fl n0 n1 n2 n3).map (Value.int .u8) := rfl

theorem nil_string (w : World) : (convert 25 9 (.slice none 0 0)).run Tryd.prog w = .ok (.string ByteArray.empty) w :=
  run_convert_bytes_nil w 25 5 Tryd.underlying25 Tryd.underlying5 0 0 9 Tryd.underlying9

set_option maxHeartbeats 2000000 in
set_option maxRecDepth 100000 in
theorem Writes_no (i o c n0 n1 n2 n3 : Int) (r aa tc rd ra : Bool) (w : World) (hm : Masks w) (h : canH i o c n0 n1 n2 n3 = false) :
    Calls Tryd.prog 3 #[hdV i r o aa tc rd ra c, ctV n0 n1 n2 n3] w fun e w' => e = .returned (.bool true) ∧ Below w.heap.size w w' := by
  go_enter Tryd.func3, Tryd.ntmps3
  go_wp2_with fail
  refine (Encode_no _ _ _ _ _ _ _ _ _ _ _ _ _ h).mono ?_
  rintro e w1 ⟨rfl, hB1⟩
  have hB : Below w.heap.size w w1 := Below.trans (by (repeat first | (with_reducible exact Below.refl _ _) | (with_reducible assumption) | (with_reducible refine below_drewN ?_ _) | (with_reducible refine Below.drew ?_) | (with_reducible refine Below.alloc ?_ (by go_size) _) | (with_reducible refine Below.setCell ?_ (by go_size) _))) (hB1.mono (by simp; omega))
  have c2 := cells8 ((hB1.block w.heap.size (by simp; omega)).trans (rows2 w _ _ 0).1)
  have c3 := cells4 ((hB1.block (w.heap.size + 1) (by simp)).trans (rows2 w _ _ 0).2)
  clear hB1
  go_wp2_with fail
  refine (refEncode_no _ _ _ _ _ _ _ _ _ _ _ _ _ h).mono ?_
  rintro e w2 ⟨rfl, hB2⟩
  have hBB := hB.trans (hB2.mono hB.size)
  clear c2 c3 hB2 hB
  have n1' := nil_string w2
  go_wp2_with fail
  refine (Equal_same _ _ ByteArray.empty _ n1' n1').mono ?_
  rintro e w3 ⟨rfl, rfl⟩
  go_wp2_with fail
  refine (awake_any w2 (hm.below hBB)).mono ?_
  rintro e w4 ⟨rfl, hB4⟩
  have hC := hBB.trans (hB4.mono hBB.size)
  go_wp2_with fail
  go_ret
  exact ⟨rfl, hC⟩

set_option maxHeartbeats 2000000 in
set_option maxRecDepth 100000 in
theorem Writes_yes (i o c n0 n1 n2 n3 : Int) (r aa tc rd ra : Bool) (w : World) (hm : Masks w) (h : canH i o c n0 n1 n2 n3 = true) :
    Calls Tryd.prog 3 #[hdV i r o aa tc rd ra c, ctV n0 n1 n2 n3] w fun e w' => e = .returned (.bool true) ∧ Below w.heap.size w w' := by
  go_enter Tryd.func3, Tryd.ntmps3
  go_wp2_with fail
  refine (Encode_yes _ _ _ _ _ _ _ _ _ _ _ _ _ h (hm.below (by (repeat first | (with_reducible exact Below.refl _ _) | (with_reducible assumption) | (with_reducible refine below_drewN ?_ _) | (with_reducible refine Below.drew ?_) | (with_reducible refine Below.alloc ?_ (by go_size) _) | (with_reducible refine Below.setCell ?_ (by go_size) _))))).mono ?_
  rintro e w1 ⟨va, rfl, hown, hB1⟩
  have hB : Below w.heap.size w w1 := Below.trans (by (repeat first | (with_reducible exact Below.refl _ _) | (with_reducible assumption) | (with_reducible refine below_drewN ?_ _) | (with_reducible refine Below.drew ?_) | (with_reducible refine Below.alloc ?_ (by go_size) _) | (with_reducible refine Below.setCell ?_ (by go_size) _))) (hB1.mono (by simp; omega))
  have c2 := cells8 ((hB1.block w.heap.size (by simp; omega)).trans (rows2 w _ _ 0).1)
  have c3 := cells4 ((hB1.block (w.heap.size + 1) (by simp)).trans (rows2 w _ _ 0).2)
  clear hB1
  go_wp2_with fail
  refine (refEncode_yes _ _ _ _ _ _ _ _ _ _ _ _ _ h).mono ?_
  rintro e w2 ⟨vb, rfl, hown2, hB2⟩
  have hBB := hB.trans (hB2.mono hB.size)
  have hown1 : w2.ownsRow _ 5 1 va 12 _ := ownsRow_below hown hB2
  rw [encN_B] at hown1 hown2
  have n1' := owned_string hown1
  have n2' := owned_string hown2
  clear c2 c3 hB2 hB hown hown1 hown2
  go_wp2_with fail
  refine (Equal_same _ _ _ _ n1' n2').mono ?_
  rintro e w3 ⟨rfl, rfl⟩
  clear n1' n2'
  go_wp2_with fail
  refine (awake_any w2 (hm.below hBB)).mono ?_
  rintro e w4 ⟨rfl, hB4⟩
  have hC := hBB.trans (hB4.mono hBB.size)
  go_wp2_with fail
  go_ret
  exact ⟨rfl, hC⟩

end Go.Proofs.YtigpkcpdccgnfaaDoor
