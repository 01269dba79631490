/-
  The walk of HeaderBack.
-/
import Derived.Test.YtigpkcpdccgnfaaDoorHdBa
import Derived.Laws.AppendOwnNone
namespace Go.Proofs.YtigpkcpdccgnfaaDoor
open Go.RowKit

set_option maxHeartbeats 2000000 in
set_option maxRecDepth 100000 in
theorem Back_no (i o c n0 n1 n2 n3 : Int) (r aa tc rd ra : Bool) (a : Option Addr) (m cr : Nat) (w : World) (hm : Masks w) (h : canH i o c n0 n1 n2 n3 = false) :
    Calls Tryd.prog 5 #[hdV i r o aa tc rd ra c, ctV n0 n1 n2 n3, .slice a m cr] w fun e w' => e = .returned (.bool true) ∧ Below w.heap.size w w' := by
  go_enter Tryd.func5, Tryd.ntmps5
  go_wp2_with fail
  refine (Encode_no _ _ _ _ _ _ _ _ _ _ _ _ _ h).mono ?_
  rintro e w1 ⟨rfl, hB1⟩
  have hB : Below w.heap.size w w1 := Below.trans (by (repeat first | (with_reducible exact Below.refl _ _) | (with_reducible assumption) | (with_reducible refine below_drewN ?_ _) | (with_reducible refine Below.drew ?_) | (with_reducible refine Below.alloc ?_ (by go_size) _) | (with_reducible refine Below.setCell ?_ (by go_size) _))) (hB1.mono (by simp; omega))
  have c2 := cells8 ((hB1.block w.heap.size (by simp; omega)).trans (rows2 w _ _ 0).1)
  have c3 := cells4 ((hB1.block (w.heap.size + 1) (by simp)).trans (rows2 w _ _ 0).2)
  clear hB1
  go_wp2_with fail
  refine (Can_any _ _ _ _ _ _ _ _ _ _ _ _ _).mono ?_
  rintro e w2 ⟨rfl, hB2⟩
  have hBB := hB.trans (hB2.mono hB.size)
  clear c2 c3 hB2 hB
  go_wp2_with fail
  refine (awake_any w2 (hm.below hBB)).mono ?_
  rintro e w4 ⟨rfl, hB4⟩
  have hC := hBB.trans (hB4.mono hBB.size)
  go_wp2_with fail
  go_ret
  exact ⟨by simp, hC⟩

set_option maxHeartbeats 2000000 in
set_option maxRecDepth 100000 in
theorem Back_some (i o c n0 n1 n2 n3 : Int) (r aa tc rd ra : Bool) (p : Addr) (m cr : Nat) (xs : List Int) (w : World) (hm : Masks w) (h : canH i o c n0 n1 n2 n3 = true) (hr : Bytes w (some p) m xs) (hb : ∀ j : Nat, 0 ≤ xs[j]?.getD 0 ∧ xs[j]?.getD 0 ≤ 255) :
    Calls Tryd.prog 5 #[hdV i r o aa tc rd ra c, ctV n0 n1 n2 n3, .slice (some p) m cr] w fun e w' => e = .returned (.bool true) ∧ Below w.heap.size w w' := by
  have hRoom := hr.room
  have hLen := Lib.hid hr.len
  have HR := Lib.hid hr
  have HB := Lib.hid hb
  clear hr hb
  obtain ⟨hD, hz⟩ := dcd_enc i o c n0 n1 n2 n3 r aa tc rd ra h xs
  have qc := eql_ct
  have qd := eq_ct
  obtain ⟨i0, hi, hz0, hz1, hz2⟩ := info_parts info_u8
  have HD := Lib.hid hD
  have HZ := Lib.hid hz
  clear hD hz
  go_enter Tryd.func5, Tryd.ntmps5
  go_wp2_with fail
  refine (Encode_at _ _ _ _ _ _ _ _ _ _ _ _ _ h (hm.below (by (repeat first | (with_reducible exact Below.refl _ _) | (with_reducible assumption) | (with_reducible refine below_drewN ?_ _) | (with_reducible refine Below.drew ?_) | (with_reducible refine Below.alloc ?_ (by go_size) _) | (with_reducible refine Below.setCell ?_ (by go_size) _))))).mono ?_
  rintro e w1 ⟨g, cap, rfl, hg, hby, hB1⟩
  have hB : Below w.heap.size w w1 := Below.trans (by (repeat first | (with_reducible exact Below.refl _ _) | (with_reducible assumption) | (with_reducible refine below_drewN ?_ _) | (with_reducible refine Below.drew ?_) | (with_reducible refine Below.alloc ?_ (by go_size) _) | (with_reducible refine Below.setCell ?_ (by go_size) _))) (hB1.mono (by simp; omega))
  have R2 := Lib.hid ((hB1.block w.heap.size (by simp; omega)).trans (rows2 w _ _ 0).1)
  have R3 := Lib.hid ((hB1.block (w.heap.size + 1) (by simp)).trans (rows2 w _ _ 0).2)
  have c2 := cells8 R2.out
  have c3 := cells4 R3.out
  have s1 : w.heap.size + 1 < w1.heap.size := by have := hB1.size; simp at this; omega
  clear hB1 hg
  go_wp2_with fail
  refine (Can_any _ _ _ _ _ _ _ _ _ _ _ _ _).mono ?_
  rintro e w2 ⟨rfl, hB2⟩
  have h2 := hby.below hB2
  clear hby c2 c3
  go_wp2_with fail
  refine (Clone_own ⟨g, 0, none⟩ 12 cap _ w2 h2 (by omega)).mono ?_
  rintro e w3 ⟨g3, cap3, rfl, hown, hB3⟩
  have hB13 : Below w1.heap.size w1 w3 := hB2.trans (hB3.mono hB2.size)
  have OWN := Lib.hid hown
  clear hown h2
  have hr3 : Bytes w3 (some p) m xs := HR.out.below (hB.trans (hB13.mono hB.size))
  have HR3 := Lib.hid hr3
  have s3 : w2.heap.size ≤ w3.heap.size := hB3.size
  have s12 : w1.heap.size ≤ w2.heap.size := hB2.size
  clear hr3 hB2 hB3
  go_wp2_with (at_builtin; refine wpList_append_own _ rfl _ _ 25 rfl w2.heap.size 5 i0 (.int .u8 0) 1 1 Tryd.underlying25 hi hz0 hz1 hz2 rfl (by decide) _ 12 _ rfl OWN.out p m cr (xs.map (Value.int .u8)) rfl ?a1 ?a2 ?a3 ?a4 ?a5 ?a6 ?_)
  case a1 => have := hLen.out; simp; omega
  case a2 =>
    intro j u hj
    have hj' : j < xs.length := by
      have := (List.getElem?_eq_some_iff.1 hj).1
      simpa using this
    rw [HR3.out.at' p rfl j (by have := hLen.out; omega)]
    simp [List.getElem?_map, List.getElem?_eq_getElem hj'] at hj
    simp [List.getD, List.getElem?_eq_getElem hj', hj]
  case a3 => intro u hu; obtain ⟨x, _, rfl⟩ := List.mem_map.1 hu; rfl
  case a4 => unfold maxLen; omega
  case a5 => omega
  case a6 => exact s3
  intro v4 w4 hown4 hgrow _
  rw [← List.map_append] at hown4
  obtain ⟨g4, cap4, hv, hg4, hlt4, hn4, hc4, hx4, hcell4⟩ := owned_place hown4 (by omega) (by omega)
  have hB14 : Below w1.heap.size w1 w4 := hB13.trans (Below.mono (B := w2.heap.size) ((Below.refl _ _).grown hgrow s3 (fun k hk => (OWN.out.lt k hk).1)) s12)
  have hbd := encN_bd h (r := r) (aa := aa) (tc := tc) (rd := rd) (ra := ra) (xs := xs) HB.out
  have ht : Twelve w4 g4 0 (fun j => (encN i (flags o c r aa tc rd ra) n0 n1 n2 n3 ++ xs)[j]?.getD 0) := ⟨fun j hj => hcell4 j (by omega), hbd, hlt4⟩
  unfold maxLen at hc4
  clear hown4 hgrow hcell4 hbd HR HR3 HB
  rw [hv]
  clear hv
  go_wp2_with fail
  have hD' := HD.out
  refine (Decode_ok g4 0 (12 + m) cap4 _ i r o aa tc rd ra c n0 n1 n2 n3 HD.out w4 (by omega) (by omega) (hm.below (Below.trans hB (hB14.mono hB.size))) ht HZ.out).mono ?_
  rintro e w5 ⟨rfl, hB5⟩
  have hB15 : Below w1.heap.size w1 w5 := hB14.trans (hB5.mono hB14.size)
  have c2 := cells8 ((hB15.block w.heap.size (by omega)).trans R2.out)
  have c3 := cells4 ((hB15.block (w.heap.size + 1) (by omega)).trans R3.out)
  have s5 : w.heap.size + 1 < w5.heap.size := by have := hB15.size; omega
  have s5' : w.heap.size < w5.heap.size := by omega
  have hE : Below w.heap.size w w5 := hB.trans (hB15.mono hB.size)
  have sE := hE.size
  clear hD' HD HZ OWN R2 R3 hB hB13 hB14 hB5 hB15 ht hm
  go_wp2_with fail
  go_ret
  exact ⟨by simp, by (repeat first | (with_reducible exact Below.refl _ _) | (with_reducible assumption) | (with_reducible refine below_drewN ?_ _) | (with_reducible refine Below.drew ?_) | (with_reducible refine Below.alloc ?_ (by go_size) _) | (with_reducible refine Below.setCell ?_ (by go_size) _))⟩

set_option maxHeartbeats 2000000 in
set_option maxRecDepth 100000 in
theorem Back_nil (i o c n0 n1 n2 n3 : Int) (r aa tc rd ra : Bool) (m cr : Nat) (w : World) (hm : Masks w) (h : canH i o c n0 n1 n2 n3 = true) (hm0 : m = 0) (hcr : cr = 0) :
    Calls Tryd.prog 5 #[hdV i r o aa tc rd ra c, ctV n0 n1 n2 n3, .slice none m cr] w fun e w' => e = .returned (.bool true) ∧ Below w.heap.size w w' := by
  subst hm0 hcr
  obtain ⟨xs, hxs⟩ : ∃ xs : List Int, xs = [] := ⟨_, rfl⟩
  have HXS := Lib.hid hxs
  clear hxs
  obtain ⟨hD, hz⟩ := dcd_enc i o c n0 n1 n2 n3 r aa tc rd ra h xs
  have qc := eql_ct
  have qd := eq_ct
  obtain ⟨i0, hi, hz0, hz1, hz2⟩ := info_parts info_u8
  have HD := Lib.hid hD
  have HZ := Lib.hid hz
  clear hD hz
  go_enter Tryd.func5, Tryd.ntmps5
  go_wp2_with fail
  refine (Encode_at _ _ _ _ _ _ _ _ _ _ _ _ _ h (hm.below (by (repeat first | (with_reducible exact Below.refl _ _) | (with_reducible assumption) | (with_reducible refine below_drewN ?_ _) | (with_reducible refine Below.drew ?_) | (with_reducible refine Below.alloc ?_ (by go_size) _) | (with_reducible refine Below.setCell ?_ (by go_size) _))))).mono ?_
  rintro e w1 ⟨g, cap, rfl, hg, hby, hB1⟩
  have hB : Below w.heap.size w w1 := Below.trans (by (repeat first | (with_reducible exact Below.refl _ _) | (with_reducible assumption) | (with_reducible refine below_drewN ?_ _) | (with_reducible refine Below.drew ?_) | (with_reducible refine Below.alloc ?_ (by go_size) _) | (with_reducible refine Below.setCell ?_ (by go_size) _))) (hB1.mono (by simp; omega))
  have R2 := Lib.hid ((hB1.block w.heap.size (by simp; omega)).trans (rows2 w _ _ 0).1)
  have R3 := Lib.hid ((hB1.block (w.heap.size + 1) (by simp)).trans (rows2 w _ _ 0).2)
  have c2 := cells8 R2.out
  have c3 := cells4 R3.out
  have s1 : w.heap.size + 1 < w1.heap.size := by have := hB1.size; simp at this; omega
  clear hB1 hg
  go_wp2_with fail
  refine (Can_any _ _ _ _ _ _ _ _ _ _ _ _ _).mono ?_
  rintro e w2 ⟨rfl, hB2⟩
  have h2 := hby.below hB2
  clear hby c2 c3
  go_wp2_with fail
  refine (Clone_own ⟨g, 0, none⟩ 12 cap _ w2 h2 (by omega)).mono ?_
  rintro e w3 ⟨g3, cap3, rfl, hown, hB3⟩
  have hB13 : Below w1.heap.size w1 w3 := hB2.trans (hB3.mono hB2.size)
  have OWN := Lib.hid hown
  clear hown h2
  have s3 : w2.heap.size ≤ w3.heap.size := hB3.size
  clear hB2 hB3
  go_wp2_with (at_builtin; refine wpList_append_own_none rfl _ _ 25 rfl w2.heap.size 5 i0 1 Tryd.underlying25 hi _ 12 _ rfl OWN.out rfl ?_)
  obtain ⟨g4, cap4, hv, hg4, hlt4, hn4, hc4, hx4, hcell4⟩ := owned_place OWN.out (by omega) (by omega)
  have hB14 : Below w1.heap.size w1 w3 := hB13
  have hbd := encN_bd h (r := r) (aa := aa) (tc := tc) (rd := rd) (ra := ra) (xs := xs) (by intro j; rw [HXS.out]; simp)
  have ht : Twelve w3 g4 0 (fun j => (encN i (flags o c r aa tc rd ra) n0 n1 n2 n3 ++ xs)[j]?.getD 0) := ⟨fun j hj => (hcell4 j (by omega)).trans (by rw [HXS.out, List.append_nil]), hbd, hlt4⟩
  unfold maxLen at hc4
  clear hcell4 hbd
  injection hv with hv1 hv2 hv3
  injection hv1 with hv4
  injection hv4 with hv5
  subst hv5 hv3
  clear hv2
  refine (Decode_ok g3 0 12 cap3 _ i r o aa tc rd ra c n0 n1 n2 n3 HD.out w3 (by omega) (by omega) (hm.below (Below.trans hB (hB14.mono hB.size))) ht HZ.out).mono ?_
  rintro e w5 ⟨rfl, hB5⟩
  have hB15 : Below w1.heap.size w1 w5 := hB14.trans (hB5.mono hB14.size)
  have c2 := cells8 ((hB15.block w.heap.size (by omega)).trans R2.out)
  have c3 := cells4 ((hB15.block (w.heap.size + 1) (by omega)).trans R3.out)
  have s5 : w.heap.size + 1 < w5.heap.size := by have := hB15.size; omega
  have s5' : w.heap.size < w5.heap.size := by omega
  have hE : Below w.heap.size w w5 := hB.trans (hB15.mono hB.size)
  have sE := hE.size
  clear HD HZ OWN R2 R3 HXS hB hB13 hB14 hB5 hB15 ht hm
  go_wp2_with fail
  go_ret
  exact ⟨by simp, by (repeat first | (with_reducible exact Below.refl _ _) | (with_reducible assumption) | (with_reducible refine below_drewN ?_ _) | (with_reducible refine Below.drew ?_) | (with_reducible refine Below.alloc ?_ (by go_size) _) | (with_reducible refine Below.setCell ?_ (by go_size) _))⟩

end Go.Proofs.YtigpkcpdccgnfaaDoor
