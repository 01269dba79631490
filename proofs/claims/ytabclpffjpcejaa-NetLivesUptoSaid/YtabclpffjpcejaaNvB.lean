/-
  The document's net: Addr, Take, Conns.
-/
import Derived.Test.YtabclpffjpcejaaNvA
import Derived.Test.YtabclpffjpcejaaIn
namespace Go.Proofs.Ytabclpffjpcejaa
open Go.RowKit Go.Maps
set_option linter.unusedVariables false
set_option maxRecDepth 100000

section
variable {B x last : Nat} {v : Value} {L : List Cr}
theorem AddrR_no (w : World) (h : RefS B x last v L w) (hl : L.length ≤ 1000) (a : Int) (ha : ∀ c ∈ L, (c.id : Int) ≠ a) :
    Calls Try.prog 23 #[.pointer (some ⟨x, 0, none⟩), .int .i64 a] w fun e w' => e = .returned (.tuple #[.int .i64 0, .bool false]) ∧ Below w.heap.size w w' := by
  have PL := Lib.hid (placeN_any w h hl a)
  have HA := Lib.hid ha
  clear h ha
  go_enter Try.func23, Try.ntmps23
  go_wp2_with fail
  refine PL.out.mono ?_
  rintro e w1 ⟨⟨i, hi, hid, rfl⟩ | ⟨hno, rfl⟩, b1⟩
  · exact absurd hid (HA.out _ (List.getElem_mem hi))
  · have B1 := Lib.hid b1
    clear b1 hno PL
    go_wp2_with fail
    go_ret2
    exact ⟨rfl, B1.out⟩
theorem placed (h : (L.map fun c => (c.id : Int)).Pairwise (· < ·)) {i j : Nat} (hi : i < L.length) (hj : j < L.length) (e : (L[i].id : Int) = (L[j].id : Int)) : i = j := by
  have hn : (L.map fun c => (c.id : Int)).Nodup := h.imp fun h => by omega
  have h3 : (L.map fun c => (c.id : Int))[i]'(by simpa using hi) = (L.map fun c => (c.id : Int))[j]'(by simpa using hj) := by simpa using e
  exact (List.getElem_inj hn).1 h3
set_option maxHeartbeats 1000000 in
theorem AddrR_yes (w : World) (h : RefS B x last v L w) (hl : L.length ≤ 1000) (i : Nat) (hi : i < L.length) :
    Calls Try.prog 23 #[.pointer (some ⟨x, 0, none⟩), .int .i64 L[i].id] w fun e w' => e = .returned (.tuple #[.int .i64 L[i].addr, .bool true]) ∧ Below w.heap.size w w' := by
  have PL := Lib.hid (placeN_any w h hl L[i].id)
  have H := Lib.hid h
  clear h
  go_enter Try.func23, Try.ntmps23
  go_wp2_with fail
  refine PL.out.mono ?_
  rintro e w1 ⟨⟨j, hj, hid, rfl⟩ | ⟨hno, rfl⟩, b1⟩
  · obtain rfl : j = i := placed H.out.rise hj hi hid
    have h1 := H.out.below b1
    obtain ⟨g, c, rfl, hc1, hc2, d0, d1, d2, hz⟩ := h1.cells hi
    obtain ⟨n, hn⟩ : ∃ n, n = L.length := ⟨_, rfl⟩
    have c0 := h1.cell.1
    rw [← hn] at c0 hc1
    have hin : (j : Int) < (n : Int) := by omega
    have hin0 : (0 : Int) ≤ (j : Int) := by omega
    have hnc : c ≤ 9223372036854775807 := by unfold maxLen at hc2; omega
    have B1 := Lib.hid b1
    obtain ⟨ad, had⟩ : ∃ ad, ad = L[j].addr := ⟨_, rfl⟩
    rw [← had] at d1
    have HAD := Lib.hid had
    clear h1 hz hc2 hn b1 PL hid H d2 d0 had
    go_wp2_with fail
    go_ret2
    rw [← HAD.out]
    exact ⟨rfl, B1.out⟩
  · exact absurd rfl (hno _ (List.getElem_mem hi))
theorem TakeR_no (w : World) (h : RefS B x last v L w) (hl : L.length ≤ 1000) (a : Int) (ha : ∀ c ∈ L, (c.id : Int) ≠ a) :
    Calls Try.prog 18 #[.pointer (some ⟨x, 0, none⟩), .int .i64 a] w fun e w' => e = .returned (.tuple #[.slice none 0 0, .int .i64 150]) ∧ Below w.heap.size w w' := by
  have PL := Lib.hid (placeN_any w h hl a)
  have HA := Lib.hid ha
  clear h ha
  go_enter Try.func18, Try.ntmps18
  go_wp2_with fail
  refine PL.out.mono ?_
  rintro e w1 ⟨⟨i, hi, hid, rfl⟩ | ⟨hno, rfl⟩, b1⟩
  · exact absurd hid (HA.out _ (List.getElem_mem hi))
  · have B1 := Lib.hid b1
    clear b1 hno PL
    go_wp2_with fail
    go_ret2
    exact ⟨rfl, B1.out⟩
set_option maxHeartbeats 1000000 in
theorem TakeR_yes (w : World) (h : RefS B x last v L w) (hl : L.length ≤ 1000) (i : Nat) (hi : i < L.length) :
    Calls Try.prog 18 #[.pointer (some ⟨x, 0, none⟩), .int .i64 L[i].id] w fun e w' => e = .returned (.tuple #[L[i].v, .int .i64 0]) ∧ Bv w' B L[i].v L[i].b ∧ RefS B x last v (L.set i { L[i] with v := .slice none 0 0, b := [] }) w' ∧ Mod (FootV x v) w w' := by
  have PL := Lib.hid (placeN_any w h hl L[i].id)
  have H := Lib.hid h
  clear h
  go_enter Try.func18, Try.ntmps18
  go_wp2_with fail
  refine PL.out.mono ?_
  rintro e w1 ⟨⟨j, hj, hid, rfl⟩ | ⟨hno, rfl⟩, b1⟩
  · obtain rfl : j = i := placed H.out.rise hj hi hid
    have h1 := H.out.below b1
    obtain ⟨g, c, rfl, hc1, hc2, d0, d1, d2, hz⟩ := h1.cells hi
    obtain ⟨n, hn⟩ : ∃ n, n = L.length := ⟨_, rfl⟩
    have c0 := h1.cell.1
    have h1' := h1
    rw [← hn] at c0 hc1 h1'
    have hin : (j : Int) < (n : Int) := by omega
    have hin0 : (0 : Int) ≤ (j : Int) := by omega
    have hnc : c ≤ 9223372036854775807 := by unfold maxLen at hc2; omega
    have z2 := hz (j * 3 + 2)
    have hp := h1'.put hn hi (.slice none 0 0) [] (World.ownsRow_nil _ _ _ _)
    rw [hn] at hp
    have hM : Mod (FootV x (.slice (some ⟨g, 0, none⟩) L.length c)) w (w1.setCell ⟨g, j * 3 + 2, none⟩ (.slice none 0 0)) := (Mod.below b1).trans (S' := fun k => k = g) ⟨rfl, rfl, rfl, by simp, fun i _ hn => Below.heap_setCell _ _ _ _ hn⟩ (fun k e => .inl (.inr (by rw [e]; rfl)))
    have hbv : Bv (w1.setCell ⟨g, j * 3 + 2, none⟩ (.slice none 0 0)) B L[j].v L[j].b := by
      refine own_mod (S := fun k => k = g) (h1.bv _ (List.getElem_mem hi)) ⟨rfl, rfl, rfl, by simp, fun i _ hn => Below.heap_setCell _ _ _ _ hn⟩ (fun k hk e => h1.type (List.getElem_mem hi) hk (.inr (by rw [e]; rfl)))
    obtain ⟨A9, c9, hv9, hc9, -⟩ := row_slice (h1.bv _ (List.getElem_mem hi))
    have FIN := Lib.hid (And.intro hbv (And.intro hp hM))
    rw [hv9] at d2
    obtain ⟨lb, hlb⟩ : ∃ n, n = L[j].b.length := ⟨_, rfl⟩
    rw [← hlb] at hv9 d2
    have HV := Lib.hid hv9
    clear h1 h1' hz hc2 hn b1 PL hid H d1 d0 hp hM hbv hc9 hv9 hlb
    go_wp2_with fail
    go_ret2
    refine ⟨?_, FIN.out⟩
    rw [HV.out]
    rfl
  · exact absurd rfl (hno _ (List.getElem_mem hi))
end
end Go.Proofs.Ytabclpffjpcejaa
