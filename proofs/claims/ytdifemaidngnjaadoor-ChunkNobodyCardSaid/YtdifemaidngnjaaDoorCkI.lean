/-
  The walk of ChunkWrites.
-/
import Derived.Test.YtdifemaidngnjaaDoorFbF
namespace Go.Proofs.YtdifemaidngnjaaDoor
open Go.RowKit
set_option linter.unusedVariables false
set_option maxRecDepth 100000

def outK (b : Bs) (size : Int) : Bs := if size < 1 ∨ 16777215 < size then [] else encK size.toNat b
def codeK (size : Int) : Int := if size < 1 ∨ 16777215 < size then 1 else 0
theorem EncK.out {w : World} {b : Bs} {size : Int} {e : Ending} {w' : World} (h : EncK w b size e w') : ∃ A c, e = .returned (.tuple #[.slice A (outK b size).length c, .int .i64 (codeK size)]) ∧ Sl w' A c (outK b size) ∧ Below w.heap.size w w' := by
  obtain ⟨hB, ⟨hl, rfl⟩ | ⟨h1, h2, v, rfl, ho⟩⟩ := h
  · have e1 : outK b size = [] := by unfold outK; rw [if_pos hl]
    have e2 : codeK size = 1 := by unfold codeK; rw [if_pos hl]
    rw [e1, e2]
    exact ⟨none, 0, rfl, Sl.none _, hB⟩
  · have hn : ¬ (size < 1 ∨ 16777215 < size) := by omega
    have e1 : outK b size = encK size.toNat b := by unfold outK; rw [if_neg hn]
    have e2 : codeK size = 0 := by unfold codeK; rw [if_neg hn]
    rw [e1, e2]
    obtain ⟨A, c, rfl, hs⟩ := ho.bysN
    exact ⟨A, c, rfl, hs, hB⟩
set_option maxHeartbeats 1000000 in
theorem ChunkWrites_any (A : Option Addr) (b : Bs) (c : Nat) (size : Int) (w : World) (hb : Sl w A c b) (hT : TabC w) (hl : b.length ≤ 1099511627776) (h0 : -9223372036854775808 ≤ size) (h1 : size ≤ 9223372036854775807) : Calls Tryd.prog 3 #[.slice A b.length c, .int .i64 size] w fun e w' => e = .returned (.bool true) ∧ Below w.heap.size w w' := by
  have E1 := Lib.hid (encL_any A b c size w hb hT hl)
  have E2 := Lib.hid (fun W h => encK_ref A b c size W h (by omega))
  have E3 := Lib.hid (fun W (hT : TabC W) => encL_any none [] 0 1 W (Sl.none W) hT (by simp))
  have EO : Hid (∀ {w e w'}, EncK w b size e w' → ∃ A c, e = .returned (.tuple #[.slice A (outK b size).length c, .int .i64 (codeK size)]) ∧ Sl w' A c (outK b size) ∧ Below w.heap.size w w') := Lib.hid (fun h => h.out)
  have H5 : Hid (∀ {w e w'}, EncK w [] 1 e w' → ∃ A c, e = .returned (.tuple #[.slice A 5 c, .int .i64 0]) ∧ Sl w' A c [48, 13, 10, 13, 10] ∧ Below w.heap.size w w') := Lib.hid (fun h => h.out)
  have HB := Lib.hid hb
  have HT := Lib.hid hT
  generalize outK b size = x at *
  generalize codeK size = k at *
  have hk : (k == k) = true := by simp
  generalize b.length = n at *
  clear hb h0 h1 hT
  go_enter Tryd.func3, Tryd.ntmps3
  go_wp2_with fail
  refine E1.out.mono ?_
  intro e w1 h
  obtain ⟨A1, c1, rfl, s1, k1⟩ := EO.out h
  have b1 := HB.out.on k1
  have bel := k1
  have big := k1.size
  clear E1 h k1
  go_wp2_with fail
  refine (E2.out _ b1).mono ?_
  intro e w2 h
  obtain ⟨A2, c2, rfl, s2, k2⟩ := EO.out h
  replace s1 := s1.on k2
  replace bel := Below.trans bel (k2.mono big)
  replace big := Nat.le_trans big k2.size
  clear E2 h k2 b1
  go_wp2_with fail
  refine (E3.out _ (HT.out.on bel)).mono ?_
  intro e w3 h
  obtain ⟨A3, c3, rfl, s3, k3⟩ := H5.out h
  replace s1 := s1.on k3
  replace s2 := s2.on k3
  replace bel := Below.trans bel (k3.mono big)
  have EQ := Lib.hid (EqualB_any A1 A2 x x x.length x.length c1 c2 w3 s1.bys s2.bys rfl rfl)
  rw [show (x == x) = true by simp] at EQ
  have ST : (convert 22 9 (.slice A3 5 c3)).run Tryd.prog w3 = .ok (.string ⟨#[48, 13, 10, 13, 10]⟩) w3 := string_bys A3 [48, 13, 10, 13, 10] c3 w3 s3.bys
  have BE := Lib.hid bel
  generalize x.length = xn at *
  clear E3 h k3 s1 s2 s3 bel big EO H5
  go_wp2_with fail
  refine EQ.out.mono ?_
  rintro e w4 ⟨rfl, rfl⟩
  go_wp2_with fail
  go_ret
  exact ⟨rfl, BE.out⟩
end Go.Proofs.YtdifemaidngnjaaDoor
