/-
  The walk of PrefixWrites.
-/
import Derived.Test.YtdifemaidngnjaaPfF
namespace Go.Proofs.Ytdifemaidngnjaa
open Go.RowKit
set_option linter.unusedVariables false
set_option maxRecDepth 100000

def encO (b : Bs) : Bs := if 65535 < b.length then [] else encP b
def codeF (b : Bs) : Int := if 65535 < b.length then 1 else 0
theorem EncF.out {w : World} {b : Bs} {e : Ending} {w' : World} (h : EncF w b e w') : ∃ A c, e = .returned (.tuple #[.slice A (encO b).length c, .int .i64 (codeF b)]) ∧ Sl w' A c (encO b) ∧ Below w.heap.size w w' := by
  obtain ⟨hB, ⟨hl, rfl⟩ | ⟨hl, v, rfl, ho⟩⟩ := h
  · exact ⟨none, 0, by simp [encO, codeF, hl], by simp only [encO, hl, if_true]; exact Sl.none _, hB⟩
  · have hn : ¬ 65535 < b.length := by omega
    obtain ⟨A, c, rfl, hs⟩ := ho.bysN
    exact ⟨A, c, by simp [encO, codeF, hn], by simp only [encO, hn, if_false]; exact hs, hB⟩

set_option maxHeartbeats 1000000 in
theorem PrefixWrites_any {PR : RdrP} (I : PfI PR) (A : Option Addr) (b : Bs) (c : Nat) (w : World) (hb : Sl w A c b) : Calls Try.prog 4 #[.slice A b.length c] w fun e w' => e = .returned (.bool true) ∧ Below w.heap.size w w' := by
  have E1 := Lib.hid (I.enc A b c w hb)
  have E2 := Lib.hid (fun W h => encF_ref A b c W h)
  have E3 := Lib.hid (fun A c W h => I.enc A [5] c W h)
  have EO : Hid (∀ {w e w'}, EncF w b e w' → ∃ A c, e = .returned (.tuple #[.slice A (encO b).length c, .int .i64 (codeF b)]) ∧ Sl w' A c (encO b) ∧ Below w.heap.size w w') := Lib.hid (fun h => h.out)
  have H5 : Hid (∀ {w e w'}, EncF w [5] e w' → ∃ A c, e = .returned (.tuple #[.slice A 3 c, .int .i64 0]) ∧ Sl w' A c [0, 1, 5] ∧ Below w.heap.size w w') := Lib.hid (fun h => h.out)
  have HB := Lib.hid hb
  generalize encO b = x at *
  generalize codeF b = k at *
  have hk : (k == k) = true := by simp
  generalize b.length = n at *
  clear hb
  go_enter Try.func4, Try.ntmps4
  go_wp2_with fail
  refine E1.out.mono ?_
  intro e w1 h
  obtain ⟨A1, c1, rfl, s1, k1⟩ := EO.out h
  have b1 := HB.out.on k1
  have bel := k1
  have big := k1.size
  clear E1 h k1
  go_wp2_with fail
  refine (E2.out _ b1).mono ?_
  intro e w2 h
  obtain ⟨A2, c2, rfl, s2, k2⟩ := EO.out h
  replace s1 := s1.on k2
  replace bel := Below.trans bel (k2.mono big)
  replace big := Nat.le_trans big k2.size
  have q : Below w2.heap.size w2 (w2.alloc (.cells #[.int .u8 5] 5)) := Below.alloc (Below.refl _ _) (Nat.le_refl _) _
  have s5 : Sl (w2.alloc (.cells #[.int .u8 5] 5)) (some ⟨w2.heap.size, 0, none⟩) 1 [5] := Sl.made (l := [5]) (by rfl) (by simp)
  replace s1 := s1.on q
  replace s2 := s2.on q
  replace bel := Below.trans bel (q.mono big)
  replace big := Nat.le_trans big q.size
  clear E2 h k2 b1 q
  go_wp2_with fail
  refine (E3.out _ _ _ s5).mono ?_
  intro e w3 h
  obtain ⟨A3, c3, rfl, s3, k3⟩ := H5.out h
  replace s1 := s1.on k3
  replace s2 := s2.on k3
  replace bel := Below.trans bel (k3.mono big)
  replace big := Nat.le_trans big k3.size
  have EQ := Lib.hid (EqualB_any A1 A2 x x x.length x.length c1 c2 w3 s1.bys s2.bys rfl rfl)
  rw [show (x == x) = true by simp] at EQ
  have q : Below w3.heap.size w3 (w3.alloc (.cells #[.int .u8 0, .int .u8 1, .int .u8 5] 5)) := Below.alloc (Below.refl _ _) (Nat.le_refl _) _
  have s6 : Sl (w3.alloc (.cells #[.int .u8 0, .int .u8 1, .int .u8 5] 5)) (some ⟨w3.heap.size, 0, none⟩) 3 [0, 1, 5] := Sl.made (l := [0, 1, 5]) (by rfl) (by simp)
  have EQ2 := Lib.hid (EqualB_any A3 (some ⟨w3.heap.size, 0, none⟩) [0, 1, 5] [0, 1, 5] 3 3 c3 3 _ (s3.on q).bys s6.bys rfl rfl)
  rw [show (([0, 1, 5] : Bs) == [0, 1, 5]) = true by decide] at EQ2
  have BE := Lib.hid (Below.trans bel (q.mono big))
  clear E3 h k3 s1 s2 s3 s5 s6 q bel big EO H5
  go_wp2_with fail
  refine EQ.out.mono ?_
  rintro e w4 ⟨rfl, rfl⟩
  go_wp2_with fail
  refine EQ2.out.mono ?_
  rintro e w5 ⟨rfl, rfl⟩
  go_wp2_with fail
  go_ret
  exact ⟨rfl, BE.out⟩
end Go.Proofs.Ytdifemaidngnjaa
