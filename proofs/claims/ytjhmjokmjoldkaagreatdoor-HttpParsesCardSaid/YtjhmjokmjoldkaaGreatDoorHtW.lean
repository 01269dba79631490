/-
  A small request is read (awake); readers that no call made; the walk of HttpNobody.
-/
import Derived.Test.YtjhmjokmjoldkaaGreatDoorHuG
import Derived.Test.YtjhmjokmjoldkaaGreatDoorHtV
import Derived.Test.YtjhmjokmjoldkaaGreatDoorRdE
namespace Go.Proofs.YtjhmjokmjoldkaaGreatDoor
open Go.RowKit Go.Shelf
set_option linter.unusedVariables false
set_option maxRecDepth 100000

theorem RqS.at {S : Nat → Prop} {w : World} {v : Value} {L : List Rq} (h : RqS w S v L) (hn : 0 < L.length) : ∃ g c, v = .slice (some ⟨g, 0, none⟩) L.length c ∧ ∀ j (hj : j < L.length), ∃ A d, w.cell? ⟨g, j * 3, none⟩ = some (.string (bs reqL)) ∧ w.cell? ⟨g, j * 3 + 1, none⟩ = some (.slice A L[j].1.length d) ∧ w.cell? ⟨g, j * 3 + 2, none⟩ = some (.bool L[j].2) ∧ Sl w A d L[j].1 := by
  obtain ⟨xs, ho, -, h4⟩ := h
  rcases ho.2 with ⟨hv, h0⟩ | ⟨g, cap, cur, hv, hb, hh, hc, hm2, hsz, ht⟩
  · omega
  refine ⟨g, cap, hv, fun j hj => ?_⟩
  obtain ⟨x, a, b, c, ⟨⟨A, d, rfl, hs⟩, -⟩, -⟩ := h4 j hj
  have cell : ∀ i y, i < L.length * 3 → xs[i]? = some y → w.cell? ⟨g, i, none⟩ = some y := fun i y hi hy => by
    rw [cell_of_row _ g i _ _ _ hh]
    rw [← ht, List.getElem?_take_of_lt hi] at hy
    simpa using hy
  exact ⟨A, d, cell _ _ (by omega) a, cell _ _ (by omega) b, cell _ _ (by omega) c, hs⟩
def askB : Bs := [80, 79, 83, 84, 32, 47, 100, 110, 115, 45, 113, 117, 101, 114, 121, 32, 72, 84, 84, 80, 47, 49, 46, 49, 13, 10, 72, 111, 115, 116, 58, 32, 114, 101, 115, 111, 108, 118, 101, 114, 13, 10, 67, 111, 110, 116, 101, 110, 116, 45, 84, 121, 112, 101, 58, 32, 97, 112, 112, 108, 105, 99, 97, 116, 105, 111, 110, 47, 100, 110, 115, 45, 109, 101, 115, 115, 97, 103, 101, 13, 10, 67, 111, 110, 116, 101, 110, 116, 45, 76, 101, 110, 103, 116, 104, 58, 32, 49, 13, 10, 13, 10, 7]
theorem askB_eq : askH 1 ++ [7] = askB := by
  have h : decD 1 = [49] := by unfold decD; rw [Go.Lib.decDigits]; rfl
  unfold askH lenLine
  rw [h]
  rfl
set_option maxRecDepth 100000 in
theorem askB_go : goH (.hd []) askB = (.hd [], [([7], true)], false) := by kernel_rfl
theorem askB_len : askB.length = 103 := by decide
set_option maxRecDepth 100000 in
set_option maxHeartbeats 4000000 in
theorem awakeH_any (w : World) (hM : MaxL w) : Calls Tryz.prog 9 #[] w fun e w' => e = .returned (.bool true) ∧ Below w.heap.size w w' := by
  obtain ⟨W1, hW1⟩ : ∃ W1, W1 = w.alloc (.cells #[.int .u8 7] 5) := ⟨_, rfl⟩
  have k1 : Below w.heap.size w W1 := by rw [hW1]; exact Below.alloc (Below.refl _ _) (Nat.le_refl _) _
  have s1 : Sl W1 (some ⟨w.heap.size, 0, none⟩) 1 [7] := by rw [hW1]; exact Sl.made (l := [7]) rfl (by simp)
  have AK := ask_plain (some ⟨w.heap.size, 0, none⟩) [7] 1 W1 s1 (by simp) (IT1 W1)
  rw [show ([7] : Bs).length = 1 from rfl, askB_eq] at AK
  have AK := Lib.hid AK
  have HW1 := Lib.hid hW1
  have K1 := Lib.hid k1
  have HM := Lib.hid hM
  clear hW1 k1 s1 hM
  go_enter Tryz.func9, Tryz.ntmps9
  go_wp2_with fail
  rw [← HW1.out]
  refine AK.out.mono ?_
  rintro e w2 ⟨v2, rfl, o2, k2⟩
  have o2' := o2
  obtain ⟨A2, c2, rfl, s2⟩ := o2'.bysN
  have K2 := Lib.hid (K1.out.trans (k2.mono K1.out.size))
  have O2 := Lib.hid o2
  have S2 := Lib.hid s2
  have hz1 := K1.out.size
  rw [askB_len]
  clear AK k2 o2 o2' s2
  go_wp2_with fail
  refine (newH_any w2).mono ?_
  rintro e w3 ⟨g, F, rfl, k3, hg, st, hF⟩
  have K3 := Lib.hid (K2.out.trans (k3.mono K2.out.size))
  have FD := feed_any g F (.hd []) A2 askB c2 w3 st HsOk.start (S2.out.on k3) (fun hne p hp hf => by
    have h1 := (O2.out.lt p.block (by rw [hp]; rfl)).2
    have h2 := (hF _).1 hf
    omega) (HM.out.on K3.out) (fun hf => by
    have h2 := (hF _).1 hf
    have h3 := HM.out.lt
    have := K2.out.size
    omega) (by rw [askB_go]; simp)
  rw [askB_len] at FD
  have FD := Lib.hid FD
  have HG : Hid (∀ j, F j → w.heap.size ≤ j) := Lib.hid (fun j hj => by have := (hF j).1 hj; have := K2.out.size; omega)
  clear k3 hg st hF O2 S2
  go_wp2_with fail
  refine FD.out.mono ?_
  rintro e w4 ⟨v4, F4, he, st4, -, m4, hf4, rq4⟩
  rw [askB_go] at he rq4
  have K4 := Lib.hid (Mod.out K3.out m4 K3.out.size HG.out)
  obtain ⟨G, c4, rfl, hat⟩ := rq4.at (by simp)
  obtain ⟨A5, d5, -, y1, y2, s5⟩ := hat 0 (by simp)
  have he : e = .returned (.tuple #[.slice (some ⟨G, 0, none⟩) 1 c4, .int .i64 0]) := he
  subst he
  have y1 : w4.cell? ⟨G, 1, none⟩ = some (.slice A5 1 d5) := y1
  have y2 : w4.cell? ⟨G, 2, none⟩ = some (.bool true) := y2
  obtain ⟨W5, hW5⟩ : ∃ W5, W5 = w4.alloc (.cells #[.int .u8 7] 5) := ⟨_, rfl⟩
  have k5 : Below w4.heap.size w4 W5 := by rw [hW5]; exact Below.alloc (Below.refl _ _) (Nat.le_refl _) _
  have y2' : W5.cell? ⟨G, 2, none⟩ = some (.bool true) := cell_on y2 k5
  have s7 : Sl W5 (some ⟨w4.heap.size, 0, none⟩) 1 [7] := by rw [hW5]; exact Sl.made (l := [7]) rfl (by simp)
  have EQ := Lib.hid (EqualB_any A5 (some ⟨w4.heap.size, 0, none⟩) [7] [7] 1 1 d5 1 W5 (s5.on k5).bys s7.bys rfl rfl)
  have K5 := Lib.hid (K4.out.trans (k5.mono K4.out.size))
  have HW5 := Lib.hid hW5
  clear FD st4 m4 hf4 rq4 hat s5 hW5 k5 s7 y2
  go_wp2_with fail
  rw [← HW5.out]
  refine EQ.out.mono ?_
  rintro e w6 ⟨rfl, rfl⟩
  go_wp2_with fail
  go_ret
  exact ⟨rfl, K5.out⟩

/-! Readers that no call made. -/
def NobH (w : World) (v : Value) : Prop := v = .pointer none ∨ ∃ g, v = .pointer (some ⟨g, 0, none⟩) ∧ w.cell? ⟨g, 0, none⟩ = some (.bool false)
theorem NobH.made {w : World} {v : Value} (h : NobH w v) : Calls Tryz.prog 29 #[v] w fun e w' => e = .returned (.bool false) ∧ w' = w := by
  rcases h with rfl | ⟨g, rfl, c1⟩
  · go_enter Tryz.func29, Tryz.ntmps29
    go_wp2_with fail
    go_ret
    exact ⟨rfl, rfl⟩
  · go_enter Tryz.func29, Tryz.ntmps29
    go_wp2_with fail
    go_ret
    exact ⟨rfl, rfl⟩
theorem NobH.feed {w : World} {v : Value} (h : NobH w v) (x : Value) : Calls Tryz.prog 13 #[v, x] w fun e w' => e = .returned (.tuple #[.slice none 0 0, .int .i64 2]) ∧ w' = w := by
  have M := Lib.hid h.made
  clear h
  go_enter Tryz.func13, Tryz.ntmps13
  go_wp2_with fail
  refine M.out.mono ?_
  rintro e w1 ⟨rfl, rfl⟩
  go_wp2_with fail
  go_returns
  exact ⟨rfl, rfl⟩
theorem NobH.ended {w : World} {v : Value} (h : NobH w v) : Calls Tryz.prog 14 #[v] w fun e w' => e = .returned (.bool false) ∧ w' = w := by
  have M := Lib.hid h.made
  clear h
  go_enter Tryz.func14, Tryz.ntmps14
  go_wp2_with fail
  refine M.out.mono ?_
  rintro e w1 ⟨rfl, rfl⟩
  go_wp2_with fail
  go_ret
  exact ⟨rfl, rfl⟩
end Go.Proofs.YtjhmjokmjoldkaaGreatDoor
