/-
  A dead disk: each change answers that, and nothing is written; a disk with a fuse.
-/
import Derived.Test.YtcnnifogppabdaaFlV
import Derived.Test.YtcnnifogppabdaaFlP
namespace Go.Proofs.Ytcnnifogppabdaa
open Go.RowKit
set_option linter.unusedVariables false
set_option maxRecDepth 100000

def DD (p : Nat) (w : World) : Prop := ∃ (y : Ly) (D : Dk), y.p = p ∧ D.fuse = 0 ∧ DiskU y D (used D.S) w
theorem DK.dead {P B N : Nat} {D : Dk} {w : World} (h : DK P B N D w) (hf : D.fuse = 0) : DD P w := by
  obtain ⟨_, _, y, hp, hD, _⟩ := h
  exact ⟨y, D, hp, hf, hD⟩
theorem DD.below {p : Nat} {w w' : World} (h : DD p w) (hB : Below w.heap.size w w') : DD p w' := by
  obtain ⟨y, D, hp, hf, hD⟩ := h
  exact ⟨y, D, hp, hf, hD.below hB⟩
theorem DD.made {p : Nat} {w : World} (h : DD p w) : Calls Try.prog 33 #[.pointer (some ⟨p, 0, none⟩)] w fun e w' => e = .returned (.bool true) ∧ w = w' := by
  obtain ⟨y, D, rfl, hf, hD⟩ := h
  exact made_any w hD
theorem DD.burn {p : Nat} {w : World} (h : DD p w) : Calls Try.prog 49 #[.pointer (some ⟨p, 0, none⟩)] w fun e w' => e = .returned (.int .i64 62) ∧ w = w' := by
  obtain ⟨y, D, rfl, hf, hD⟩ := h
  have c4 := hD.cells.2.2.2.2
  rw [hf] at c4
  clear hD
  go_enter Try.func49, Try.ntmps49
  go_wp2_with fail
  go_ret
  exact ⟨rfl, rfl⟩
set_option maxHeartbeats 1000000 in
theorem Append_dead {p : Nat} (n : Bs) (A : Option Addr) (m c : Nat) (w : World) (h : DD p w) (hc : canN n = true) :
    Calls Try.prog 16 #[.pointer (some ⟨p, 0, none⟩), .string (bs n), .slice A m c] w fun e w' => e = .returned (.tuple #[.int .i64 0, .int .i64 62]) ∧ Below w.heap.size w w' := by
  have C1 := Lib.hid h.made
  have C2 := Lib.hid (by have := canName_any n w (by have := canN_len hc; omega); rw [hc] at this; exact this)
  have C3 := Lib.hid (fun W (hB : Below w.heap.size w W) => (h.below hB).burn)
  clear h hc
  go_enter Try.func16, Try.ntmps16
  go_wp2_with fail
  with_reducible refine Calls.mono C1.out ?_
  rintro e w1 ⟨rfl, rfl⟩
  go_wp2_with fail
  with_reducible refine Calls.mono C2.out ?_
  rintro e w1 ⟨rfl, hB1⟩
  go_wp2_with fail
  with_reducible refine Calls.mono (C3.out _ hB1) ?_
  rintro e w2 ⟨rfl, rfl⟩
  go_wp2_with fail
  go_ret2
  exact ⟨rfl, hB1⟩
set_option maxHeartbeats 1000000 in
theorem Sync_dead {p : Nat} (n : Bs) (w : World) (h : DD p w) :
    Calls Try.prog 17 #[.pointer (some ⟨p, 0, none⟩), .string (bs n)] w fun e w' => e = .returned (.int .i64 62) ∧ Below w.heap.size w w' := by
  have C1 := Lib.hid h.made
  have C3 := Lib.hid h.burn
  clear h
  go_enter Try.func17, Try.ntmps17
  go_wp2_with fail
  with_reducible refine Calls.mono C1.out ?_
  rintro e w1 ⟨rfl, rfl⟩
  go_wp2_with fail
  with_reducible refine Calls.mono C3.out ?_
  rintro e w2 ⟨rfl, rfl⟩
  go_wp2_with fail
  go_ret
  exact ⟨rfl, Below.refl _ _⟩
set_option maxHeartbeats 1000000 in
theorem Remove_dead {p : Nat} (n : Bs) (w : World) (h : DD p w) :
    Calls Try.prog 25 #[.pointer (some ⟨p, 0, none⟩), .string (bs n)] w fun e w' => e = .returned (.int .i64 62) ∧ Below w.heap.size w w' := by
  have C1 := Lib.hid h.made
  have C3 := Lib.hid h.burn
  clear h
  go_enter Try.func25, Try.ntmps25
  go_wp2_with fail
  with_reducible refine Calls.mono C1.out ?_
  rintro e w1 ⟨rfl, rfl⟩
  go_wp2_with fail
  with_reducible refine Calls.mono C3.out ?_
  rintro e w2 ⟨rfl, rfl⟩
  go_wp2_with fail
  go_ret
  exact ⟨rfl, Below.refl _ _⟩
set_option maxHeartbeats 1000000 in
theorem Rename_dead {p : Nat} (n b : Bs) (w : World) (h : DD p w) (hc : canN b = true) :
    Calls Try.prog 26 #[.pointer (some ⟨p, 0, none⟩), .string (bs n), .string (bs b)] w fun e w' => e = .returned (.int .i64 62) ∧ Below w.heap.size w w' := by
  have C1 := Lib.hid h.made
  have C2 := Lib.hid (by have := canName_any b w (by have := canN_len hc; omega); rw [hc] at this; exact this)
  have C3 := Lib.hid (fun W (hB : Below w.heap.size w W) => (h.below hB).burn)
  clear h hc
  go_enter Try.func26, Try.ntmps26
  go_wp2_with fail
  with_reducible refine Calls.mono C1.out ?_
  rintro e w1 ⟨rfl, rfl⟩
  go_wp2_with fail
  with_reducible refine Calls.mono C2.out ?_
  rintro e w1 ⟨rfl, hB1⟩
  go_wp2_with fail
  with_reducible refine Calls.mono (C3.out _ hB1) ?_
  rintro e w2 ⟨rfl, rfl⟩
  go_wp2_with fail
  go_ret
  exact ⟨rfl, hB1⟩
set_option maxHeartbeats 1000000 in
theorem Cut_dead {p : Nat} (n : Bs) (w : World) (h : DD p w) (hnl : n.length ≤ 140737488355328) :
    Calls Try.prog 27 #[.pointer (some ⟨p, 0, none⟩), .string (bs n), .int .i64 0] w fun e w' => e = .returned (.int .i64 62) ∧ Below w.heap.size w w' := by
  have C1 := Lib.hid h.made
  have C3 := Lib.hid h.burn
  obtain ⟨y, D, rfl, hf, h⟩ := h
  have look := h.look n (by unfold maxLen; omega)
  have c0 := h.cells.1
  cases hfd : find D.S n with
  | none =>
    rw [ptrOf_none hfd] at look
    clear h hf hfd hnl
    go_enter Try.func27, Try.ntmps27
    go_wp2_with fail
    with_reducible refine Calls.mono C1.out ?_
    rintro e w1 ⟨rfl, rfl⟩
    go_wp2_with fail
    with_reducible refine Calls.mono C3.out ?_
    rintro e w2 ⟨rfl, rfl⟩
    go_wp2_with fail
    go_ret
    exact ⟨rfl, Below.refl _ _⟩
  | some f =>
    rw [ptrOf_some hfd] at look
    obtain ⟨hfS, hfn⟩ := find_some hfd
    obtain rfl : n = f.n := hfn.symm
    obtain ⟨fa, fc, hv, hfl, hfm, hfa⟩ := row_slice (h.file f hfS).2
    have fc0 := (h.fcells hfS).1
    rw [hv] at fc0
    have hfm2 : fc ≤ 9223372036854775807 := by unfold maxLen at hfm; omega
    have h0 : (0 : Int) ≤ f.d.length := by omega
    clear h hf hfd hnl hv hfa hfm hfn
    go_enter Try.func27, Try.ntmps27
    go_wp2_with fail
    with_reducible refine Calls.mono C1.out ?_
    rintro e w1 ⟨rfl, rfl⟩
    go_wp2_with fail
    with_reducible refine Calls.mono C3.out ?_
    rintro e w2 ⟨rfl, rfl⟩
    go_wp2_with fail
    go_ret
    exact ⟨rfl, Below.refl _ _⟩

/-! ### a disk with a fuse -/
def fuseD (n k : Nat) : Dk := if k = 0 then { newD 1048576 with fuse := (n : Int) } else oneD 1048576 [97] (List.replicate k 1) 0 (-1) ((n : Int) - k)
theorem can_a : canN [97] = true := by decide
theorem can_b : canN [98] = true := by decide
theorem append_first' {room : Nat} {n b : Bs} {f : Int} (hn : canN n = true) (hf : f ≠ 0) (hb : b.length ≤ 1048576) (hr : b.length ≤ room) : appendD { newD room with fuse := f } n b = ((b.length : Int), 0, oneD room n b 0 (-1) (burnt f)) := by
  unfold appendD newD
  rw [if_neg (by simp [hn]), if_neg hf]
  have hc : cutTo (-1) b = b := by unfold cutTo; rw [if_neg (by simp)]
  simp only [hc]
  rw [if_neg (by simp [fits, oldLen, find, used, hb, hr])]
  simp [put, find, ins, oneD]
theorem fuse_step (n k : Nat) (h : k < n) (hn : n < 12) : appendD (fuseD n k) [97] [1] = (1, 0, fuseD n (k + 1)) := by
  have e2 : fuseD n (k + 1) = oneD 1048576 [97] (List.replicate (k + 1) 1) 0 (-1) ((n : Int) - (k + 1 : Nat)) := by unfold fuseD; rw [if_neg (by omega)]
  by_cases hk : k = 0
  · subst hk
    have e1 : fuseD n 0 = { newD 1048576 with fuse := (n : Int) } := by unfold fuseD; rw [if_pos rfl]
    rw [e1, append_first' can_a (by omega) (by simp) (by simp), e2]
    have : burnt (n : Int) = (n : Int) - (0 + 1 : Nat) := by unfold burnt; rw [if_neg (by omega)]; simp
    rw [this]
    rfl
  · have e1 : fuseD n k = oneD 1048576 [97] (List.replicate k 1) 0 (-1) ((n : Int) - k) := by unfold fuseD; rw [if_neg hk]
    rw [e1, append_more can_a (by omega) (by simp; omega) (by simp; omega), e2]
    have : burnt ((n : Int) - k) = (n : Int) - (k + 1 : Nat) := by unfold burnt; rw [if_neg (by omega)]; omega
    rw [this, List.replicate_succ']
    rfl
theorem fuse_dead (n : Nat) : (fuseD n n).fuse = 0 := by
  unfold fuseD
  split
  · rename_i h; subst h; rfl
  · show (n : Int) - n = 0; omega
theorem fuse_end (n : Nat) : ∃ D, appendD ⟨crashS [] (fuseD n n).S, (fuseD n n).room, -1, -1⟩ [97] [2] = (1, 0, D) ∧ used D.S = 1 := by
  unfold fuseD
  split
  · have e : (⟨crashS [] (newD 1048576).S, 1048576, -1, -1⟩ : Dk) = newD 1048576 := rfl
    refine ⟨oneD 1048576 [97] [2] 0 (-1) (-1), ?_, by simp [oneD, used]⟩
    show appendD ⟨crashS [] (newD 1048576).S, 1048576, -1, -1⟩ [97] [2] = _
    rw [e, append_first can_a (by simp) (by simp)]
    rfl
  · have e : (⟨crashS [] (oneD 1048576 [97] (List.replicate n 1) 0 (-1) ((n : Int) - n)).S, 1048576, -1, -1⟩ : Dk) = oneD 1048576 [97] [] 0 (-1) (-1) := by
      simp [crashS, crashOf, crashF, firstT, tl0, keptT, oneD]
    refine ⟨oneD 1048576 [97] [2] 0 (-1) (-1), ?_, by simp [oneD, used]⟩
    show appendD ⟨crashS [] (oneD 1048576 [97] (List.replicate n 1) 0 (-1) ((n : Int) - n)).S, 1048576, -1, -1⟩ [97] [2] = _
    rw [e, append_more can_a (by omega) (by simp) (by simp)]
    rfl
/-- Read of it, before the first file and behind it. -/
theorem fuse_read {P B N n : Nat} (w : World) (h : DK P B N (fuseD n n) w) :
    Calls Try.prog 20 #[.pointer (some ⟨P, 0, none⟩), .string (bs [97])] w fun e w' => (∃ v k, e = .returned (.tuple #[v, .int .i64 k]) ∧ OwnB w' w.heap.size v (List.replicate n 1)) ∧ Below w.heap.size w w' := by
  by_cases hn : n = 0
  · subst hn
    obtain ⟨hok, hs, y, rfl, hD, hF, hyN⟩ := h
    refine (Read_no [97] w hD rfl (by simp)).mono ?_
    rintro e w' ⟨rfl, rfl⟩
    exact ⟨⟨_, _, rfl, .inl ⟨rfl, rfl⟩⟩, Below.refl _ _⟩
  · have e1 : fuseD n n = oneD 1048576 [97] (List.replicate n 1) 0 (-1) ((n : Int) - n) := by unfold fuseD; rw [if_neg hn]
    rw [e1] at h
    refine (Read_dk (f := ⟨[97], List.replicate n 1, 0⟩) [97] w h (find_one _ _ _) (by simp)).mono ?_
    rintro e w' ⟨⟨v, rfl, ho⟩, hB⟩
    exact ⟨⟨v, 0, rfl, OwnB.of ho rfl⟩, hB⟩
end Go.Proofs.Ytcnnifogppabdaa
