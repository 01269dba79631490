/-
  The document's Frame; the walk of SeglogFrames.
-/
import Derived.Test.YtkpnhbjdpbjfjaaDoorDgZ
namespace Go.Proofs.YtkpnhbjdpbjfjaaDoor
open Go.RowKit
set_option linter.unusedVariables false
set_option maxRecDepth 100000

set_option maxHeartbeats 2000000 in
set_option maxRecDepth 100000 in
theorem docFrame_any (A : Option Addr) (l : Bs) (n c : Nat) (w : World) (hb : Sl w A c l) (hn : n = l.length) : Calls Tryd.prog 13 #[.slice A n c] w (FrameP w l) := by
  have HD : Hid (∀ e w', FrameP w l e w' ↔ (Below w.heap.size w w' ∧ ((okRec l = false ∧ e = .returned (.tuple #[.slice none 0 0, .int .i64 1])) ∨ (okRec l = true ∧ ∃ v, e = .returned (.tuple #[v, .int .i64 0]) ∧ OwnB w' w.heap.size v (frameB l))))) := Lib.hid (fun _ _ => Iff.rfl)
  have hq : decide (1 ≤ n ∧ n ≤ 4000) = okRec l := by rw [hn]; rfl
  cases ho : okRec l with
  | false =>
    rw [ho] at hq
    have hq := of_decide_eq_false hq
    have HF := Lib.hid ((HD.out (.returned (.tuple #[.slice none 0 0, .int .i64 1])) w).2 ⟨Below.refl _ _, .inl ⟨ho, rfl⟩⟩)
    generalize FrameP w l = Q at *
    clear hn hb HD ho
    by_cases h1 : n < 1
    · have f1 : (n : Int) < 1 := by omega
      clear hq h1
      go_enter Tryd.func13, Tryd.ntmps13
      go_wp2_with fail
      exact HF.out
    · have f1 : ¬ (n : Int) < 1 := by omega
      have f2 : (4000 : Int) < (n : Int) := by omega
      clear hq h1
      go_enter Tryd.func13, Tryd.ntmps13
      go_wp2_with fail
      exact HF.out
  | true =>
    rw [ho] at hq
    have hnb := of_decide_eq_true hq
    have HO := Lib.hid ho
    have N := Lib.hid (fun x W (hx : x < 4294967296) => Big_any x W hx)
    have C := Lib.hid (fun W (k : Below w.heap.size w W) => by have := docCrc_any A l c W (hb.bys.on k) (by omega); rw [← hn] at this; exact this)
    have S := Lib.hid (fun W (k : Below w.heap.size w W) => by have := docSum_any A l c W (hb.on k) (by omega); rw [← hn] at this; exact this)
    have HSl := Lib.hid (fun W (k : Below w.heap.size w W) => hb.on k)
    have hcr := crc_lt l
    have HFB : Hid (frameB l = bytes4 n ++ bytes4 (crc l) ++ sha l ++ l) := Lib.hid (by rw [hn]; simp [frameB])
    have HN := Lib.hid hn
    generalize crc l = q at *
    have wq : IntKind.i64.wrap (q : Int) = (q : Int) := by rw [IntKind.wrap_i64]; omega
    have f1 : ¬ (n : Int) < 1 := by omega
    have f2 : ¬ (4000 : Int) < (n : Int) := by omega
    have h32 := Lib.hid (sha_length l)
    obtain ⟨s, hs⟩ : ∃ s, s = sha l := ⟨_, rfl⟩
    rw [← hs] at S HFB h32
    obtain ⟨p0, hp0⟩ : ∃ p, p = bytes4 n := ⟨_, rfl⟩
    obtain ⟨p1, hp1⟩ : ∃ p, p = bytes4 q := ⟨_, rfl⟩
    have l0 : Hid (p0.length = 4) := Lib.hid (by rw [hp0]; rfl)
    have l1 : Hid (p1.length = 4) := Lib.hid (by rw [hp1]; rfl)
    have N0 := N.out n
    have N1 := N.out q
    rw [← hp0] at HFB N0
    rw [← hp1] at HFB N1
    have N0 := Lib.hid N0
    have N1 := Lib.hid N1
    generalize FrameP w l = Q at *
    have HNB := Lib.hid hnb
    clear hn hb hq ho hs hp0 hp1 N hnb
    go_enter Tryd.func13, Tryd.ntmps13
    go_wp2_with fail
    with_reducible refine Calls.mono (N0.out _ (by have := HNB.out; omega)) ?_
    rintro e w1 ⟨v1, rfl, o1, B1⟩
    have s1 := B1.size
    go_wp2_with fail
    with_reducible refine Calls.mono (C.out _ B1) ?_
    rintro e w2 ⟨rfl, rfl⟩
    go_wp2_with fail
    with_reducible refine Calls.mono (N1.out _ hcr) ?_
    rintro e w2 ⟨v2, rfl, o2, j2⟩
    obtain ⟨B2, s2⟩ := Below.next B1 s1 j2
    have o1 := OwnR.below o1 j2
    obtain ⟨A2, c2, hv2, y2⟩ := o2.ownB.bysN
    rw [l1.out] at hv2
    subst hv2
    clear o2 j2
    go_wp2_with (first
      | (at_builtin; refine wpList_appR rfl (.tmp 15) (.tmp 19) rfl w.heap.size _ p0 rfl o1 A2 4 c2 rfl p1 l1.out.symm y2.bys y2.nil (by rw [l0.out, l1.out]; omega) s2 ?_)
      | fail)
    intro v3 w3 o3 g3
    obtain ⟨P2, hP2⟩ : ∃ P, P = p0 ++ p1 := ⟨_, rfl⟩
    rw [← hP2] at o3
    have HP2 := Lib.hid hP2
    clear hP2
    have B3 := B2.grown g3 s2 (fun k hk => (o1.ownB.lt k hk).1)
    have s3 := B3.size
    clear o1 g3 y2
    go_wp2_with fail
    with_reducible refine Calls.mono (S.out _ B3) ?_
    rintro e w4 ⟨v4, rfl, o4, j4⟩
    obtain ⟨B4, s4⟩ := Below.next B3 s3 j4
    have o3 := OwnR.below o3 j4
    obtain ⟨A4, c4, hv4, y4⟩ := o4.bysN
    rw [h32.out] at hv4
    subst hv4
    clear o4 j4
    go_wp2_with (first
      | (at_builtin; refine wpList_appR rfl (.tmp 21) (.tmp 23) rfl w.heap.size _ P2 rfl o3 A4 32 c4 rfl s h32.out.symm y4.bys y4.nil (by rw [HP2.out, List.length_append, l0.out, l1.out, h32.out]; omega) s4 ?_)
      | fail)
    intro v5 w5 o5 g5
    obtain ⟨P3, hP3⟩ : ∃ P, P = P2 ++ s := ⟨_, rfl⟩
    rw [← hP3] at o5
    have HP3 := Lib.hid hP3
    clear hP3
    have B5 := B4.grown g5 s4 (fun k hk => (o3.ownB.lt k hk).1)
    have s5 := B5.size
    have y5 := HSl.out _ B5
    clear o3 g5 y4
    have XL : Hid (P3.length + l.length ≤ 140737488355328) := Lib.hid (by have := HN.out; have := HNB.out; rw [HP3.out, HP2.out, List.length_append, List.length_append, l0.out, l1.out, h32.out]; omega)
    go_wp2_with (first
      | (at_builtin; refine wpList_appR rfl (.tmp 24) (.tmp 25) rfl w.heap.size _ P3 rfl o5 A n c rfl l HN.out y5.bys y5.nil XL.out s5 ?_)
      | fail)
    intro v6 w6 o6 g6
    have B6 := B5.grown g6 s5 (fun k hk => (o5.ownB.lt k hk).1)
    rw [HP3.out, HP2.out, ← HFB.out] at o6
    have HF := Lib.hid ((HD.out (.returned (.tuple #[v6, .int .i64 0])) w6).2 ⟨B6, .inr ⟨HO.out, v6, rfl, o6.ownB⟩⟩)
    clear o6 g6 B6 o5 y5
    go_wp2_with fail
    exact HF.out

theorem frameB_len (l : Bs) : (frameB l).length = 40 + l.length := by
  have h : frameB l = bytes4 l.length ++ bytes4 (crc l) ++ sha l ++ l := by simp [frameB]
  rw [h]
  simp only [List.length_append, bytes4_len, sha_length]
/-- Two frames beside each other. -/
theorem FrameP.form {w w' : World} {l : Bs} {e : Ending} (h : FrameP w l e w') : ∃ A m c u, e = .returned (.tuple #[.slice A m c, .int .i64 u]) ∧ Below w.heap.size w w' ∧ m = (if okRec l then frameB l else []).length ∧ Sl w' A c (if okRec l then frameB l else []) ∧ u = (if okRec l then 0 else 1) := by
  obtain ⟨hB, h | h⟩ := h
  · obtain ⟨h1, rfl⟩ := h
    rw [h1]
    exact ⟨none, 0, 0, 1, rfl, hB, rfl, Sl.none _, rfl⟩
  · obtain ⟨h1, v, rfl, ho⟩ := h
    rw [h1]
    obtain ⟨A, c, rfl, hs⟩ := ho.bysN
    exact ⟨A, _, c, 0, rfl, hB, rfl, hs, rfl⟩
set_option maxHeartbeats 2000000 in
set_option maxRecDepth 100000 in
theorem SeglogFrames_any (A : Option Addr) (l : Bs) (c : Nat) (w : World) (hb : Sl w A c l) (hT : TabK w) : Calls Tryd.prog 5 #[.slice A l.length c] w fun e w' => e = .returned (.bool true) ∧ Below w.heap.size w w' := by
  obtain ⟨n, hn⟩ : ∃ n, n = l.length := ⟨_, rfl⟩
  have F0 := Lib.hid ((Frame_any A l n c w hb hn hT).mono fun e w' h => FrameP.form h)
  have F1 := Lib.hid (fun W (k : Below w.heap.size w W) => (docFrame_any A l n c W (hb.on k) hn).mono fun e w' h => FrameP.form h)
  have F2 := Lib.hid (fun g W (k : Below w.heap.size w W) (h : Sl W (some ⟨g, 0, none⟩) 1 [1]) => (Frame_any (some ⟨g, 0, none⟩) [1] 1 1 W h rfl (hT.on k)).mono fun e w' h => FrameP.form h)
  have h41 : (if okRec [1] then frameB [1] else []).length = 41 := by rw [show okRec [1] = true from by decide, if_pos rfl, frameB_len]; rfl
  have hok : (if okRec [1] then (0 : Int) else 1) = 0 := by decide
  rw [h41, hok] at F2
  have E0 := Lib.hid (fun A1 A2 (l : Bs) n c1 c2 W (h1 : Bys W A1 l) (h2 : Bys W A2 l) (e : n = l.length) => by have := EqualB_any A1 A2 l l n n c1 c2 W h1 h2 e e; rw [show (l == l) = true by simp] at this; exact this)
  generalize (if okRec l then frameB l else []) = f at *
  rw [← hn]
  clear h41 hok hb hT hn
  go_enter Tryd.func5, Tryd.ntmps5
  go_wp2_with fail
  with_reducible refine Calls.mono F0.out ?_
  rintro e w1 ⟨A1, m1, c1, u1, rfl, B1, hm1, y1, hu1⟩
  have s1 := B1.size
  have HM := Lib.hid hm1
  have HU := Lib.hid hu1
  clear hm1 hu1
  go_wp2_with fail
  with_reducible refine Calls.mono (F1.out _ B1) ?_
  rintro e w2 ⟨A2, m2, c2, u2, rfl, j2, hm2, y2, hu2⟩
  obtain ⟨B2, s2⟩ := Below.next B1 s1 j2
  have y1 := y1.on j2
  obtain rfl : u2 = u1 := hu2.trans HU.out.symm
  obtain rfl : m2 = m1 := hm2.trans HM.out.symm
  clear hm2 hu2 j2 B1 s1
  have jal : Below w2.heap.size w2 (w2.alloc (.cells #[.int .u8 1] 5)) := Below.alloc (Below.refl _ _) (Nat.le_refl _) _
  have B3 := (Below.next B2 s2 jal).1
  have yal : Sl (w2.alloc (.cells #[.int .u8 1] 5)) (some ⟨w2.heap.size, 0, none⟩) 1 [1] := Sl.made (l := [1]) rfl (by simp)
  have y1 := y1.on jal
  have y2 := y2.on jal
  go_wp2_with fail
  with_reducible refine Calls.mono (F2.out _ _ B3 yal) ?_
  rintro e w4 ⟨A4, m4, c4, u4, rfl, j4, hm4, y4, hu4⟩
  obtain ⟨B4, s4⟩ := Below.next B3 B3.size j4
  have y1 := y1.on j4
  have y2 := y2.on j4
  subst hm4 hu4
  clear yal jal B3 j4 y4 B2 s2
  have f0 : (u2 == u2) = true := by simp
  go_wp2_with fail
  with_reducible refine Calls.mono (E0.out _ _ f _ _ _ _ y1.bys y2.bys HM.out) ?_
  rintro e w5 ⟨rfl, rfl⟩
  go_wp2_with fail
  go_ret
  exact ⟨rfl, B4⟩
end Go.Proofs.YtkpnhbjdpbjfjaaDoor
