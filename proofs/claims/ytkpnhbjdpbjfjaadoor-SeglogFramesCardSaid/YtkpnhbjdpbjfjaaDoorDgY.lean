/-
  seglog's numbers of four bytes, and its join.
-/
import Derived.Test.YtkpnhbjdpbjfjaaDoorDgX
namespace Go.Proofs.YtkpnhbjdpbjfjaaDoor
open Go.RowKit
set_option linter.unusedVariables false
set_option maxRecDepth 100000

theorem bytes4_len (x : Nat) : (bytes4 x).length = 4 := rfl
set_option maxHeartbeats 4000000 in
set_option maxRecDepth 100000 in
theorem numbers_any (x g c : Nat) (w : World) (hx : x < 4294967296) (hc : w.cell? ⟨g, 0, none⟩ = some (.int .i64 x)) : Calls Tryd.prog 18 #[.int .i64 4, .slice (some ⟨g, 0, none⟩) 1 c] w fun e w' => ∃ v, e = .returned v ∧ OwnR w' w.heap.size v (bytes4 x) ∧ Below w.heap.size w w' := by
  obtain ⟨i0, hi, hz0, hz1, hz2⟩ := info_parts info_u8
  obtain ⟨M, hM⟩ : ∃ M, M = madeCells (Value.int .u8 0).cells (((4 : Nat) : Int).toNat * i0.size) := ⟨_, rfl⟩
  have hMs : M.size = 4 * 1 := by rw [hM, size_madeCells, hz1]; simp
  have hmk : ∀ W : World, (Instr.makeSlice 22 (.int .i64 0) (.int .i64 4)).run Tryd.prog W = .ok (.slice (some ⟨W.heap.size, 0, none⟩) 0 4) (W.alloc (.cells M 5)) := fun W => by
    have h := run_make (P := Tryd.prog) W 22 5 i0 (.int .u8 0) Tryd.underlying22 hi hz0 .i64 .i64 0 (4 : Int) (by omega) (by omega) (by rw [hz2]; omega) (by omega)
    rw [show ((4 : Int).toNat * i0.size) = (((4 : Nat) : Int).toNat * i0.size) from rfl, ← hM] at h
    simpa using h
  have H3 : Hid (OwnR (w.alloc (.cells M 5)) w.heap.size (.slice (some ⟨w.heap.size, 0, none⟩) 0 4) []) := Lib.hid (World.ownsRow_made w M 4 (Nat.le_refl _) (by unfold maxLen; omega) hMs)
  have B3 := Lib.hid (Below.alloc (o := .cells M 5) (Below.refl w.heap.size w) (Nat.le_refl _))
  have c1 : (w.alloc (.cells M 5)).cell? ⟨g, 0, none⟩ = some (.int .i64 x) := cell_on hc B3.out
  clear hM hMs hi hz0 hz1 hz2 hc
  obtain ⟨b0, hb0⟩ : ∃ b, b = UInt8.ofNat (x >>> 24) := ⟨_, rfl⟩
  have f0 : IntKind.u8.wrap ((x : Int) / 16777216) = (b0.toNat : Int) := by rw [hb0]; have := u8_part x 24; simpa using this
  obtain ⟨b1, hb1⟩ : ∃ b, b = UInt8.ofNat (x >>> 16) := ⟨_, rfl⟩
  have f1 : IntKind.u8.wrap ((x : Int) / 65536) = (b1.toNat : Int) := by rw [hb1]; have := u8_part x 16; simpa using this
  obtain ⟨b2, hb2⟩ : ∃ b, b = UInt8.ofNat (x >>> 8) := ⟨_, rfl⟩
  have f2 : IntKind.u8.wrap ((x : Int) / 256) = (b2.toNat : Int) := by rw [hb2]; have := u8_part x 8; simpa using this
  obtain ⟨b3, hb3⟩ : ∃ b, b = UInt8.ofNat x := ⟨_, rfl⟩
  have f3 : IntKind.u8.wrap (x : Int) = (b3.toNat : Int) := by rw [hb3]; exact u8_at x
  have HB4 : Hid (bytes4 x = [b0, b1, b2, b3]) := Lib.hid (by rw [hb0, hb1, hb2, hb3]; rfl)
  rw [HB4.out]
  clear hb0 hb1 hb2 hb3 hx HB4
  go_enter Tryd.func18, Tryd.ntmps18
  go_wp2_with fail
  generalize w.alloc (.cells M 5) = W3 at *
  refine wp_loop_rounds 2 ?_
  rw [rounds_succ]
  go_wp2_with fail
  refine wp_loop_rounds 5 ?_
  have P0 := Lib.hid (H3.out.alloc (.cells #[.int .u8 b0.toNat] 5))
  have S0 : Hid (Sl (W3.alloc (.cells #[.int .u8 b0.toNat] 5)) (some ⟨W3.heap.size, 0, none⟩) 1 [b0]) := Lib.hid (Sl.made (l := [b0]) rfl (by simp))
  have C0 := Lib.hid (Below.alloc (o := (.cells #[.int .u8 b0.toNat] 5)) B3.out B3.out.size)
  have q0 : w.heap.size ≤ (W3.alloc (.cells #[.int .u8 b0.toNat] 5)).heap.size := C0.out.size
  rw [rounds_succ]
  go_wp2_with (first
    | (at_builtin; refine wpList_appR rfl (.tmp 27) (.tmp 32) rfl w.heap.size _ [] rfl P0.out _ 1 1 rfl [b0] rfl S0.out.bys (fun h => by cases h) (by simp) q0 ?_)
    | fail)
  intro v0 x0 ho hg
  have D0 := Lib.hid (C0.out.grown hg q0 (fun k hk => (P0.out.ownB.lt k hk).1))
  obtain ⟨A20, c20, hv, -⟩ := ho.ownB.bysN
  have G0 := Lib.hid ho
  clear ho hg P0 S0 C0 q0 H3 B3 f0
  subst hv
  go_wp2_with fail
  have P1 := Lib.hid (G0.out.alloc (.cells #[.int .u8 b1.toNat] 5))
  have S1 : Hid (Sl (x0.alloc (.cells #[.int .u8 b1.toNat] 5)) (some ⟨x0.heap.size, 0, none⟩) 1 [b1]) := Lib.hid (Sl.made (l := [b1]) rfl (by simp))
  have C1 := Lib.hid (Below.alloc (o := (.cells #[.int .u8 b1.toNat] 5)) D0.out D0.out.size)
  have q1 : w.heap.size ≤ (x0.alloc (.cells #[.int .u8 b1.toNat] 5)).heap.size := C1.out.size
  rw [rounds_succ]
  go_wp2_with (first
    | (at_builtin; refine wpList_appR rfl (.tmp 27) (.tmp 32) rfl w.heap.size _ [b0] rfl P1.out _ 1 1 rfl [b1] rfl S1.out.bys (fun h => by cases h) (by simp) q1 ?_)
    | fail)
  intro v1 x1 ho hg
  have D1 := Lib.hid (C1.out.grown hg q1 (fun k hk => (P1.out.ownB.lt k hk).1))
  obtain ⟨A21, c21, hv, -⟩ := ho.ownB.bysN
  have G1 := Lib.hid ho
  clear ho hg P1 S1 C1 q1 G0 D0 f1
  subst hv
  go_wp2_with fail
  have P2 := Lib.hid (G1.out.alloc (.cells #[.int .u8 b2.toNat] 5))
  have S2 : Hid (Sl (x1.alloc (.cells #[.int .u8 b2.toNat] 5)) (some ⟨x1.heap.size, 0, none⟩) 1 [b2]) := Lib.hid (Sl.made (l := [b2]) rfl (by simp))
  have C2 := Lib.hid (Below.alloc (o := (.cells #[.int .u8 b2.toNat] 5)) D1.out D1.out.size)
  have q2 : w.heap.size ≤ (x1.alloc (.cells #[.int .u8 b2.toNat] 5)).heap.size := C2.out.size
  rw [rounds_succ]
  go_wp2_with (first
    | (at_builtin; refine wpList_appR rfl (.tmp 27) (.tmp 32) rfl w.heap.size _ [b0, b1] rfl P2.out _ 1 1 rfl [b2] rfl S2.out.bys (fun h => by cases h) (by simp) q2 ?_)
    | fail)
  intro v2 x2 ho hg
  have D2 := Lib.hid (C2.out.grown hg q2 (fun k hk => (P2.out.ownB.lt k hk).1))
  obtain ⟨A22, c22, hv, -⟩ := ho.ownB.bysN
  have G2 := Lib.hid ho
  clear ho hg P2 S2 C2 q2 G1 D1 f2
  subst hv
  go_wp2_with fail
  have P3 := Lib.hid (G2.out.alloc (.cells #[.int .u8 b3.toNat] 5))
  have S3 : Hid (Sl (x2.alloc (.cells #[.int .u8 b3.toNat] 5)) (some ⟨x2.heap.size, 0, none⟩) 1 [b3]) := Lib.hid (Sl.made (l := [b3]) rfl (by simp))
  have C3 := Lib.hid (Below.alloc (o := (.cells #[.int .u8 b3.toNat] 5)) D2.out D2.out.size)
  have q3 : w.heap.size ≤ (x2.alloc (.cells #[.int .u8 b3.toNat] 5)).heap.size := C3.out.size
  rw [rounds_succ]
  go_wp2_with (first
    | (at_builtin; refine wpList_appR rfl (.tmp 27) (.tmp 32) rfl w.heap.size _ [b0, b1, b2] rfl P3.out _ 1 1 rfl [b3] rfl S3.out.bys (fun h => by cases h) (by simp) q3 ?_)
    | fail)
  intro v3 x3 ho hg
  have D3 := Lib.hid (C3.out.grown hg q3 (fun k hk => (P3.out.ownB.lt k hk).1))
  obtain ⟨A23, c23, hv, -⟩ := ho.ownB.bysN
  have G3 := Lib.hid ho
  clear ho hg P3 S3 C3 q3 G2 D2 f3
  subst hv
  go_wp2_with fail
  rw [rounds_succ]
  go_wp2_with fail
  rw [rounds_succ]
  go_wp2_with fail
  go_ret
  exact ⟨_, rfl, G3.out, D3.out⟩
/-- Slices of bytes, one behind the other. -/
theorem flat_snoc (L : List Bs) (i : Nat) (h : i < L.length) : (L.take (i + 1)).flatten = (L.take i).flatten ++ L[i] := by
  rw [List.take_add_one, List.getElem?_eq_getElem h, List.flatten_append]
  simp only [Option.toList, List.flatten_cons, List.flatten_nil, List.append_nil]
theorem flat_len (L : List Bs) (B : Nat) (hl : ∀ x ∈ L, x.length ≤ B) : ∀ i, i ≤ L.length → (L.take i).flatten.length ≤ i * B
  | 0, _ => by simp
  | i + 1, h => by
    rw [flat_snoc L i (by omega), List.length_append]
    have := flat_len L B hl i (by omega)
    have := hl L[i] (List.getElem_mem _)
    have : (i + 1) * B = i * B + B := Nat.succ_mul _ _
    omega
set_option maxHeartbeats 4000000 in
set_option maxRecDepth 100000 in
theorem join_any (A : Option Addr) (L : List Bs) (c : Nat) (w : World) (hL : Byss w A L) (hn : L.length ≤ 100) (hl : ∀ x ∈ L, x.length ≤ 100000) : Calls Tryd.prog 19 #[.slice A L.length c] w fun e w' => ∃ v, e = .returned v ∧ OwnB w' w.heap.size v L.flatten ∧ Below w.heap.size w w' := by
  obtain ⟨n, hn0⟩ : ∃ n, n = L.length := ⟨_, rfl⟩
  have HL := Lib.hid hL
  have HS := Lib.hid hl
  have HF := Lib.hid (flat_len L 100000 hl)
  have HSn := Lib.hid (flat_snoc L)
  have HE : Hid (L.flatten = (L.take n).flatten) := Lib.hid (by rw [hn0, List.take_length])
  rw [HE.out, ← hn0]
  rw [← hn0] at hn
  have HN := Lib.hid hn0
  clear hL hl hn0 HE
  go_enter Tryd.func19, Tryd.ntmps19
  go_wp2_with fail
  go_loopw [3, 8] (fun v3 v8 w3 => ∃ i : Nat, v8 = .int .i64 i ∧ i ≤ n ∧ OwnB w3 w.heap.size v3 (L.take i).flatten ∧ Below w.heap.size w w3) (fun _ v8 _ => n - (intOf v8).toNat)
  case atStart => exact ⟨0, rfl, by omega, .inl ⟨rfl, by simp⟩, Below.refl _ _⟩
  case round =>
    obtain ⟨i, rfl, hi, ho, hB⟩ := hrel
    rename World => wr
    by_cases hlt : i < n
    · have hlt' : (i : Int) < (n : Int) := by omega
      obtain ⟨gA, off, hA, hcs⟩ := HL.out (by rw [← HN.out]; omega)
      obtain ⟨a, k, hc, hy, hk1, hk2, hk3⟩ := hcs i (by rw [← HN.out]; exact hlt)
      have hc' : wr.cell? ⟨gA, off + i, none⟩ = some (.slice a (L[i]'(by rw [← HN.out]; exact hlt)).length k) := cell_on hc hB
      have hy' := hy.on hB
      have hx := HS.out (L[i]'(by rw [← HN.out]; exact hlt)) (List.getElem_mem _)
      have hfl := HF.out i (by rw [← HN.out]; omega)
      have hsn := HSn.out i (by rw [← HN.out]; exact hlt)
      generalize L[i]'(by rw [← HN.out]; exact hlt) = x at *
      obtain ⟨m, hm⟩ : ∃ m, m = x.length := ⟨_, rfl⟩
      obtain ⟨P, hP⟩ : ∃ P, P = (L.take i).flatten := ⟨_, rfl⟩
      rw [← hP] at ho hfl hsn
      rw [← hm] at hc' hk1
      have HX : Hid (P.length + x.length ≤ 140737488355328) := Lib.hid (by omega)
      have HM := Lib.hid hm
      have HSN := Lib.hid hsn
      obtain ⟨A8, c8, hv, -⟩ := ho.bysN
      have HV := Lib.hid hv
      have HO := Lib.hid ho
      have hw := hB.size
      subst hA
      clear hcs hc hy hm hP hx hfl hsn hv ho
      go_wp2_with (first
        | (at_builtin; refine wpList_append_bys rfl (.tmp 12) (.tmp 13) rfl w.heap.size _ P rfl HO.out a k m x rfl HM.out hy' hk3 HX.out hw ?_)
        | fail)
      intro v9 w9 ho9 hg9 _
      have H9 : Hid (OwnB w9 w.heap.size v9 (L.take (i + 1)).flatten) := Lib.hid (by rw [HSN.out]; exact ho9)
      have K9 := Lib.hid (hB.grown hg9 hw (fun k hk => (HO.out.lt k hk).1))
      clear ho9 hg9 hc' hy' HV
      go_wp2_with fail
      go_roundw
      case rel => exact ⟨i + 1, by go_num, by omega, H9.out, K9.out⟩
      case measure => simp [intOf]; omega
    · have hlt' : ¬ (i : Int) < (n : Int) := by omega
      obtain rfl : i = n := by omega
      go_wp2_with fail
      go_ret
      exact ⟨_, rfl, ho, hB⟩
end Go.Proofs.YtkpnhbjdpbjfjaaDoor
