/-
  Replies of HTTP: the length that a reply tells.
-/
import Derived.Test.YtjhameebehkdjaaGreatDoorHuB
import Derived.Test.YtjhameebehkdjaaGreatDoorHpA
import Derived.Test.YtjhameebehkdjaaGreatDoorGb
import Derived.Lib.SlBytesConst
namespace Go.Proofs.YtjhameebehkdjaaGreatDoor
open Go.RowKit Go.Shelf
set_option linter.unusedVariables false
set_option maxRecDepth 100000

theorem pre_take (p l : Bs) (h : p.length ≤ l.length) : (l.take p.length == p) = p.isPrefixOf l := by
  rw [Bool.eq_iff_iff, beq_iff_eq, List.isPrefixOf_iff_prefix]
  constructor
  · intro e
    exact ⟨l.drop p.length, by conv => lhs; rw [← e, List.length_take, Nat.min_eq_left h]
                               exact List.take_append_drop _ _⟩
  · rintro ⟨r, rfl⟩
    simp
theorem pre_short (p l : Bs) (h : l.length < p.length) : p.isPrefixOf l = false := by
  rw [← Bool.not_eq_true, List.isPrefixOf_iff_prefix]
  intro e
  have := e.length_le
  omega
set_option maxHeartbeats 400000 in
theorem hasPrefixB_any (A1 A2 : Option Addr) (l p : Bs) (c1 c2 : Nat) (w : World) (h1 : Sl w A1 c1 l) (h2 : Sl w A2 c2 p) : Calls Tryz.prog 32 #[.slice A1 l.length c1, .slice A2 p.length c2] w fun e w' => e = .returned (.bool (p.isPrefixOf l)) ∧ w' = w := by
  have m1 : l.length ≤ 9223372036854775807 := Nat.le_trans h1.le h1.max
  have m2 : p.length ≤ 9223372036854775807 := Nat.le_trans h2.le h2.max
  by_cases h : p.length ≤ l.length
  · have sp := slice_pre A1 l c1 p.length (p.length : Int) h h1.le rfl
    have EQ := Lib.hid (EqualB_any A1 A2 (l.take p.length) p p.length p.length c1 c2 w (h1.bys.pre p.length) h2.bys (by rw [List.length_take]; omega) rfl)
    rw [List.length_take, Nat.min_eq_left h] at sp
    rw [← pre_take p l h]
    have EV : Hid (∀ b, b = (l.take p.length == p) → b = (l.take p.length == p)) := Lib.hid (fun _ h => h)
    generalize (l.take p.length == p) = r at *
    generalize l.length = n at *
    generalize p.length = m at *
    have hge : (n : Int) ≥ (m : Int) := by omega
    clear h1 h2
    go_enter Tryz.func32, Tryz.ntmps32
    go_wp2_with fail
    refine EQ.out.mono ?_
    rintro e w1 ⟨rfl, rfl⟩
    go_wp2_with fail
    go_ret
    exact ⟨rfl, rfl⟩
  · rw [pre_short p l (by omega)]
    generalize l.length = n at *
    generalize p.length = m at *
    have hge : ¬ (n : Int) ≥ (m : Int) := by omega
    clear h1 h2
    go_enter Tryz.func32, Tryz.ntmps32
    go_wp2_with fail
    go_ret
    exact ⟨rfl, rfl⟩
set_option maxHeartbeats 400000 in
theorem cutPrefixB_any (A1 A2 : Option Addr) (l p : Bs) (c1 c2 : Nat) (w : World) (h1 : Sl w A1 c1 l) (h2 : Sl w A2 c2 p) : Calls Tryz.prog 25 #[.slice A1 l.length c1, .slice A2 p.length c2] w fun e w' => w' = w ∧ ((p.isPrefixOf l = false ∧ e = .returned (.tuple #[.slice A1 l.length c1, .bool false])) ∨ (p.isPrefixOf l = true ∧ ∃ A c, e = .returned (.tuple #[.slice A (l.drop p.length).length c, .bool true]) ∧ Sl w A c (l.drop p.length))) := by
  have HP := Lib.hid (hasPrefixB_any A1 A2 l p c1 c2 w h1 h2)
  cases hp : p.isPrefixOf l with
  | false =>
    rw [hp] at HP
    generalize l.length = n at *
    generalize p.length = m at *
    clear h1 h2 hp
    go_enter Tryz.func25, Tryz.ntmps25
    go_wp2_with fail
    refine HP.out.mono ?_
    rintro e w1 ⟨rfl, rfl⟩
    go_wp2_with fail
    go_returns
    exact ⟨rfl, .inl ⟨by simp, rfl⟩⟩
  | true =>
    rw [hp] at HP
    have hle : p.length ≤ l.length := (List.isPrefixOf_iff_prefix.1 hp).length_le
    obtain ⟨A, hsl, hb, -⟩ := h1.rest p.length (p.length : Int) hle rfl
    have HB := Lib.hid hb
    generalize (l.drop p.length).length = k at *
    have HB2 : Hid (∀ e, e = Ending.returned (.tuple #[.slice A k (c1 - p.length), .bool true]) → ∃ A' c, e = .returned (.tuple #[.slice A' k c, .bool true]) ∧ Sl w A' c (l.drop p.length)) := Lib.hid (fun e he => ⟨A, _, he, HB.out⟩)
    generalize l.length = n at *
    generalize p.length = m at *
    clear h1 h2 hp hb HB
    go_enter Tryz.func25, Tryz.ntmps25
    go_wp2_with fail
    refine HP.out.mono ?_
    rintro e w1 ⟨rfl, hw⟩
    rw [hw]
    clear hw
    go_wp2_with fail
    go_returns
    exact ⟨rfl, .inr ⟨by simp, HB2.out _ rfl⟩⟩
theorem trimLeft_any (s cs : Bs) (w : World) (hc : cs.length < 4294967281) (ha : cs.all (fun b => decide (b.toNat < 128)) = true) : Calls Tryz.prog 30 #[.string (bs s), .string (bs cs)] w fun e w' => e = .returned (.string (bs (Lib.trimLeftS s cs))) ∧ Below w.heap.size w w' :=
  Any.strings_TrimLeft_laid Tryz.lays161 (by kernel_rfl) (bs s) (bs cs) w (by rw [bs_size]; exact hc) (ascii_of_all ha)
theorem trimLeftS_dig (s : Bs) : Lib.trimLeftS s digs = s.dropWhile digH := by
  unfold Lib.trimLeftS
  congr 1
  funext c
  exact digs_dig c
theorem take_drop_while (s : Bs) : s.take (s.length - (s.dropWhile digH).length) = s.takeWhile digH := by
  have h := List.takeWhile_append_dropWhile (p := digH) (l := s)
  have hl := congrArg List.length h
  rw [List.length_append] at hl
  conv => lhs; arg 2; rw [← h]
  rw [show s.length - (s.dropWhile digH).length = (s.takeWhile digH).length by omega, List.take_left']
  rfl
def sTold : Bs := [72, 84, 84, 80, 47, 49, 46, 49, 32, 50, 48, 48, 32, 79, 75, 13, 10, 67, 111, 110, 116, 101, 110, 116, 45, 84, 121, 112, 101, 58, 32, 97, 112, 112, 108, 105, 99, 97, 116, 105, 111, 110, 47, 100, 110, 115, 45, 109, 101, 115, 115, 97, 103, 101, 13, 10, 67, 111, 110, 116, 101, 110, 116, 45, 76, 101, 110, 103, 116, 104, 58, 32]
/-- The length that a reply tells, as far as it is looked at. -/
def toldH (b : Bs) : Nat := if sTold.isPrefixOf b then (match decH (((b.drop 72).take 5).takeWhile digH) with | some n => if n ≤ 65535 then n else 0 | none => 0) else 0
set_option maxHeartbeats 4000000 in
set_option maxRecDepth 100000 in
theorem toldSize_any (A : Option Addr) (b : Bs) (c : Nat) (w : World) (hb : Sl w A c b) : Calls Tryz.prog 23 #[.slice A b.length c] w fun e w' => e = .returned (.int .i64 (toldH b)) ∧ Below w.heap.size w w' := by
  obtain ⟨W1, hW1⟩ : ∃ W1, W1 = w.alloc (.cells #[.int .u8 72, .int .u8 84, .int .u8 84, .int .u8 80, .int .u8 47, .int .u8 49, .int .u8 46, .int .u8 49, .int .u8 32, .int .u8 50, .int .u8 48, .int .u8 48, .int .u8 32, .int .u8 79, .int .u8 75, .int .u8 13, .int .u8 10, .int .u8 67, .int .u8 111, .int .u8 110, .int .u8 116, .int .u8 101, .int .u8 110, .int .u8 116, .int .u8 45, .int .u8 84, .int .u8 121, .int .u8 112, .int .u8 101, .int .u8 58, .int .u8 32, .int .u8 97, .int .u8 112, .int .u8 112, .int .u8 108, .int .u8 105, .int .u8 99, .int .u8 97, .int .u8 116, .int .u8 105, .int .u8 111, .int .u8 110, .int .u8 47, .int .u8 100, .int .u8 110, .int .u8 115, .int .u8 45, .int .u8 109, .int .u8 101, .int .u8 115, .int .u8 115, .int .u8 97, .int .u8 103, .int .u8 101, .int .u8 13, .int .u8 10, .int .u8 67, .int .u8 111, .int .u8 110, .int .u8 116, .int .u8 101, .int .u8 110, .int .u8 116, .int .u8 45, .int .u8 76, .int .u8 101, .int .u8 110, .int .u8 103, .int .u8 116, .int .u8 104, .int .u8 58, .int .u8 32] 5 (72, 73)) := ⟨_, rfl⟩
  have k1 : Below w.heap.size w W1 := by rw [hW1]; exact Below.alloc (Below.refl _ _) (Nat.le_refl _) _
  have s1 : Sl W1 (some ⟨w.heap.size, 0, none⟩) 72 sTold := by rw [hW1]; exact Sl.madeF (l := sTold) (72, 73) rfl (by decide)
  have CP := cutPrefixB_any A (some ⟨w.heap.size, 0, none⟩) b sTold c 72 W1 (hb.on k1) s1
  have e72 : sTold.length = 72 := by decide
  rw [e72] at CP
  have CP := Lib.hid CP
  have kc := fun (w : World) (C : Array Value) (n c : Nat) => Lib.run_convert_bytes_const (P := Tryz.prog) w 29 5 C n c Tryz.underlying29 Tryz.underlying5
  have HW1 := Lib.hid hW1
  have K1 := Lib.hid k1
  have T0 : Hid (sTold.isPrefixOf b = false → toldH b = 0) := Lib.hid (fun h => by unfold toldH; rw [h]; rfl)
  have T1 : Hid (sTold.isPrefixOf b = true → ∀ n, decH (((b.drop 72).take 5).takeWhile digH) = some n → toldH b = if n ≤ 65535 then n else 0) := Lib.hid (fun h n e => by unfold toldH; rw [if_pos h, e])
  have T2 : Hid (sTold.isPrefixOf b = true → decH (((b.drop 72).take 5).takeWhile digH) = none → toldH b = 0) := Lib.hid (fun h e => by unfold toldH; rw [if_pos h, e])
  generalize toldH b = t at *
  clear hW1 k1 s1 hb
  go_enter Tryz.func23, Tryz.ntmps23
  go_wp2_with fail
  rw [← HW1.out]
  refine CP.out.mono ?_
  rintro e w2 ⟨hw, ⟨hp, rfl⟩ | ⟨hp, A2, c2, rfl, s2⟩⟩
  · rw [hw]
    have ht := T0.out hp
    clear hw T0 T1 T2 hp CP
    go_wp2_with fail
    go_ret
    exact ⟨by rw [ht]; rfl, K1.out⟩
  · rw [hw]
    obtain ⟨y, hy⟩ : ∃ y, y = b.drop 72 := ⟨_, rfl⟩
    rw [← hy] at s2 ⊢
    have H1 : Hid (∀ n, decH ((y.take 5).takeWhile digH) = some n → t = if n ≤ 65535 then n else 0) := Lib.hid (fun n e => T1.out hp n (by rw [← hy]; exact e))
    have H2 : Hid (decH ((y.take 5).takeWhile digH) = none → t = 0) := Lib.hid (fun e => T2.out hp (by rw [← hy]; exact e))
    clear hw T0 T1 T2 hp CP hy
    have sp := slice_pre A2 y c2 (min y.length 5) (min (y.length : Int) 5) (by omega) s2.le (by omega)
    have e1 : y.take (min y.length 5) = y.take 5 := by rw [List.take_eq_take_iff]; omega
    rw [e1] at sp
    obtain ⟨z, hz⟩ : ∃ z, z = y.take 5 := ⟨_, rfl⟩
    have hz5 : z.length ≤ 5 := by rw [hz, List.length_take]; omega
    have cv := string_bys A2 z c2 W1 (by rw [hz]; exact s2.bys.pre 5)
    rw [← hz] at sp H1 H2
    have hmy : y.length ≤ 9223372036854775807 := Nat.le_trans s2.le s2.max
    have TL := Lib.hid (trimLeft_any z digs W1 (by decide) (by decide))
    rw [trimLeftS_dig] at TL
    have hd : (z.dropWhile digH).length ≤ z.length := (List.dropWhile_suffix digH).length_le
    have HTK := take_drop_while z
    have hsz : (bs (z.dropWhile digH)).size = (z.dropWhile digH).length := bs_size _
    have hsz2 : (bs z).size = z.length := bs_size _
    have DC := fun (w : World) => decimal_any (z.takeWhile digH) w (by
      have h0 : (z.takeWhile digH).length ≤ z.length := (List.takeWhile_prefix digH).length_le
      omega)
    have DC := Lib.hid DC
    have SUM : z.length = (z.takeWhile digH).length + (z.dropWhile digH).length := by
      have h := congrArg List.length (List.takeWhile_append_dropWhile (p := digH) (l := z))
      rw [List.length_append] at h
      exact h.symm
    have cutS : ∀ w : World, (Instr.slice 9 (.string (bs z)) none (some (.int .i64 ((z.takeWhile digH).length : Int))) none).run Tryz.prog w = .ok (.string (bs (z.takeWhile digH))) w := fun w => by
      rw [run_slice_string_h w 9 _ Tryz.underlying9 _ _ (by omega) (by rw [hsz2]; omega), bs_extract]
      have h2 := HTK
      rw [show z.length - (z.dropWhile digH).length = (z.takeWhile digH).length by omega] at h2
      rw [Nat.sub_zero, List.drop_zero, Int.toNat_natCast, h2]
    generalize hu : z.takeWhile digH = u at *
    obtain ⟨q, hq⟩ : ∃ q, q = u.length := ⟨_, rfl⟩
    rw [← hq] at SUM cutS
    obtain ⟨v, hv⟩ : ∃ v, v = z.dropWhile digH := ⟨_, rfl⟩
    rw [← hv] at SUM TL hsz hd
    generalize hbb : v.length = bb at *
    have hzl : (z.length : Int) - (bb : Int) = (q : Int) := by omega
    generalize hzz : z.length = a at *
    have hyl : (y.length : Int) ≤ 9223372036854775807 := by omega
    have haa : a ≤ 5 := hz5
    have hmin : min (y.length : Int) 5 = (a : Int) := by rw [← hzz, hz, List.length_take]; omega
    rw [hmin] at sp
    generalize hyy : y.length = ny at *
    have H1' := H1
    have H2' := H2
    clear hz hv hq hu hbb hzz hyy e1 s2 HTK H1 H2 e72 SUM
    have HC : Hid (∀ o : Option Nat, decH u = o → (o = none → t = 0) ∧ ∀ n, o = some n → t = if n ≤ 65535 then n else 0) := Lib.hid (fun o ho => ⟨fun e => H2'.out (by rw [ho, e]), fun n e => H1'.out n (by rw [ho, e])⟩)
    clear H1' H2'
    go_wp2_with fail
    refine TL.out.mono ?_
    rintro e w3 ⟨rfl, k3⟩
    have K3 := Lib.hid (K1.out.trans (k3.mono K1.out.size))
    clear k3 TL
    go_wp2_with fail
    refine (DC.out _).mono ?_
    rintro e w4 ⟨rfl, k4⟩
    have K4 := Lib.hid (K3.out.trans (k4.mono K3.out.size))
    clear k4 DC
    obtain ⟨o, ho⟩ : ∃ o, decH u = o := ⟨_, rfl⟩
    have h2 := HC.out o ho
    rw [ho]
    clear HC ho
    cases o with
    | none =>
      have ht := h2.1 rfl
      clear h2
      subst ht
      go_wp2_with fail
      go_ret
      exact ⟨rfl, K4.out⟩
    | some n =>
      have ht := h2.2 n rfl
      clear h2
      by_cases hn : n ≤ 65535
      · rw [if_pos hn] at ht
        subst ht
        have hn' : ¬ (t : Int) > 65535 := by omega
        go_wp2_with fail
        go_ret
        exact ⟨rfl, K4.out⟩
      · rw [if_neg hn] at ht
        subst ht
        have hn' : (n : Int) > 65535 := by omega
        go_wp2_with fail
        go_ret
        exact ⟨rfl, K4.out⟩
end Go.Proofs.YtjhameebehkdjaaGreatDoor
