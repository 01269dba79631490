/-
  The walk of HttpReplied.
-/
import Derived.Test.YtgeedbehkfdebaaDoorHtZa
import Derived.Test.YtgeedbehkfdebaaDoorHpB
import Derived.Shelf.Strconv.Itoa3
import Derived.Test.YtgeedbehkfdebaaDoorSh
import Derived.Lib.AppendIntMem
namespace Go.Proofs.YtgeedbehkfdebaaDoor
open Go.RowKit Go.Shelf
set_option linter.unusedVariables false
set_option maxRecDepth 100000

/-- Itoa's contract, where its table lies. -/
theorem IT_of (n : Nat) (w : World) (hn : n ≤ 9223372036854775807) (hT : Lib.TabIs Tryd.prog w "internal/strconv.uint64pow10" .u64 Lib.pow10Tab) : IT n w := by
  unfold IT decD
  refine (Any.strconv_Itoa Tryd.laysM171 (n : Int) (by omega) (by omega) w hT).mono ?_
  rintro e w' ⟨rfl, k, os, rfl⟩
  refine ⟨?_, ?_⟩
  · unfold Lib.itoa
    rw [if_neg (by omega), Int.toNat_natCast]
  · exact Lib.below_grow w.heap.size w (Nat.le_refl _) k os
set_option maxHeartbeats 4000000 in
set_option maxRecDepth 100000 in
theorem HttpReplied_any (A1 A2 : Option Addr) (l1 l2 : Bs) (c1 c2 : Nat) (keep : Bool) (n : Int) (w : World) (h1 : Sl w A1 c1 l1) (h2 : Sl w A2 c2 l2) (hl2 : l2.length ≤ 140737488351232) (hI : ∀ n w', n ≤ 65535 → Below w.heap.size w w' → IT n w') : Calls Tryd.prog 3 #[.slice A1 l1.length c1, .slice A2 l2.length c2, .bool keep, .int .i64 n] w fun e w' => e = .returned (.bool true) ∧ Below w.heap.size w w' := by
  obtain ⟨m, hm⟩ : ∃ m, m = min l1.length 2000 := ⟨_, rfl⟩
  have sp := slice_pre A1 l1 c1 m (m : Int) (by omega) h1.le rfl
  obtain ⟨b, hb⟩ : ∃ b, b = l1.take m := ⟨_, rfl⟩
  have hbl : b.length = m := by rw [hb, List.length_take]; omega
  rw [← hb, hbl] at sp
  have sb : Sl w A1 c1 b := by rw [hb]; exact ⟨h1.bys.pre m, by rw [List.length_take]; have := h1.le; omega, h1.max, h1.nil⟩
  have RY := reply_yes 200 A1 b c1 keep true w sb (.inl ⟨rfl, by omega, rfl⟩) (hI b.length w (by omega) (Below.refl _ _))
  rw [hbl] at RY
  obtain ⟨whole, hwh⟩ : ∃ x, x = headR true m keep ++ b := ⟨_, rfl⟩
  rw [← hwh] at RY
  have hhl := headR_len (n := m) (by omega) true keep
  have hwl : 0 < whole.length ∧ whole.length ≤ 2200 := by
    rw [hwh, List.length_append, hbl]
    refine ⟨?_, by omega⟩
    rw [headR_told]
    simp
    have : sTold.length = 72 := by decide
    omega
  have PW : Hid (parseR (whole ++ l2) = (some (true, b, l2), 0)) := Lib.hid (by rw [hwh]; exact parse_whole (by omega) keep b l2 hbl)
  obtain ⟨q, r1, r2, r3, r4, r5⟩ := rem_u64 n whole.length (by omega) (by omega)
  have PS : Hid (parseR (whole.take q) = (none, 20)) := Lib.hid (parse_short (n := m) (by omega) keep b _ hbl (by rw [← hwh]; exact List.take_prefix _ _) (by rw [← hwh, List.length_take]; omega))
  have RYH := Lib.hid RY
  have HI := Lib.hid hI
  have H2 := Lib.hid h2
  have SB := Lib.hid sb
  have hmin : min (l1.length : Int) 2000 = (m : Int) := by omega
  have hl1 : (l1.length : Int) ≤ 9223372036854775807 := by have := Nat.le_trans h1.le h1.max; omega
  obtain ⟨nl, hnl⟩ : ∃ k, k = l1.length := ⟨_, rfl⟩
  rw [← hnl] at sp hmin hl1 ⊢
  obtain ⟨n2, hn2⟩ : ∃ k, k = l2.length := ⟨_, rfl⟩
  rw [← hn2] at hl2 ⊢
  obtain ⟨nw, hnw⟩ : ∃ k, k = whole.length := ⟨_, rfl⟩
  rw [← hnw] at hwl r1 r2 r3
  have HN2 := Lib.hid hn2
  have HNW := Lib.hid hnw
  have HBL := Lib.hid hbl
  have R1 : Int.tmod (IntKind.u64.wrap n) (nw : Int) = q := r1
  have hm2 : m ≤ 2000 := by omega
  clear h1 h2 hI hm hb hbl sb RY hwh hnl hn2 hnw r1 hhl
  go_enter Tryd.func3, Tryd.ntmps3
  go_wp2_with fail
  refine RYH.out.mono ?_
  rintro e w1 ⟨v1, rfl, o1, k1⟩
  obtain ⟨A3, c3, rfl, s3⟩ := o1.bysN
  rw [← HNW.out]
  have hnw0 : ((nw : Int) == 0) = false := by rw [beq_eq_false_iff_ne]; omega
  have S3 := Lib.hid s3
  have K1 := Lib.hid k1
  have hw1 := k1.size
  have CL := Lib.hid (CloneB_any A3 whole nw c3 w1 s3.bys HNW.out (by omega) (fun p hp h0 => s3.inside p hp (by rw [← HNW.out]; exact h0)))
  have IN3 := Lib.hid (fun p hp => s3.inside p hp (by rw [← HNW.out]; exact hwl.1))
  clear RYH o1 s3 k1
  go_wp2_with fail
  refine CL.out.mono ?_
  rintro e w2 ⟨v2, rfl, o2', k2⟩
  have K2 := Lib.hid (K1.out.trans (k2.mono hw1))
  have O2 := Lib.hid (o2'.mono hw1)
  have FR2 := Lib.hid (fun j hj => (o2'.lt j hj).1)
  have S32 := Lib.hid (S3.out.on k2)
  have hw2 := K2.out.size
  have H22 := Lib.hid (H2.out.on K2.out)
  clear CL o2' k2
  go_wp2_with (first
    | (at_builtin; refine wpList_append_bys rfl (.tmp 34) (.tmp 35) rfl w.heap.size _ whole rfl O2.out A2 c2 n2 l2 rfl HN2.out H22.out.bys H22.out.nil (by rw [← HN2.out, ← HNW.out]; omega) hw2 ?_)
    | fail)
  intro v3 w3 o3 g3 _
  have K3 := Lib.hid (K2.out.grown g3 hw2 (fun k hk => (O2.out.lt k hk).1))
  have S33 : Sl w3 A3 c3 whole := ⟨S32.out.bys.mod (Mod.grown (S := fun j => v2.ownBlock = some j) g3 (fun k hk => hk)) (fun p hp e => by
    have h1 := FR2.out _ e
    have h2 := IN3.out p hp
    omega), S32.out.le, S32.out.max, S32.out.nil⟩
  obtain ⟨A4, c4, rfl, s4⟩ := o3.bysN
  have PR := parseReply_any A4 (whole ++ l2) c4 w3 s4 (by rw [PW.out]; intro ok x y e; simp only [Option.some.injEq, Prod.mk.injEq] at e; obtain ⟨-, -, rfl⟩ := e; rw [← HN2.out]; exact hl2) (fun n w' hn kk => HI.out n w' hn (K3.out.trans (kk.mono K3.out.size)))
  rw [PW.out] at PR
  obtain ⟨n4, hn4⟩ : ∃ k, k = (whole ++ l2).length := ⟨_, rfl⟩
  rw [← hn4] at PR ⊢
  have PR := Lib.hid PR
  have S3H := Lib.hid S33
  clear o3 g3 s4 hn4 S33 S32 O2 H22
  go_wp2_with fail
  refine PR.out.mono ?_
  rintro e w4 ⟨k4, ⟨hno, -⟩ | ⟨ok, x, y, vx, vy, hyes, rfl, ox, oy⟩⟩
  · cases hno
  simp only [Option.some.injEq, Prod.mk.injEq] at hyes
  obtain ⟨rfl, rfl, rfl⟩ := hyes
  obtain ⟨A5, c5, rfl, s5⟩ := ox.bysN
  obtain ⟨A6, c6, rfl, s6⟩ := oy.bysN
  have K4 := Lib.hid (K3.out.trans (k4.mono K3.out.size))
  have S34 := Lib.hid (S3H.out.on k4)
  rw [HBL.out, ← HN2.out]
  have E1 := Lib.hid (EqualB_any A5 A1 b b m m c5 c1 w4 s5.bys (SB.out.on K4.out).bys HBL.out.symm HBL.out.symm)
  have E2 := Lib.hid (EqualB_any A6 A2 l2 l2 n2 n2 c6 c2 w4 s6.bys (H2.out.on K4.out).bys HN2.out HN2.out)
  rw [show (b == b) = true by simp] at E1
  rw [show (l2 == l2) = true by simp] at E2
  clear PR k4 ox oy s5 s6 S3H
  go_wp2_with fail
  refine E1.out.mono ?_
  rintro e w5 ⟨rfl, rfl⟩
  go_wp2_with fail
  refine E2.out.mono ?_
  rintro e w5 ⟨rfl, rfl⟩
  have sp2 := slice_pre A3 whole c3 q (q : Int) (by rw [← HNW.out]; omega) S34.out.le rfl
  have hlq : (whole.take q).length = q := by rw [List.length_take, ← HNW.out]; omega
  rw [hlq, ← HNW.out] at sp2
  have PR2 := parseReply_any A3 (whole.take q) c3 w4 ⟨S34.out.bys.pre q, by rw [hlq]; have := S34.out.le; have := HNW.out; omega, S34.out.max, S34.out.nil⟩ (by rw [PS.out]; intro ok x y e; cases e) (fun n w' hn kk => HI.out n w' hn (K4.out.trans (kk.mono K4.out.size)))
  rw [PS.out, hlq] at PR2
  have PR2 := Lib.hid PR2
  clear E1 E2 hlq S34
  go_wp2_with fail
  refine PR2.out.mono ?_
  rintro e w6 ⟨k6, ⟨-, rfl⟩ | ⟨ok, x, y, vx, vy, hyes, -⟩⟩
  · have HF := Lib.hid (K4.out.trans (k6.mono K4.out.size))
    clear PR2 k6
    go_wp2_with fail
    go_ret
    exact ⟨rfl, HF.out⟩
  · cases hyes
end Go.Proofs.YtgeedbehkfdebaaDoor
