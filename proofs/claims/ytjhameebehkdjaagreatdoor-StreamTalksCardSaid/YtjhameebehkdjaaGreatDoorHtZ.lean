/-
  Replies of HTTP: the landed ParseReply.
-/
import Derived.Test.YtjhameebehkdjaaGreatDoorHtY
import Derived.Test.YtjhameebehkdjaaGreatDoorHtV
import Derived.Deep.RegionHeld3
import Derived.Deep.MidRow
namespace Go.Proofs.YtjhameebehkdjaaGreatDoor
open Go.RowKit Go.Shelf
set_option linter.unusedVariables false
set_option maxRecDepth 100000

/-- A reply's beginning, held against the bytes: a reply whole, or its beginning alone. -/
def hitR (b h : Bs) (m : Nat) : Option (Option (Bs × Bs)) :=
  if h.isPrefixOf b then (if m ≤ (b.drop h.length).length then some (some ((b.drop h.length).take m, (b.drop h.length).drop m)) else some none)
  else if b.length < h.length ∧ b.isPrefixOf h = true then some none else none
def parseL (b : Bs) : List (Bool × Nat × Bool) → Nat → Option (Bool × Bs × Bs) × Nat
  | [], f => (none, f)
  | (ok, m, k) :: r, f => match hitR b (headR ok m k) m with
    | some (some (x, y)) => (some (ok, x, y), 0)
    | some none => parseL b r 20
    | none => parseL b r f
def candsR (n : Nat) : List (Bool × Nat × Bool) := [(true, n, true), (true, n, false), (false, 0, false)]
def parseR (b : Bs) : Option (Bool × Bs × Bs) × Nat := parseL b (candsR (toldH b)) 130
def candC (x : Bool × Nat × Bool) : List Value := [.int .i64 (if x.1 then 200 else 400), .int .i64 x.2.1, .bool x.2.2]
/-- What ParseReply answers. -/
def ParseP (w : World) (r : Option (Bool × Bs × Bs) × Nat) (e : Ending) (w' : World) : Prop := Below w.heap.size w w' ∧
  ((r.1 = none ∧ e = .returned (.tuple #[.int .i64 0, .slice none 0 0, .slice none 0 0, .int .i64 r.2])) ∨
   (∃ ok x y vx vy, r.1 = some (ok, x, y) ∧ e = .returned (.tuple #[.int .i64 (if ok then 200 else 400), vx, vy, .int .i64 0]) ∧ OwnB w' w.heap.size vx x ∧ OwnB w' w.heap.size vy y))
theorem toldH_le (b : Bs) : toldH b ≤ 65535 := by
  unfold toldH
  split
  · split
    · split <;> omega
    · omega
  · omega
set_option maxHeartbeats 400000 in
theorem hasPrefixS_any (s p : Bs) (w : World) (h1 : s.length ≤ 9223372036854775807) (h2 : p.length ≤ 9223372036854775807) : Calls Tryz.prog 27 #[.string (bs s), .string (bs p)] w fun e w' => e = .returned (.bool (p.isPrefixOf s)) ∧ w' = w := by
  have I : Calls Tryz.prog 33 #[.string (bs s), .string (bs p)] w fun e w' => e = .returned (.bool (p.isPrefixOf s)) ∧ w' = w := by
    have z1 := bs_size s
    have z2 := bs_size p
    by_cases h : p.length ≤ s.length
    · rw [← pre_take p s h]
      have sp : ∀ w : World, (Instr.slice 9 (.string (bs s)) none (some (.int .i64 (p.length : Int))) none).run Tryz.prog w = .ok (.string (bs (s.take p.length))) w := fun w => by
        rw [run_slice_string_h w 9 _ Tryz.underlying9 _ _ (by omega) (by rw [z1]; omega), bs_extract, Nat.sub_zero, List.drop_zero, Int.toNat_natCast]
      generalize s.take p.length = t at *
      obtain ⟨r, hr⟩ : ∃ r, (t == p) = r := ⟨_, rfl⟩
      rw [hr]
      generalize hn : s.length = n at *
      generalize hm : p.length = m at *
      have hge : (n : Int) ≥ (m : Int) := by omega
      clear hn hm
      go_enter Tryz.func33, Tryz.ntmps33
      go_wp2_with fail
      go_ret
      exact ⟨by first | rfl | (rw [← hr]; rfl), rfl⟩
    · rw [pre_short p s (by omega)]
      generalize hn : s.length = n at *
      generalize hm : p.length = m at *
      have hge : ¬ (n : Int) ≥ (m : Int) := by omega
      clear hn hm
      go_enter Tryz.func33, Tryz.ntmps33
      go_wp2_with fail
      go_ret
      exact ⟨rfl, rfl⟩
  have I := Lib.hid I
  go_enter Tryz.func27, Tryz.ntmps27
  go_wp2_with fail
  refine I.out.mono ?_
  rintro e w1 ⟨rfl, rfl⟩
  go_wp2_with fail
  go_ret
  exact ⟨rfl, rfl⟩
theorem info_cand : (Tryz.prog.info? 68).map (·.size) = some 3 := by kernel_rfl
theorem parseL_short {b : Bs} {ok kp : Bool} {m f : Nat} {r : List (Bool × Nat × Bool)} (h : hitR b (headR ok m kp) m = some none) : parseL b ((ok, m, kp) :: r) f = parseL b r 20 := by
  simp only [parseL]
  rw [h]
theorem parseL_none {b : Bs} {ok kp : Bool} {m f : Nat} {r : List (Bool × Nat × Bool)} (h : hitR b (headR ok m kp) m = none) : parseL b ((ok, m, kp) :: r) f = parseL b r f := by
  simp only [parseL]
  rw [h]
theorem parseL_done {b x y : Bs} {ok kp : Bool} {m f : Nat} {r : List (Bool × Nat × Bool)} (h : hitR b (headR ok m kp) m = some (some (x, y))) : parseL b ((ok, m, kp) :: r) f = (some (ok, x, y), 0) := by
  simp only [parseL]
  rw [h]
theorem candsR_len (n : Nat) : (candsR n).length = 3 := rfl
theorem cand_len (x : Bool × Nat × Bool) : (candC x).length = 3 := rfl
theorem cands_ok (n : Nat) (h : n ≤ 65535) : ∀ x ∈ candsR n, x.2.1 ≤ 65535 := by
  intro x hx
  simp only [candsR, List.mem_cons, List.not_mem_nil, or_false] at hx
  rcases hx with rfl | rfl | rfl <;> simp <;> omega
theorem cand_range {W : World} {g t k : Nat} (hh : W.heap[g]? = some (.cells (((candsR t).flatMap candC).toArray) 68 (0, 0))) (hk : k < 3) : W.rangeAt g (k * 3) (candC ((candsR t)[k]'(by rw [candsR_len]; exact hk))) := fun j v hj => by
  rw [cell_of_row _ g _ _ _ _ hh]
  match k, hk, j with
  | 0, _, 0 => exact hj
  | 0, _, 1 => exact hj
  | 0, _, 2 => exact hj
  | 1, _, 0 => exact hj
  | 1, _, 1 => exact hj
  | 1, _, 2 => exact hj
  | 2, _, 0 => exact hj
  | 2, _, 1 => exact hj
  | 2, _, 2 => exact hj
  | 0, _, j + 3 => simp [candC] at hj
  | 1, _, j + 3 => simp [candC] at hj
  | 2, _, j + 3 => simp [candC] at hj
set_option maxHeartbeats 4000000 in
set_option maxRecDepth 100000 in
theorem parseReply_any (A : Option Addr) (b : Bs) (c : Nat) (w : World) (hb : Sl w A c b) (hl : ∀ ok x y, (parseR b).1 = some (ok, x, y) → y.length ≤ 140737488351232) (hI : ∀ n w', n ≤ 65535 → Below w.heap.size w w' → IT n w') : Calls Tryz.prog 12 #[.slice A b.length c] w (ParseP w (parseR b)) := by
  obtain ⟨t, ht⟩ : ∃ t, t = toldH b := ⟨_, rfl⟩
  have ht5 : t ≤ 65535 := by rw [ht]; exact toldH_le b
  have TS := Lib.hid (toldSize_any A b c w hb)
  rw [← ht] at TS
  have HB := Lib.hid hb
  have HI := Lib.hid hI
  have HL := Lib.hid hl
  have HPR : Hid (parseL b (candsR t) 130 = parseR b) := Lib.hid (by unfold parseR; rw [← ht])
  have hbm : b.length ≤ 9223372036854775807 := Nat.le_trans hb.le hb.max
  have HQ : Hid (∀ e w', ParseP w (parseL b (candsR t) 130) e w' → ParseP w (parseR b) e w') := Lib.hid (fun e w' q => by unfold parseR; rw [← ht]; exact q)
  generalize ParseP w (parseR b) = Q at *
  obtain ⟨nb, hnb⟩ : ∃ n, n = b.length := ⟨_, rfl⟩
  rw [← hnb] at hbm TS ⊢
  have HNB := Lib.hid hnb
  have HR : Hid (∀ W : World, (W.alloc (.cells #[.int .i64 200, .int .i64 t, .bool true, .int .i64 200, .int .i64 t, .bool false, .int .i64 400, .int .i64 0, .bool false] 68)).heap[W.heap.size]? = some (.cells (((candsR t).flatMap candC).toArray) 68 (0, 0))) := Lib.hid (fun W => row_new _ rfl)
  clear hb hI ht hnb hl
  go_enter Tryz.func12, Tryz.ntmps12
  go_wp2_with fail
  refine TS.out.mono ?_
  rintro e w1 ⟨rfl, k1⟩
  obtain ⟨W2, hW2⟩ : ∃ W2, W2 = w1.alloc (.cells #[.int .i64 200, .int .i64 t, .bool true, .int .i64 200, .int .i64 t, .bool false, .int .i64 400, .int .i64 0, .bool false] 68) := ⟨_, rfl⟩
  have k2 : Below w.heap.size w W2 := by rw [hW2]; exact Below.alloc k1 k1.size _
  have r2 := HR.out w1
  rw [← hW2] at r2
  have R2 := Lib.hid r2
  have K2 := Lib.hid k2
  have HW2 := Lib.hid hW2
  clear k1 hW2 r2 k2 TS HR
  go_wp2_with fail
  rw [← HW2.out]
  clear HW2
  go_loopw [7, 22] (fun f i wr => ∃ (k : Nat) (g : Nat), i = .int .i64 k ∧ k ≤ 3 ∧ f = .int .i64 g ∧ Below W2.heap.size W2 wr ∧ Hid (parseL b (candsR t) 130 = parseL b ((candsR t).drop k) g)) (fun _ i _ => 3 - (intOf i).toNat)
  case atStart => exact ⟨0, 130, rfl, by omega, rfl, Below.refl _ _, Lib.hid rfl⟩
  case round =>
    obtain ⟨k, f, rfl, hk, rfl, hB, hG⟩ := hrel
    by_cases hlt : k < 3
    · have hlt' : (k : Int) < 3 := by omega
      obtain ⟨cd, hcd⟩ : ∃ cd, cd = (candsR t)[k]'(by rw [candsR_len]; exact hlt) := ⟨_, rfl⟩
      have hr : wr.rangeAt w1.heap.size (k * 3) (candC cd) := by
        rw [hcd]
        exact range_on (cand_range R2.out hlt) hB
      have hdr : (candsR t).drop k = cd :: (candsR t).drop (k + 1) := by rw [hcd]; exact List.drop_eq_getElem_cons (by rw [candsR_len]; exact hlt)
      have hm : cd.2.1 ≤ 65535 := cands_ok t ht5 cd (by rw [hcd]; exact List.getElem_mem _)
      have hcode : ((if cd.1 then (200 : Int) else 400) = 200 ∧ cd.1 = true) ∨ ((if cd.1 then (200 : Int) else 400) = 400 ∧ cd.1 = false) := by cases cd.1 <;> simp
      obtain ⟨ok, m, kp⟩ := cd
      simp only at hm hcode
      have hxc : candC (ok, m, kp) = [.int .i64 (if ok then 200 else 400), .int .i64 m, .bool kp] := rfl
      obtain ⟨code, hco⟩ : ∃ code : Int, code = if ok then 200 else 400 := ⟨_, rfl⟩
      rw [← hco] at hxc hcode
      rw [hxc] at hr
      have HCO := Lib.hid hco
      have HDR := Lib.hid hdr
      have ic : Hid ((Tryz.prog.info? 68).map (·.size) = some ([.int .i64 code, .int .i64 m, .bool kp] : List Value).length) := Lib.hid info_cand
      have ia : Hid ((Tryz.prog.info? 68).map (·.size) = some (#[.int .i64 code, .int .i64 m, .bool kp] : Array Value).size) := Lib.hid info_cand
      have oa : Hid ((#[.int .i64 code, .int .i64 m, .bool kp] : Array Value).all (·.oneCell') = true) := Lib.hid (by simp [Value.oneCell'])
      have rZ := row_new (w := wr) (k := wr.heap.size) (.cells #[.int .i64 0, .int .i64 0, .bool false] 68 (0, 0)) rfl
      have r5 := setRow_heap _ _ _ #[.int .i64 code, .int .i64 m, .bool kp] _ _ rZ
      have q1 : Below wr.heap.size wr ((wr.alloc (.cells #[.int .i64 0, .int .i64 0, .bool false] 68)).setRow wr.heap.size #[.int .i64 code, .int .i64 m, .bool kp]) := Below.setRow (Below.alloc (Below.refl _ _) (Nat.le_refl _) _) (Nat.le_refl _) _
      obtain ⟨W4, hW4⟩ : ∃ W4, W4 = (wr.alloc (.cells #[.int .i64 0, .int .i64 0, .bool false] 68)).setRow wr.heap.size #[.int .i64 code, .int .i64 m, .bool kp] := ⟨_, rfl⟩
      rw [← hW4] at r5 q1
      have HW4 := Lib.hid hW4
      have K4 := Lib.hid (K2.out.trans ((hB.trans (q1.mono hB.size)).mono K2.out.size))
      have B4 := Lib.hid (hB.trans (q1.mono hB.size))
      have y0 : W4.cell? ⟨wr.heap.size, 0, none⟩ = some (.int .i64 code) := (cell_of_row _ _ 0 _ _ _ r5).trans rfl
      have y1 : W4.cell? ⟨wr.heap.size, 1, none⟩ = some (.int .i64 m) := (cell_of_row _ _ 1 _ _ _ r5).trans rfl
      have y2 : W4.cell? ⟨wr.heap.size, 2, none⟩ = some (.bool kp) := (cell_of_row _ _ 2 _ _ _ r5).trans rfl
      have Y1 := Lib.hid y1
      have RH := Lib.hid (replyHead_any code ok hcode m kp W4 (by omega) (HI.out m W4 hm K4.out))
      have RZ := Lib.hid rZ
      have HR := Lib.hid hr
      have HGG := hG
      have hhl := headR_len (n := m) (by omega) ok kp
      clear hW4 r5 q1 rZ hr hcd hdr hxc hco hG hcode hB
      go_wp2_with (first
        | (refine wpList_load_mid rfl 68 (.tmp 24) rfl w1.heap.size (k * 3) rfl [.int .i64 code, .int .i64 m, .bool kp] _ HR.out Tryz.underlying68 rfl ic.out ?_)
        | (refine wpList_store_row rfl 68 (.tmp 9) (.tmp 25) rfl wr.heap.size #[.int .i64 code, .int .i64 m, .bool kp] rfl rfl 68 _ RZ.out ia.out rfl oa.out ?_; rw [← HW4.out])
        | fail)
      refine RH.out.mono ?_
      rintro e w5 ⟨rfl, k5⟩
      obtain ⟨h, hh⟩ : ∃ h, h = headR ok m kp := ⟨_, rfl⟩
      rw [← hh] at hhl ⊢
      have E1 : Hid (hitR b h m = some none → parseL b (candsR t) 130 = parseL b ((candsR t).drop (k + 1)) 20) := Lib.hid (fun e => by rw [HGG.out, HDR.out]; exact parseL_short (by rw [← hh]; exact e))
      have E2 : Hid (hitR b h m = none → parseL b (candsR t) 130 = parseL b ((candsR t).drop (k + 1)) f) := Lib.hid (fun e => by rw [HGG.out, HDR.out]; exact parseL_none (by rw [← hh]; exact e))
      have E3 : Hid (∀ x y, hitR b h m = some (some (x, y)) → parseL b (candsR t) 130 = (some (ok, x, y), 0)) := Lib.hid (fun x y e => by rw [HGG.out, HDR.out]; exact parseL_done (by rw [← hh]; exact e))
      have K5 := Lib.hid (K4.out.trans (k5.mono K4.out.size))
      have B5 := Lib.hid (B4.out.trans (k5.mono B4.out.size))
      have z0 := cell_on y0 k5
      have z1 := cell_on y1 k5
      have hw5 := K5.out.size
      have hb5 := B5.out.size
      clear hh k5 RH HGG HDR y0 y1 y2 Y1 K4 B4 HW4 RZ HR
      go_wp2_with (first
        | (refine wpList_conv_own rfl (.tmp 35) rfl (h := h) rfl (by omega) ?_)
        | fail)
      intro v6 w6 o6 k6
      obtain ⟨A6, c6, rfl, s6⟩ := o6.bysN
      have K6 := Lib.hid (K5.out.trans (k6.mono hw5))
      have B6 := Lib.hid (B5.out.trans (k6.mono hb5))
      have z0' := cell_on z0 k6
      have z1' := cell_on z1 k6
      have b6 := HB.out.on K6.out
      have CP := cutPrefixB_any A A6 b h c c6 w6 b6 s6
      have cv := string_bys A b c w6 b6.bys
      have HS := hasPrefixS_any h b w6 (by omega) (by have := HNB.out; omega)
      have hsz : (bs h).size = h.length := bs_size h
      rw [← HNB.out] at CP cv
      have CP := Lib.hid CP
      have HS := Lib.hid HS
      obtain ⟨nh, hnh⟩ : ∃ n, n = h.length := ⟨_, rfl⟩
      rw [← hnh] at hsz CP hhl ⊢
      have HNH := Lib.hid hnh
      clear o6 k6 s6 z0 z1 b6 K5 B5 hnh hw5 hb5
      go_wp2_with fail
      refine CP.out.mono ?_
      rintro e w7 ⟨rfl, ⟨hp, rfl⟩ | ⟨hp, A7, c7, rfl, s7⟩⟩
      · have HP := Lib.hid hp
        by_cases hlt2 : nb < nh
        · have hlt2' : (nb : Int) < (nh : Int) := by omega
          obtain ⟨r, hr⟩ : ∃ r, r = b.isPrefixOf h := ⟨_, rfl⟩
          rw [← hr] at HS
          have HRR := Lib.hid hr
          clear hp CP hr
          go_wp2_with fail
          refine HS.out.mono ?_
          rintro e w8 ⟨rfl, rfl⟩
          cases r with
          | true =>
            have HX : Hid (parseL b (candsR t) 130 = parseL b ((candsR t).drop (k + 1)) 20) := Lib.hid (E1.out (by unfold hitR; rw [if_neg (by rw [HP.out]; simp), if_pos ⟨by have := HNB.out; have := HNH.out; omega, HRR.out.symm⟩]))
            clear HS E1 E2 E3
            go_wp2_with fail
            go_roundw
            case rel => exact ⟨k + 1, 20, by go_num, by omega, rfl, B6.out, HX⟩
            case measure => simp [intOf]; omega
          | false =>
            have HX : Hid (parseL b (candsR t) 130 = parseL b ((candsR t).drop (k + 1)) f) := Lib.hid (E2.out (by unfold hitR; rw [if_neg (by rw [HP.out]; simp), if_neg (by rw [← HRR.out]; simp)]))
            clear HS E1 E2 E3
            go_wp2_with fail
            go_roundw
            case rel => exact ⟨k + 1, f, by go_num, by omega, rfl, B6.out, HX⟩
            case measure => simp [intOf]; omega
        · have hlt2' : ¬ (nb : Int) < (nh : Int) := by omega
          have HX : Hid (parseL b (candsR t) 130 = parseL b ((candsR t).drop (k + 1)) f) := Lib.hid (E2.out (by unfold hitR; rw [if_neg (by rw [HP.out]; simp), if_neg (by have := HNB.out; have := HNH.out; omega)]))
          clear hp CP HS E1 E2 E3
          go_wp2_with fail
          go_roundw
          case rel => exact ⟨k + 1, f, by go_num, by omega, rfl, B6.out, HX⟩
          case measure => simp [intOf]; omega
      · have HP := Lib.hid hp
        obtain ⟨y, hy⟩ : ∃ y, y = b.drop nh := ⟨_, rfl⟩
        have HY := Lib.hid hy
        rw [← hy] at s7 ⊢
        obtain ⟨ny, hny⟩ : ∃ n, n = y.length := ⟨_, rfl⟩
        rw [← hny]
        have HNY := Lib.hid hny
        have hyl : ny ≤ nb := by rw [hny, hy, List.length_drop, ← HNB.out]; omega
        by_cases hle : m ≤ ny
        · have hge : (ny : Int) ≥ (m : Int) := by omega
          have HF : Hid (∀ vx vy wf, Below w.heap.size w wf → OwnB wf w.heap.size vx (y.take m) → OwnB wf w.heap.size vy (y.drop m) → Q (.returned (.tuple #[.int .i64 code, vx, vy, .int .i64 0])) wf) := Lib.hid (fun vx vy wf kf ox oy => HQ.out _ _ ⟨kf, .inr ⟨ok, y.take m, y.drop m, vx, vy, by rw [E3.out (y.take m) (y.drop m) (by unfold hitR; rw [if_pos HP.out, ← HNH.out, ← hy, if_pos (by rw [← hny]; exact hle)])], by rw [HCO.out], ox, oy⟩⟩)
          have sp := slice_pre A7 y c7 m (m : Int) (by omega) s7.le rfl
          obtain ⟨A8, hsl, s8, -⟩ := s7.rest m (m : Int) (by omega) rfl
          obtain ⟨n8, hn8⟩ : ∃ n, n = (y.drop m).length := ⟨_, rfl⟩
          rw [← hn8] at hsl
          have hn8' : n8 ≤ ny := by rw [hn8, List.length_drop]; omega
          have hn8b : n8 ≤ 140737488351232 := by
            rw [hn8]
            exact HL.out ok (y.take m) (y.drop m) (by rw [← HPR.out, E3.out (y.take m) (y.drop m) (by unfold hitR; rw [if_pos HP.out, ← HNH.out, ← hy, if_pos (by rw [← hny]; exact hle)])])
          have hlx : (y.take m).length = m := by rw [List.length_take]; omega
          rw [hlx] at sp
          rw [← hny] at sp hsl
          have C1 : Hid (∀ w', Below w7.heap.size w7 w' → Calls Tryz.prog 26 #[.slice A7 m c7] w' fun e w'' => ∃ v', e = .returned v' ∧ OwnB w'' w'.heap.size v' (y.take m) ∧ Below w'.heap.size w' w'') := Lib.hid (fun w' kk => CloneB_any A7 (y.take m) m c7 w' ((s7.bys.pre m).on kk) hlx.symm (by omega) (fun p hp h0 => Nat.lt_of_lt_of_le (s7.inside p hp (by omega)) kk.size))
          have C2 : Hid (∀ w', Below w7.heap.size w7 w' → Calls Tryz.prog 26 #[.slice A8 n8 (c7 - m)] w' fun e w'' => ∃ v', e = .returned v' ∧ OwnB w'' w'.heap.size v' (y.drop m) ∧ Below w'.heap.size w' w'') := Lib.hid (fun w' kk => CloneB_any A8 (y.drop m) n8 (c7 - m) w' (s8.bys.on kk) hn8 (by omega) (fun p hp h0 => Nat.lt_of_lt_of_le (s8.inside p hp (by omega)) kk.size))
          have F0 : ∀ w', Below w7.heap.size w7 w' → w'.cell? ⟨wr.heap.size, 0, none⟩ = some (.int .i64 code) := fun w' kk => cell_on z0' kk
          have F1 : ∀ w', Below w7.heap.size w7 w' → w'.cell? ⟨wr.heap.size, 1, none⟩ = some (.int .i64 m) := fun w' kk => cell_on z1' kk
          have kd : Below w7.heap.size w7 w7.drew := Below.drew (Below.refl _ _)
          have hw7 := K6.out.size
          generalize y.take m = lx at *
          generalize y.drop m = ly at *
          clear hp CP HS E1 E2 E3 s7 hy hny s8 hn8 hlx cv
          go_wp2_with fail
          go_region_held3 (fun w' => Below w7.heap.size w7 w')
            (first | assumption | exact Below.drew (by assumption))
            (first
              | (go_at_call 26; (with_reducible refine (C1.out _ kd).mono ?_); rintro e w8 ⟨vx, rfl, ox, k8⟩; have kw8 : Below w7.heap.size w7 w8 := kd.trans (k8.mono kd.size); have OX := Lib.hid ox; clear ox k8)
              | (go_at_call 26; (with_reducible refine (C2.out _ kw8).mono ?_); rintro e w9 ⟨vy, rfl, oy, k9⟩; have kw9 : Below w7.heap.size w7 w9 := kw8.trans (k9.mono kw8.size); have OY := Lib.hid oy; have OX9 := Lib.hid (OX.out.below k9 (Nat.le_refl _)); clear oy k9))
          all_goals
            go_wp2_with fail
            go_returns
            exact HF.out vx vy _ (K6.out.trans (kw9.mono K6.out.size)) (OX9.out.mono (Nat.le_trans hw7 kd.size)) (OY.out.mono (Nat.le_trans hw7 kw8.size))
        · have hge : ¬ (ny : Int) ≥ (m : Int) := by omega
          have HX : Hid (parseL b (candsR t) 130 = parseL b ((candsR t).drop (k + 1)) 20) := Lib.hid (E1.out (by unfold hitR; rw [if_pos HP.out, ← HNH.out, ← hy, if_neg (by rw [← hny]; exact hle)]))
          clear hp CP HS E1 E2 E3 s7 hy hny
          go_wp2_with fail
          go_roundw
          case rel => exact ⟨k + 1, 20, by go_num, by omega, rfl, B6.out, HX⟩
          case measure => simp [intOf]; omega
    · have hlt' : ¬ (k : Int) < 3 := by omega
      obtain rfl : k = 3 := by omega
      have HF := Lib.hid (HQ.out (.returned (.tuple #[.int .i64 0, .slice none 0 0, .slice none 0 0, .int .i64 f])) wr ⟨K2.out.trans (hB.mono K2.out.size), .inl (by rw [hG.out]; exact ⟨rfl, rfl⟩)⟩)
      clear hG hB
      go_wp2_with fail
      go_returns
      exact HF.out
end Go.Proofs.YtjhameebehkdjaaGreatDoor
