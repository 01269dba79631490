/-
  The landed reader of chunks: run, the passes from its other labels.
-/
import Derived.Test.YtjhameebehkdjaaGreatDoorClD
namespace Go.Proofs.YtjhameebehkdjaaGreatDoor
open Go.RowKit
set_option linter.unusedVariables false
set_option maxRecDepth 100000

set_option maxHeartbeats 4000000 in
set_option maxRecDepth 100000 in
theorem pass4 (w : World) (g : Nat) (v : Value) (s : Ck) (A : Option Addr) (c : Nat) (b : Bs) (n : Nat) (hn : n = b.length) (hb : Sl w A c b) (hA : b ≠ [] → Off (FX g v) A) (a : Act) (wr : World) (h : RunJ w g v s A c b n 4 a wr) : (behindL runBody 4).wp Tryz.prog (RunQ w g v s A c b n 4 a wr) a wr := by
  obtain ⟨h1, h2, h3, h4, k, t, v1, h5, hs, hl⟩ := h
  obtain ⟨u, hu, ha⟩ := run_frame a h1 h2
  have HM : Hid (runM n 4 a wr = 4 * (n - k) + 1) := Lib.hid (by unfold runM; rw [h5]; simp [intOf])
  obtain ⟨Q, hQ⟩ : ∃ Q, Q = RunQ w g v s A c b n 4 a wr := ⟨_, rfl⟩
  rw [← hQ]
  have HQ := Lib.hid hQ
  rw [← hu] at h3 h4 h5
  rw [ha, h3, h4, h5]
  have HN := Lib.hid hn
  have HS := Lib.hid hs
  have HB := Lib.hid hb
  have HA := Lib.hid hA
  obtain ⟨st, dg, lf, mk, bh, hr, hk, ho, hg⟩ := hs.cx
  have OK := hs.ok
  clear ha hu h1 h2 h3 h4 h5 hQ hn hb hA hs
  refine wp_behind (x := ?x) ?h ?g
  case h =>
    unfold runBody
    dsimp only [Tryz.f153]
    rw [fl_region, fl_other _ (by rfl), fl_cond, fl_block, fl_other _ (by rfl), fl_cond, fl_cond, fl_cond, fl_region, fl_goto, fl_other _ (by rfl), fl_region, fl_goto, fl_other _ (by rfl), fl_cond, fl_region, fl_cond, fl_here]
  have hl0 : k < n ∧ feedC s b = fromC (k + 1) t (b.drop (k + 1)) := by
    rcases hl with h | h | h | h | h
    · exact absurd h.1 (by omega)
    · exact absurd h.1 (by omega)
    · exact absurd h.1 (by omega)
    · exact absurd h.1 (by omega)
    · exact h.2
  have HF := Lib.hid hl0.2
  have hkn := hl0.1
  have hn63 : n ≤ 9223372036854775807 := by have := HB.out.le; have := HB.out.max; have := HN.out; omega
  have wr1 : IntKind.i64.wrap ((k : Int) + 1) = (k : Int) + 1 := IntWalk.i64_in _ (by omega)
  clear hl hl0 hr ho hg OK hk
  go_wp2_with fail
  refine wp_goto ?_
  show Q (.goto 0) _ _
  rw [HQ.out]
  exact RunQ.go ⟨rfl, rfl, rfl, rfl, k + 1, t, v1, by show Value.int .i64 _ = _; congr 1, HS.out, .inl ⟨rfl, by omega, HF.out⟩⟩ (by rw [HM.out]; show 4 * (n - ((k : Int) + 1).toNat) + 3 < _; omega)

set_option maxHeartbeats 4000000 in
set_option maxRecDepth 100000 in
theorem pass2 (w : World) (g : Nat) (v : Value) (s : Ck) (A : Option Addr) (c : Nat) (b : Bs) (n : Nat) (hn : n = b.length) (hb : Sl w A c b) (hA : b ≠ [] → Off (FX g v) A) (a : Act) (wr : World) (h : RunJ w g v s A c b n 2 a wr) : (behindL runBody 2).wp Tryz.prog (RunQ w g v s A c b n 2 a wr) a wr := by
  obtain ⟨h1, h2, h3, h4, k, t, v1, h5, hs, hl⟩ := h
  obtain ⟨u, hu, ha⟩ := run_frame a h1 h2
  have HM : Hid (runM n 2 a wr = 4 * (n - k) + 2) := Lib.hid (by unfold runM; rw [h5]; simp [intOf])
  obtain ⟨Q, hQ⟩ : ∃ Q, Q = RunQ w g v s A c b n 2 a wr := ⟨_, rfl⟩
  rw [← hQ]
  have HQ := Lib.hid hQ
  rw [← hu] at h3 h4 h5
  rw [ha, h3, h4, h5]
  have HN := Lib.hid hn
  have HS := Lib.hid hs
  have HB := Lib.hid hb
  have HA := Lib.hid hA
  obtain ⟨st, dg, lf, mk, bh, hr, hk, ho, hg⟩ := hs.cx
  have OK := hs.ok
  clear ha hu h1 h2 h3 h4 h5 hQ hn hb hA hs
  refine wp_behind (x := ?x) ?h ?g
  case h =>
    unfold runBody
    dsimp only [Tryz.f153]
    rw [fl_region, fl_other _ (by rfl), fl_cond, fl_block, fl_other _ (by rfl), fl_cond, fl_cond, fl_cond, fl_region, fl_goto, fl_here]
  have hl0 : k < n ∧ t.fault = 0 ∧ t.whole = false ∧ t.pl = 2 ∧ feedC s b = fromC k t (b.drop k) := by
    rcases hl with h | h | h | h | h
    · exact absurd h.1 (by omega)
    · exact absurd h.1 (by omega)
    · exact h.2
    · exact absurd h.1 (by omega)
    · exact absurd h.1 (by omega)
  obtain ⟨hkn, hf, hw, hp, HF⟩ := hl0
  have hn63 : n ≤ 9223372036854775807 := by have := HB.out.le; have := HB.out.max; have := HN.out; omega
  obtain ⟨A2, lo, s2, pl2⟩ := HB.out.rest k k (by rw [← HN.out]; omega) rfl
  obtain ⟨d, hd⟩ : ∃ d, d = b.drop k := ⟨_, rfl⟩
  have ld : d.length = n - k := by rw [hd, List.length_drop, HN.out]
  have dne : d ≠ [] := fun e => by rw [e] at ld; simp at ld; omega
  have bne : b ≠ [] := fun e => by have := HN.out; rw [e] at this; simp at this; omega
  have off2 : Off (FX g v) A2 := fun p hp2 hf => by
    obtain ⟨a', ha', hb'⟩ := pl2 p hp2
    rw [hb'] at hf
    exact HA.out bne a' ha' hf
  have sr : Sl wr A2 (c - k) d := ⟨by rw [hd]; exact s2.bys.mod HS.out.mod off2, by rw [hd]; exact s2.le, s2.max, s2.nil⟩
  obtain ⟨e1, e2, e3⟩ := hk.p2 hf hw hp
  have l0 := OK.some hp
  have hfit := OK.fits
  have hmo := OK.most
  have hlf := OK.left
  have TD := Lib.hid (takeData_any g v1 t.most st dg lf mk bh t.fault wr t.body d A2 (c - k) hr ho hg sr (by omega) (by omega))
  rw [← hd, ← HN.out, ld] at lo
  rw [ld] at TD
  rw [← hd] at HF
  obtain ⟨G1, G2⟩ := goC_data d k t hp hw l0 OK dne
  obtain ⟨q, hq⟩ : ∃ q, q = min lf (n - k) := ⟨_, rfl⟩
  have wr1 : IntKind.i64.wrap ((k : Int) + (q : Int)) = ((k + q : Nat) : Int) := by rw [IntWalk.i64_in _ (by omega)]; omega
  have HF2 : Hid (feedC s b = fromC (k + q) (afterD t d) (b.drop (k + q))) := Lib.hid (by
    rw [HF, fromC_go hf, G1, fromC_go (show (afterD t d).fault = 0 from hf), ← e3, ld, ← hq, hd, List.drop_drop]
    congr 1
    by_cases h : lf ≤ n - k
    · rw [show q = lf by omega]
    · rw [List.drop_eq_nil_of_le (by rw [← HN.out]; omega), List.drop_eq_nil_of_le (by rw [← HN.out]; omega)])
  have hdl := LkOk.data (s := t) (dg := dg) (mk := mk) (mk2 := mk) (bh := bh) d hf hw
  have FIN : Hid (∀ e w', TakeP wr g v1 t.most st dg lf mk bh t.fault t.body d e w' → ∃ v2, e = .returned (.int .i64 q) ∧ RunS w g v (afterD t d) v2 w') := Lib.hid (fun e w' ⟨v2, he, hrow, hown, hne, hmod, hob⟩ => by
    have eb : t.body ++ d.take lf = (afterD t d).body := by rw [e3]; rfl
    refine ⟨v2, by rw [he, ld, ← hq], ?_, G2, HS.out.mod.trans hmod (fun i hi => by
      rcases hi with hi | hi
      · exact .inl (.inl hi)
      · rcases HS.out.own i hi with h | h
        · exact .inl (.inr h)
        · exact .inr h), fun j hj => by
      rcases hob j hj with h | h
      · exact HS.out.own j h
      · exact .inr (Nat.le_trans HS.out.mod.size h)⟩
    rcases hrow with ⟨h1, h2⟩ | ⟨h1, h2⟩
    · exact ⟨st, dg, lf - d.length, mk, bh, h2, by rw [e1, e2, e3]; exact hdl.2 (by omega), by rw [← eb]; exact hown, hne⟩
    · exact ⟨2, dg, 0, [13, 10], 0, h2, by rw [e2]; exact hdl.1 (by omega), by rw [← eb]; exact hown, hne⟩)
  obtain ⟨m, hm⟩ : ∃ m, m = n - k := ⟨_, rfl⟩
  rw [← hm] at lo TD
  have HQQ := Lib.hid hq
  have hq0 : 0 < q ∧ q ≤ n - k := by omega
  clear hl hr ho hg OK hk hf hw hp HF hd ld dne bne off2 sr s2 pl2 e1 e2 e3 l0 hfit hmo hlf G1 G2 hdl hq hm hn63
  go_wp2_with fail
  refine TD.out.mono ?_
  intro e w1 htp
  obtain ⟨v2, rfl, hS2⟩ := FIN.out e w1 htp
  have HS2 := Lib.hid hS2
  clear htp hS2 TD FIN lo
  go_wp2_with fail
  refine wp_goto ?_
  show Q (.goto 0) _ _
  rw [HQ.out]
  exact RunQ.go ⟨rfl, rfl, rfl, rfl, k + q, afterD t d, v2, rfl, HS2.out, .inl ⟨rfl, by omega, HF2.out⟩⟩ (by rw [HM.out]; show 4 * (n - ((k + q : Nat) : Int).toNat) + 3 < _; omega)

set_option maxHeartbeats 4000000 in
set_option maxRecDepth 100000 in
theorem pass3 (w : World) (g : Nat) (v : Value) (s : Ck) (A : Option Addr) (c : Nat) (b : Bs) (n : Nat) (hn : n = b.length) (hb : Sl w A c b) (hA : b ≠ [] → Off (FX g v) A) (a : Act) (wr : World) (h : RunJ w g v s A c b n 3 a wr) : (behindL runBody 3).wp Tryz.prog (RunQ w g v s A c b n 3 a wr) a wr := by
  obtain ⟨h1, h2, h3, h4, k, t, v1, h5, hs, hl⟩ := h
  obtain ⟨u, hu, ha⟩ := run_frame a h1 h2
  have HM : Hid (runM n 3 a wr = 4 * (n - k) + 2) := Lib.hid (by unfold runM; rw [h5]; simp [intOf])
  obtain ⟨Q, hQ⟩ : ∃ Q, Q = RunQ w g v s A c b n 3 a wr := ⟨_, rfl⟩
  rw [← hQ]
  have HQ := Lib.hid hQ
  rw [← hu] at h3 h4 h5
  rw [ha, h3, h4, h5]
  have HN := Lib.hid hn
  have HS := Lib.hid hs
  have HB := Lib.hid hb
  have HA := Lib.hid hA
  obtain ⟨st, dg, lf, mk, bh, hr, hk, ho, hg⟩ := hs.cx
  have OK := hs.ok
  clear ha hu h1 h2 h3 h4 h5 hQ hn hb hA hs
  refine wp_behind (x := ?x) ?h ?g
  case h =>
    unfold runBody
    dsimp only [Tryz.f153]
    rw [fl_region, fl_other _ (by rfl), fl_cond, fl_block, fl_other _ (by rfl), fl_cond, fl_cond, fl_cond, fl_region, fl_goto, fl_other _ (by rfl), fl_region, fl_goto, fl_here]
  have hl0 : k < n ∧ t.fault = 0 ∧ t.whole = false ∧ t.pl ≠ 0 ∧ t.pl ≠ 2 ∧ feedC s b = fromC k t (b.drop k) := by
    rcases hl with h | h | h | h | h
    · exact absurd h.1 (by omega)
    · exact absurd h.1 (by omega)
    · exact absurd h.1 (by omega)
    · exact h.2
    · exact absurd h.1 (by omega)
  obtain ⟨hkn, hf, hw, hp0, hp2, HF⟩ := hl0
  have hn63 : n ≤ 9223372036854775807 := by have := HB.out.le; have := HB.out.max; have := HN.out; omega
  have hkb : k < b.length := by rw [← HN.out]; omega
  obtain ⟨gb, off, rfl, hcs⟩ := HB.out.bys (by omega)
  have y := HS.out.mod.cell (hcs k hkb) (HA.out (fun e => by rw [e] at hkb; simp at hkb) _ rfl)
  obtain ⟨x, hxx⟩ : ∃ x, x = b[k] := ⟨_, rfl⟩
  rw [List.drop_eq_getElem_cons hkb, ← hxx, fromC_cons hf hw] at HF
  rw [← hxx] at y
  have HE : Hid (∀ (e : Nat) w', (stepC t x).1 = e → e ≠ 0 → RunS w g v { t with fault := e } v1 w' → RunP w g v (feedC s b) (.returned (.int .i64 k)) w') := Lib.hid (fun e w' h1 h2 h3 => by
    rw [if_neg (by omega), h1] at HF
    exact ⟨k, v1, rfl, by rw [HF]; exact h3, fun h => by rw [HF] at h; exact absurd h h2, fun _ => by rw [HF]⟩)
  have hlt' : (k : Int) < (n : Int) := by omega
  obtain ⟨e1, e2, x0, m, rfl, hst⟩ := marks_step hk OK hf hw hp0 hp2
  obtain ⟨hno, hyes⟩ := hst x
  have hix : ∀ W : World, (Instr.index 9 (.string (bs (x0 :: m))) (.int .i64 0)).run Tryz.prog W = .ok (.int .u8 x0.toNat) W := fun W => by
    rw [run_index_string _ _ _ _ _ Tryz.underlying9, dif_pos (by rw [bs_size]; simp)]
    rfl
  have c6 := (cell_of_row _ g 6 _ _ _ hr).trans rfl
  by_cases hxe : x = x0
  · subst hxe
    subst e1
    obtain ⟨t2, hs, hb2, hm2, hf2, hk1, hk2⟩ := hyes rfl
    have hne : ((x.toNat : Int) != (x.toNat : Int)) = false := by simp
    have hsl : ∀ W : World, (Instr.slice 9 (.string (bs (x :: m))) (some (.int .i64 1)) none none).run Tryz.prog W = .ok (.string (bs m)) W := fun W => by
      rw [run_slice_string_l W 9 _ Tryz.underlying9 _ _ (by omega) (by rw [bs_size]; simp; omega), bs_extract, List.take_of_length_le (by rw [bs_size]; exact Nat.le_refl _)]
      rfl
    have R1 := Lib.hid (fun nq => row_set (w := wr.drewN nq) (g := g) (i := 6) (.string (bs m)) (hr.drewN nq))
    have GR1 := Lib.hid (fun nq => grown_set g 6 (.string (bs m)) (wr.drewN nq))
    have f6 := Lib.hid (fun nq => frozen_of_row _ _ 6 _ _ (hr.drewN nq))
    have HF2 : Hid (feedC s b = fromC (k + 1) t2 (b.drop (k + 1))) := Lib.hid (by rw [HF, hs, if_pos rfl])
    have ok2 : CkOk t2 := by have := stepC_ok OK x; rw [hs] at this; exact this
    have wr1 : IntKind.i64.wrap ((k : Int) + 1) = (k : Int) + 1 := IntWalk.i64_in _ (by omega)
    have TURN : Hid (∀ nq w1 st2, (wr.drewN nq).grownBy w1 (some g) → Rw w1 g v1 t.most st2 dg lf m bh t.fault → LkOk t2 st2 dg lf m bh → RunS w g v t2 v1 w1) := Lib.hid (fun nq w1 st2 hg2 hr2 hl2 => (HS.out.below (below_drewN (Below.refl _ _) nq)).turn hg2 (by rw [hm2, hf2, ← hf]; exact hr2) hl2 ok2 hb2)
    have HK1 := Lib.hid hk1
    have HK2 := Lib.hid hk2
    have HR := Lib.hid hr
    generalize x.toNat = xn at *
    clear hl hr ho hg OK hk hf hw hp0 hp2 hkb hcs hxx HE e2 hst hno hyes hs hn63 HF hb2 hm2 hf2 hk1 hk2 ok2
    go_wp2_with fail
    go_quiet (fail)
    have c6q := c6
    have r1 := R1.out nq
    have f6q := f6.out nq
    have c6r := (cell_of_row _ g 6 _ _ _ r1).trans rfl
    have c7r := (cell_of_row _ g 7 _ _ _ r1).trans rfl
    have c3r := (cell_of_row _ g 3 _ _ _ r1).trans rfl
    have f3r := frozen_of_row _ _ 3 _ _ r1
    have r2 := row_set (g := g) (i := 3) (.int .i64 bh) r1
    have g2 := grown_trans (GR1.out nq) (grown_set g 3 (.int .i64 bh) _) (fun k hk => .inl hk)
    have HR1 := Lib.hid r1
    have HR2 := Lib.hid r2
    have HG2 := Lib.hid g2
    clear r1 r2 g2 R1 f6 hix y
    by_cases hm0 : m = []
    · subst hm0
      have T2 := Lib.hid (TURN.out nq _ bh HG2.out HR2.out (HK1.out rfl))
      clear TURN HR2 HG2 HR1 GR1
      go_wp2_with fail
      refine wp_label ?_
      go_wp2_with fail
      refine wp_goto ?_
      show Q (.goto 0) _ _
      rw [HQ.out]
      exact RunQ.go ⟨rfl, rfl, rfl, rfl, k + 1, t2, v1, by show Value.int .i64 _ = _; congr 1, T2.out, .inl ⟨rfl, by omega, HF2.out⟩⟩ (by rw [HM.out]; show 4 * (n - ((k : Int) + 1).toNat) + 3 < _; omega)
    · have hmb : (m == []) = false := by simp [hm0]
      have T2 := Lib.hid (TURN.out nq _ 2 (GR1.out nq) HR1.out (HK2.out hm0))
      clear TURN HR2 HG2 HR1 GR1
      go_wp2_with fail
      refine wp_label ?_
      go_wp2_with fail
      refine wp_goto ?_
      show Q (.goto 0) _ _
      rw [HQ.out]
      exact RunQ.go ⟨rfl, rfl, rfl, rfl, k + 1, t2, v1, by show Value.int .i64 _ = _; congr 1, T2.out, .inl ⟨rfl, by omega, HF2.out⟩⟩ (by rw [HM.out]; show 4 * (n - ((k : Int) + 1).toNat) + 3 < _; omega)
  · have hne : ((x.toNat : Int) != (x0.toNat : Int)) = true := by
      rw [bne_iff_ne]
      intro h
      exact hxe (UInt8.toNat_inj.1 (by omega))
    have FL := Lib.hid (fun nq => failC_any g v1 t.most st dg lf (x0 :: m) bh t.fault (wr.drewN nq) 120 (hr.drewN nq))
    have hs := hno hxe
    have FIN : Hid (∀ nq w1, (wr.drewN nq).grownBy w1 (some g) → Rw w1 g v1 t.most 3 dg lf (x0 :: m) bh 120 → RunP w g v (feedC s b) (.returned (.int .i64 k)) w1) := Lib.hid (fun nq w1 hg2 hr2 => HE.out 120 w1 (by rw [hs]) (by omega) ((HS.out.below (below_drewN (Below.refl _ _) nq)).fail 120 (by omega) (by omega) hg2 hr2))
    generalize x.toNat = xn at *
    generalize x0.toNat = xm at *
    clear hl hr ho hg OK hk hf hw hp0 hp2 hkb hcs hxx HE e1 e2 hst hno hyes hxe hs HM hn63 HF
    go_wp2_with fail
    go_quiet (fail)
    have FL1 := Lib.hid (FL.out nq)
    clear FL hix c6 y
    go_wp2_with fail
    refine FL1.out.mono ?_
    rintro e w1 ⟨rfl, g1, r1⟩
    have HR := Lib.hid (FIN.out nq w1 g1 r1)
    clear g1 r1 FIN FL1
    go_wp2_with fail
    show Q .ret _ _
    rw [HQ.out, RunQ.ret]
    go_ret
    exact HR.out
end Go.Proofs.YtjhameebehkdjaaGreatDoor
