/-
  The landed reader of chunks: run, the pass from the label of lengths; run as a whole.
-/
import Derived.Test.YtjhameebehkdjaaGreatDoorClE
namespace Go.Proofs.YtjhameebehkdjaaGreatDoor
open Go.RowKit
set_option linter.unusedVariables false
set_option maxRecDepth 100000

set_option maxHeartbeats 4000000 in
set_option maxRecDepth 100000 in
theorem pass1 (w : World) (g : Nat) (v : Value) (s : Ck) (A : Option Addr) (c : Nat) (b : Bs) (n : Nat) (hn : n = b.length) (hb : Sl w A c b) (hA : b ≠ [] → Off (FX g v) A) (a : Act) (wr : World) (h : RunJ w g v s A c b n 1 a wr) : (behindL runBody 1).wp Tryz.prog (RunQ w g v s A c b n 1 a wr) a wr := by
  obtain ⟨h1, h2, h3, h4, k, t, v1, h5, hs, hl⟩ := h
  obtain ⟨u, hu, ha⟩ := run_frame a h1 h2
  have HM : Hid (runM n 1 a wr = 4 * (n - k) + 2) := Lib.hid (by unfold runM; rw [h5]; simp [intOf])
  obtain ⟨Q, hQ⟩ : ∃ Q, Q = RunQ w g v s A c b n 1 a wr := ⟨_, rfl⟩
  rw [← hQ]
  have HQ := Lib.hid hQ
  rw [← hu] at h3 h4 h5
  rw [ha, h3, h4, h5]
  have HN := Lib.hid hn
  have HS := Lib.hid hs
  have HB := Lib.hid hb
  have HA := Lib.hid hA
  obtain ⟨st, dg, lf, mk, bh, hr, hk, ho, hg⟩ := hs.cx
  have OK := hs.ok
  clear ha hu h1 h2 h3 h4 h5 hQ hn hb hA hs
  refine wp_behind (x := ?x) ?h ?g
  case h =>
    unfold runBody
    dsimp only [Tryz.f153]
    rw [fl_region, fl_other _ (by rfl), fl_cond, fl_block, fl_here]
  have hl0 : k < n ∧ t.fault = 0 ∧ t.whole = false ∧ t.pl = 0 ∧ feedC s b = fromC k t (b.drop k) := by
    rcases hl with h | h | h | h | h
    · exact absurd h.1 (by omega)
    · exact h.2
    · exact absurd h.1 (by omega)
    · exact absurd h.1 (by omega)
    · exact absurd h.1 (by omega)
  obtain ⟨hkn, hf, hw, hp, HF⟩ := hl0
  have hn63 : n ≤ 9223372036854775807 := by have := HB.out.le; have := HB.out.max; have := HN.out; omega
  have hkb : k < b.length := by rw [← HN.out]; omega
  obtain ⟨gb, off, rfl, hcs⟩ := HB.out.bys (by omega)
  have y := HS.out.mod.cell (hcs k hkb) (HA.out (fun e => by rw [e] at hkb; simp at hkb) _ rfl)
  obtain ⟨x, hxx⟩ : ∃ x, x = b[k] := ⟨_, rfl⟩
  rw [List.drop_eq_getElem_cons hkb, ← hxx, fromC_cons hf hw] at HF
  rw [← hxx] at y
  have HE : Hid (∀ (e : Nat) w', (stepC t x).1 = e → e ≠ 0 → RunS w g v { t with fault := e } v1 w' → RunP w g v (feedC s b) (.returned (.int .i64 k)) w') := Lib.hid (fun e w' h1 h2 h3 => by
    rw [if_neg (by omega), h1] at HF
    exact ⟨k, v1, rfl, by rw [HF]; exact h3, fun h => by rw [HF] at h; exact absurd h h2, fun _ => by rw [HF]⟩)
  have hlt' : (k : Int) < (n : Int) := by omega
  obtain ⟨e1, e2, e3⟩ := hk.p0 hf hw hp
  have wr1 : IntKind.i64.wrap ((k : Int) + 1) = (k : Int) + 1 := IntWalk.i64_in _ (by omega)
  have hlf := OK.left
  have hdg := OK.dig
  have hmo := OK.most
  have hft := OK.fits
  have c4 := (cell_of_row _ g 4 _ _ _ hr).trans rfl
  by_cases hyes : (digC x).isSome = true ∧ dg < 6
  · obtain ⟨d, hd⟩ := Option.isSome_iff_exists.1 hyes.1
    have hs := len_digit hp hd (by omega)
    have TD := Lib.hid (takeDigit_yes g v1 t.most st dg lf mk bh t.fault wr x d hr hd hyes.2 (by omega))
    have ok2 := stepC_ok OK x
    rw [hs] at ok2
    have HF2 : Hid (feedC s b = fromC (k + 1) { t with left := 16 * t.left + d, dig := t.dig + 1 } (b.drop (k + 1))) := Lib.hid (by rw [HF, hs, if_pos rfl])
    have TURN : Hid (∀ w1, wr.grownBy w1 (some g) → Rw w1 g v1 t.most st (dg + 1) (16 * lf + d) mk bh t.fault → RunS w g v { t with left := 16 * t.left + d, dig := t.dig + 1 } v1 w1) := Lib.hid (fun w1 hg2 hr2 => HS.out.turn hg2 hr2 (by
      constructor <;> simp [hf, hw, hp] <;> omega) ok2 rfl)
    generalize x.toNat = xn at *
    generalize ({ t with left := 16 * t.left + d, dig := t.dig + 1 } : Ck) = t2 at *
    clear hl hr ho hg OK hk hf hw hp hkb hcs hxx HE e1 e2 e3 hs hn63 HF ok2 hlf hdg hmo hft hyes hd c4
    go_wp2_with fail
    refine TD.out.mono ?_
    rintro e w1 ⟨rfl, g1, r1⟩
    have T2 := Lib.hid (TURN.out w1 g1 r1)
    clear g1 r1 TURN TD
    go_wp2_with fail
    refine wp_goto ?_
    show Q (.goto 4) _ _
    rw [HQ.out]
    exact RunQ.go ⟨rfl, rfl, rfl, rfl, k, t2, v1, rfl, T2.out, .inr (.inr (.inr (.inr ⟨rfl, by omega, HF2.out⟩)))⟩ (by rw [HM.out]; show 4 * (n - (k : Int).toNat) + 1 < _; omega)
  have hno : (digC x).isSome = false ∨ ¬ dg < 6 := by
    by_cases h : (digC x).isSome = true
    · exact .inr (fun h2 => hyes ⟨h, h2⟩)
    · exact .inl (by simpa using h)
  have TD := Lib.hid (takeDigit_no g v1 t.most st dg lf mk bh t.fault wr x hr (hno.imp id (fun h => by omega)))
  rw [e2] at hno
  by_cases h13 : x.toNat = 13
  · by_cases hd0 : dg = 0
    · have hs := len_bad hp hno (.inr (by omega))
      have FL := Lib.hid (failC_any g v1 t.most st dg lf mk bh t.fault wr 120 hr)
      have FIN : Hid (∀ w1, wr.grownBy w1 (some g) → Rw w1 g v1 t.most 3 dg lf mk bh 120 → RunP w g v (feedC s b) (.returned (.int .i64 k)) w1) := Lib.hid (fun w1 hg2 hr2 => HE.out 120 w1 (by rw [hs]) (by omega) (HS.out.fail 120 (by omega) (by omega) hg2 hr2))
      have h13' : ((x.toNat : Int) != 13) = false := by rw [bne_eq_false_iff_eq]; omega
      generalize x.toNat = xn at *
      rw [hd0] at c4 FL FIN
      clear hl hr ho hg OK hk hf hw hp hkb hcs hxx HE e1 e2 e3 hs hn63 HF hlf hdg hmo hft hyes hno h13 hd0 HM
      go_wp2_with fail
      refine TD.out.mono ?_
      rintro e w1 ⟨rfl, rfl⟩
      go_wp2_with fail
      refine FL.out.mono ?_
      rintro e w2 ⟨rfl, g2, r2⟩
      have HRR := Lib.hid (FIN.out w2 g2 r2)
      clear g2 r2 FIN FL
      go_wp2_with fail
      show Q .ret _ _
      rw [HQ.out, RunQ.ret]
      go_ret
      exact HRR.out
    · have hs := len_end hp hno h13 (by omega)
      obtain ⟨Av, cv, rfl, -⟩ := ho.bysN
      have c2 := (cell_of_row _ g 2 _ _ _ hr).trans rfl
      have c5 := (cell_of_row _ g 5 _ _ _ hr).trans rfl
      have c0 := (cell_of_row _ g 0 _ _ _ hr).trans rfl
      have wr2 : IntKind.i64.wrap ((t.most : Int) - (t.body.length : Int)) = (t.most : Int) - (t.body.length : Int) := IntWalk.i64_in _ (by omega)
      have hd0' : ¬ (dg : Int) = 0 := by omega
      by_cases hfull : t.most < t.left + t.body.length
      · rw [if_pos hfull] at hs
        have hgt : (t.most : Int) - (t.body.length : Int) < (lf : Int) := by omega
        have FL := Lib.hid (fun nq => failC_any g (.slice Av t.body.length cv) t.most st dg lf mk bh t.fault (wr.drewN nq) 4 (hr.drewN nq))
        have FIN : Hid (∀ nq w1, (wr.drewN nq).grownBy w1 (some g) → Rw w1 g (.slice Av t.body.length cv) t.most 3 dg lf mk bh 4 → RunP w g v (feedC s b) (.returned (.int .i64 k)) w1) := Lib.hid (fun nq w1 hg2 hr2 => HE.out 4 w1 (by rw [hs]) (by omega) ((HS.out.below (below_drewN (Below.refl _ _) nq)).fail 4 (by omega) (by omega) hg2 hr2))
        have h13' : ((x.toNat : Int) != 13) = false := by rw [bne_eq_false_iff_eq]; omega
        generalize x.toNat = xn at *
        generalize t.body.length = tl at *
        clear hl hr ho hg OK hk hf hw hp hkb hcs hxx HE e1 e2 e3 hs hn63 HF hlf hdg hmo hft hyes hno h13 hd0 HM hfull
        go_wp2_with fail
        refine TD.out.mono ?_
        rintro e w1 ⟨rfl, rfl⟩
        go_wp2_with fail
        go_quiet (fail)
        have FL1 := Lib.hid (FL.out nq)
        clear FL TD c0 c2 c5 y
        go_wp2_with fail
        refine FL1.out.mono ?_
        rintro e w2 ⟨rfl, g2, r2⟩
        have HRR := Lib.hid (FIN.out nq w2 g2 r2)
        clear g2 r2 FIN FL1
        go_wp2_with fail
        show Q .ret _ _
        rw [HQ.out, RunQ.ret]
        go_ret
        exact HRR.out
      · rw [if_neg hfull] at hs
        have hgt : ¬ (t.most : Int) - (t.body.length : Int) < (lf : Int) := by omega
        have ok2 := stepC_ok OK x
        rw [hs] at ok2
        have HF2 : Hid (feedC s b = fromC (k + 1) { t with pl := 1 } (b.drop (k + 1))) := Lib.hid (by rw [HF, hs, if_pos rfl])
        have EL := Lib.hid (fun nq => endLenC_any g (.slice Av t.body.length cv) t.most st dg lf mk bh t.fault (wr.drewN nq) (hr.drewN nq))
        have TURN : Hid (∀ nq w1, (wr.drewN nq).grownBy w1 (some g) → ((lf = 0 ∧ Rw w1 g (.slice Av t.body.length cv) t.most 2 0 lf [10, 13, 10] 3 t.fault) ∨ (lf ≠ 0 ∧ Rw w1 g (.slice Av t.body.length cv) t.most 2 0 lf [10] 1 t.fault)) → RunS w g v { t with pl := 1 } (.slice Av t.body.length cv) w1) := Lib.hid (fun nq w1 hg2 hr2 => by
          have base := HS.out.below (below_drewN (Below.refl _ _) nq)
          rcases hr2 with ⟨h0, hr2⟩ | ⟨h0, hr2⟩
          · exact base.turn hg2 hr2 (by constructor <;> simp [hf, hw] <;> omega) ok2 rfl
          · exact base.turn hg2 hr2 (by constructor <;> simp [hf, hw] <;> omega) ok2 rfl)
        generalize ({ t with pl := 1 } : Ck) = t2 at *
        have h13' : ((x.toNat : Int) != 13) = false := by rw [bne_eq_false_iff_eq]; omega
        generalize x.toNat = xn at *
        generalize t.body.length = tl at *
        clear hl hr ho hg OK hk hf hw hp hkb hcs hxx HE e1 e2 e3 hs hn63 HF hlf hdg hmo hft hyes hno h13 hd0 hfull ok2
        go_wp2_with fail
        refine TD.out.mono ?_
        rintro e w1 ⟨rfl, rfl⟩
        go_wp2_with fail
        go_quiet (fail)
        have EL1 := Lib.hid (EL.out nq)
        clear EL TD c0 c2 c5 y c4
        go_wp2_with fail
        refine EL1.out.mono ?_
        rintro e w2 ⟨rfl, g2, r2⟩
        have T2 := Lib.hid (TURN.out nq w2 g2 r2)
        clear g2 r2 TURN EL1
        go_wp2_with fail
        refine wp_goto ?_
        show Q (.goto 4) _ _
        rw [HQ.out]
        exact RunQ.go ⟨rfl, rfl, rfl, rfl, k, t2, _, rfl, T2.out, .inr (.inr (.inr (.inr ⟨rfl, by omega, HF2.out⟩)))⟩ (by rw [HM.out]; show 4 * (n - (k : Int).toNat) + 1 < _; omega)
  · have hs := len_bad hp hno (.inl h13)
    have FL := Lib.hid (failC_any g v1 t.most st dg lf mk bh t.fault wr 120 hr)
    have FIN : Hid (∀ w1, wr.grownBy w1 (some g) → Rw w1 g v1 t.most 3 dg lf mk bh 120 → RunP w g v (feedC s b) (.returned (.int .i64 k)) w1) := Lib.hid (fun w1 hg2 hr2 => HE.out 120 w1 (by rw [hs]) (by omega) (HS.out.fail 120 (by omega) (by omega) hg2 hr2))
    have h13' : ((x.toNat : Int) != 13) = true := by rw [bne_iff_ne]; omega
    generalize x.toNat = xn at *
    clear hl hr ho hg OK hk hf hw hp hkb hcs hxx HE e1 e2 e3 hs hn63 HF hlf hdg hmo hft hyes hno h13 HM
    go_wp2_with fail
    refine TD.out.mono ?_
    rintro e w1 ⟨rfl, rfl⟩
    go_wp2_with fail
    refine FL.out.mono ?_
    rintro e w2 ⟨rfl, g2, r2⟩
    have HRR := Lib.hid (FIN.out w2 g2 r2)
    clear g2 r2 FIN FL
    go_wp2_with fail
    show Q .ret _ _
    rw [HQ.out, RunQ.ret]
    go_ret
    exact HRR.out

set_option maxHeartbeats 4000000 in
set_option maxRecDepth 100000 in
theorem run_any (g : Nat) (s : Ck) (v : Value) (A : Option Addr) (b : Bs) (c : Nat) (w : World) (h : LCX w g s v) (ok : CkOk s) (hb : Sl w A c b) (hA : b ≠ [] → Off (FX g v) A) : Calls Tryz.prog 153 #[.pointer (some ⟨g, 0, none⟩), .slice A b.length c] w (RunP w g v (feedC s b)) := by
  obtain ⟨n, hn⟩ : ∃ n, n = b.length := ⟨_, rfl⟩
  have ST : RunS w g v s v w := ⟨h, ok, Mod.refl _ _, fun j hj => .inl hj⟩
  have PASS : ∀ l a wr, RunJ w g v s A c b n l a wr → (behindL runBody l).wp Tryz.prog (RunQ w g v s A c b n l a wr) a wr := fun l a wr hj => by
    have hj0 := hj
    obtain ⟨_, _, _, _, _, _, _, _, _, hl⟩ := hj0
    rcases hl with hl | hl | hl | hl | hl <;> (obtain ⟨rfl, _⟩ := hl)
    · exact pass0 w g v s A c b n hn hb hA a wr hj
    · exact pass1 w g v s A c b n hn hb hA a wr hj
    · exact pass2 w g v s A c b n hn hb hA a wr hj
    · exact pass3 w g v s A c b n hn hb hA a wr hj
    · exact pass4 w g v s A c b n hn hb hA a wr hj
  have FND : ∀ l a wr, RunJ w g v s A c b n l a wr → findLabel runBody l = some (.seq .skip (behindL runBody l)) := fun l a wr hj => by
    obtain ⟨_, _, _, _, _, _, _, _, _, hl⟩ := hj
    rcases hl with hl | hl | hl | hl | hl <;> (obtain ⟨rfl, _⟩ := hl; rfl)
  have HP := Lib.hid PASS
  have HFN := Lib.hid FND
  have HS := Lib.hid ST
  rw [← hn]
  have HN := Lib.hid hn
  generalize hQ : RunP w g v (feedC s b) = Q0
  have HQ := Lib.hid hQ
  clear hQ PASS FND ST h ok hb hA hn
  go_enter Tryz.func153, Tryz.ntmps153
  go_wp2_with fail
  rw [← HQ.out]
  refine wp_scope_labels (RunJ w g v s A c b n) (behindL runBody) (runM n) (fun l a wr hj => HFN.out l a wr hj) ?first (fun l a wr hj => HP.out l a wr hj)
  go_wp2_with fail
  refine wp_label ?_
  refine ‹∀ (a : Act) (w : World), Code.wp _ _ _ a w → _› _ _ ?_
  refine wp_weaken (HP.out 0 _ _ ?_) (fun l a wr hj => hj.1)
  exact ⟨rfl, rfl, rfl, rfl, 0, s, v, rfl, HS.out, .inl ⟨rfl, Nat.zero_le _, rfl⟩⟩
end Go.Proofs.YtjhameebehkdjaaGreatDoor
