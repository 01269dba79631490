/-
  The landed reader of chunks: New, Feed, Body: it is a reader of chunks.
-/
import Derived.Test.YtjhameebehkdjaaGreatDoorClF
namespace Go.Proofs.YtjhameebehkdjaaGreatDoor
open Go.RowKit
set_option linter.unusedVariables false
set_option maxRecDepth 100000

set_option maxHeartbeats 1000000 in
theorem newCl_any (most : Int) (w : World) : Calls Tryz.prog 104 #[.int .i64 most] w fun e w' => e = .returned (.pointer (some ⟨w.heap.size, 0, none⟩)) ∧ LCX w' w.heap.size (newC most) (.slice none 0 0) ∧ Below w.heap.size w w' := by
  have b : ∀ z : Int, Below w.heap.size w (w.alloc (.cells #[.slice none 0 0, .bool true, .int .i64 z, .int .i64 0, .int .i64 0, .int .i64 0, .string (bs []), .int .i64 0, .int .i64 0] 164)) := fun z => Below.alloc (Below.refl _ _) (Nat.le_refl _) _
  obtain ⟨m, hm⟩ : ∃ m : Nat, (m : Int) = min (max most 0) 65535 := ⟨(min (max most 0) 65535).toNat, by omega⟩
  have HC : LCX (w.alloc (.cells #[.slice none 0 0, .bool true, .int .i64 m, .int .i64 0, .int .i64 0, .int .i64 0, .string (bs []), .int .i64 0, .int .i64 0] 164)) w.heap.size (newC most) (.slice none 0 0) := by
    refine ⟨0, 0, 0, [], 0, ?_, LkOk.new most, .inl ⟨rfl, rfl⟩, by simp [Value.ownBlock]⟩
    unfold Rw
    rw [row_new _ rfl]
    have : (newC most).most = m := by unfold newC; simp only; omega
    rw [this]
    rfl
  have HH := Lib.hid HC
  have BB := Lib.hid (b m)
  have hmx : min (max most 0) 65535 = (m : Int) := hm.symm
  clear HC b hm
  go_enter Tryz.func104, Tryz.ntmps104
  go_wp2_with fail
  go_ret
  exact ⟨rfl, HH.out, BB.out⟩
theorem RunS.fold {w : World} {g : Nat} {v : Value} {t : Ck} {v1 : Value} {wr : World} (h : RunS w g v t v1 wr) : LCX wr g t v1 ∧ CkOk t ∧ Mod (FX g v) w wr ∧ ∀ j, v1.ownBlock = some j → v.ownBlock = some j ∨ w.heap.size ≤ j := ⟨h.cx, h.ok, h.mod, h.own⟩
/-- What Feed answers. -/
def FeedN (w : World) (g : Nat) (v : Value) (r : (Nat × Bool × Nat) × Ck) (e : Ending) (w' : World) : Prop := ∃ v', e = .returned (.tuple #[.int .i64 r.1.1, .bool r.1.2.1, .int .i64 r.1.2.2]) ∧ RunS w g v r.2 v' w'
theorem LCX.whole {w : World} {g : Nat} {t : Ck} {v : Value} (h : LCX w g t v) (ok : CkOk t) (hf : t.fault = 0) : ∃ st : Nat, w.cell? ⟨g, 3, none⟩ = some (.int .i64 st) ∧ (((st : Int) == 3) = t.whole) ∧ w.cell? ⟨g, 8, none⟩ = some (.int .i64 t.fault) := by
  obtain ⟨st, dg, lf, mk, bh, h1, h2, h3, h4⟩ := h
  refine ⟨st, (cell_of_row _ g 3 _ _ _ h1).trans rfl, ?_, (cell_of_row _ g 8 _ _ _ h1).trans rfl⟩
  cases hw : t.whole with
  | true => rw [h2.whole hw]; rfl
  | false =>
    rw [beq_eq_false_iff_ne]
    intro e
    by_cases h0 : t.pl = 0
    · have := (h2.p0 hf hw h0).1; omega
    · by_cases hp2 : t.pl = 2
      · have := (h2.p2 hf hw hp2).1; omega
      · have := (marks_step h2 ok hf hw h0 hp2).1; omega
theorem LCX.fault {w : World} {g : Nat} {t : Ck} {v : Value} (h : LCX w g t v) : w.cell? ⟨g, 8, none⟩ = some (.int .i64 t.fault) := by
  obtain ⟨st, dg, lf, mk, bh, h1, h2, h3, h4⟩ := h
  exact (cell_of_row _ g 8 _ _ _ h1).trans rfl
set_option maxHeartbeats 1000000 in
theorem feedCl_any (g : Nat) (s : Ck) (v : Value) (A : Option Addr) (b : Bs) (c : Nat) (w : World) (h : LCX w g s v) (ok : CkOk s) (hb : Sl w A c b) (hA : b ≠ [] → Off (FX g v) A) : Calls Tryz.prog 150 #[.pointer (some ⟨g, 0, none⟩), .slice A b.length c] w (FeedN w g v (feedC s b)) := by
  have HD : Hid (∀ e w', FeedN w g v (feedC s b) e w' ↔ ∃ v', e = .returned (.tuple #[.int .i64 (feedC s b).1.1, .bool (feedC s b).1.2.1, .int .i64 (feedC s b).1.2.2]) ∧ RunS w g v (feedC s b).2 v' w') := Lib.hid (fun _ _ => Iff.rfl)
  have R := Lib.hid (run_any g s v A b c w h ok hb hA)
  obtain ⟨st, dg, lf, mk, bh, h1, -⟩ := h
  have MD := Lib.hid (madeC_any g v s.most st dg lf mk bh s.fault w h1)
  have RO : Hid (∀ e w', RunP w g v (feedC s b) e w' → ∃ (z : Nat) (v' : Value), e = .returned (.int .i64 z) ∧ RunS w g v (feedC s b).2 v' w' ∧ ((feedC s b).2.fault = 0 → (feedC s b).1 = (z, (feedC s b).2.whole, 0)) ∧ ((feedC s b).2.fault ≠ 0 → (feedC s b).1 = (0, false, (feedC s b).2.fault))) := Lib.hid (fun _ _ h => h)
  generalize FeedN w g v (feedC s b) = Q at *
  generalize RunP w g v (feedC s b) = RP at *
  obtain ⟨⟨r1, r2⟩, hr⟩ : ∃ r, r = feedC s b := ⟨_, rfl⟩
  rw [← hr] at HD RO
  generalize b.length = n at *
  clear h1 ok hb hA hr
  simp only at HD RO
  go_enter Tryz.func150, Tryz.ntmps150
  go_wp2_with fail
  refine MD.out.mono ?_
  rintro e w0 ⟨rfl, rfl⟩
  go_wp2_with fail
  refine R.out.mono ?_
  intro e w1 hrp
  obtain ⟨z, v1, rfl, hs, ha, hb⟩ := RO.out e w1 hrp
  by_cases hf : r2.fault = 0
  · obtain ⟨st2, x3, hw, x8⟩ := hs.cx.whole hs.ok hf
    have e1 := ha hf
    have HF := Lib.hid (fun nq => (HD.out (.returned (.tuple #[.int .i64 z, .bool r2.whole, .int .i64 0])) (w1.drewN nq)).2 ⟨v1, by rw [e1]; rfl, hs.below (below_drewN (Below.refl _ _) nq)⟩)
    rw [hf] at x8
    generalize r2.whole = wh at *
    have x8z : w1.cell? ⟨g, 8, none⟩ = some (.int .i64 0) := x8
    clear hs ha hb hrp hf e1 HD RO R MD x8
    go_wp2_with fail
    go_quiet (fail)
    have H := Lib.hid (HF.out nq)
    clear HF
    go_wp2_with fail
    exact H.out
  · have x8 := hs.cx.fault
    have e1 := hb hf
    have HF := Lib.hid (fun nq => (HD.out (.returned (.tuple #[.int .i64 0, .bool false, .int .i64 r2.fault])) (w1.drewN nq)).2 ⟨v1, by rw [e1]; rfl, hs.below (below_drewN (Below.refl _ _) nq)⟩)
    have hf' : ((r2.fault : Int) != 0) = true := by rw [bne_iff_ne]; omega
    generalize r2.fault = fl at *
    clear hs ha hb hrp hf e1 HD RO R MD
    go_wp2_with fail
    go_quiet (fail)
    have H := Lib.hid (HF.out nq)
    clear HF
    go_wp2_with fail
    exact H.out
set_option maxHeartbeats 1000000 in
theorem bodyCl_any (g : Nat) (s : Ck) (v : Value) (w : World) (h : LCX w g s v) (hl : s.body.length ≤ 140737488351232) : Calls Tryz.prog 149 #[.pointer (some ⟨g, 0, none⟩)] w (BodyCP w s.body) := by
  obtain ⟨st, dg, lf, mk, bh, h1, -, ho, -⟩ := h
  have MD := Lib.hid (madeC_any g v s.most st dg lf mk bh s.fault w h1)
  obtain ⟨A, c, rfl, hs⟩ := ho.bysN
  have CL := Lib.hid (CloneB_any A s.body s.body.length c w hs.bys rfl hl (fun p hp h0 => hs.inside p hp h0))
  have x0 := (cell_of_row _ g 0 _ _ _ h1).trans rfl
  have HD : Hid (∀ e w', BodyCP w s.body e w' ↔ ∃ v, e = .returned v ∧ OwnB w' w.heap.size v s.body ∧ Below w.heap.size w w') := Lib.hid (fun _ _ => Iff.rfl)
  generalize BodyCP w s.body = Q at *
  generalize s.body.length = n at *
  clear h1 ho hs hl
  go_enter Tryz.func149, Tryz.ntmps149
  go_wp2_with fail
  refine MD.out.mono ?_
  rintro e w0 ⟨rfl, rfl⟩
  go_wp2_with fail
  refine CL.out.mono ?_
  rintro e w1 ⟨v1, rfl, o1, k1⟩
  have HF := Lib.hid ((HD.out _ w1).2 ⟨v1, rfl, o1, k1⟩)
  clear o1 k1
  go_wp2_with fail
  exact HF.out
/-- The landed one. -/
def LandC : RdrC := fun w F p s => ∃ g v, p = .pointer (some ⟨g, 0, none⟩) ∧ LCX w g s v ∧ CkOk s ∧ ∀ k, F k ↔ FX g v k
theorem landC : CkI 104 150 149 LandC where
  mod := fun {S F w w1 p s} h k hn => by
    obtain ⟨g, v, rfl, ⟨st, dg, lf, mk, bh, h1, h2, h3, h4⟩, ok, hF⟩ := h
    exact ⟨g, v, rfl, ⟨st, dg, lf, mk, bh, k.row h1 (hn g ((hF g).2 (.inl rfl))), h2, h3.mod k (fun j hj e => hn j ((hF j).2 (.inr hj)) e), h4⟩, ok, hF⟩
  lt := fun {F w p s} h k hk => by
    obtain ⟨g, v, rfl, ⟨st, dg, lf, mk, bh, h1, h2, h3, h4⟩, ok, hF⟩ := h
    rcases (hF k).1 hk with rfl | e
    · exact (Array.getElem?_eq_some_iff.1 h1).1
    · exact (h3.lt k e).2
  new := fun most w _ _ => (newCl_any most w).mono fun e w' ⟨he, hx, hB⟩ => ⟨_, FX w.heap.size (.slice none 0 0), he, ⟨_, _, rfl, hx, newC_ok most, fun _ => Iff.rfl⟩, hB, fun k hk => by
    rcases hk with rfl | e
    · exact Nat.le_refl _
    · simp [Value.ownBlock] at e⟩
  feed := fun {F p s b A c w} h hb hA => by
    obtain ⟨g, v, rfl, hx, ok, hF⟩ := h
    have hA' : b ≠ [] → Off (FX g v) A := fun hb a ha e => hA hb a ha ((hF _).2 e)
    refine (feedCl_any g s v A b c w hx ok hb hA').mono ?_
    rintro e w' ⟨v', he, hS⟩
    refine ⟨FX g v', he, ⟨g, v', rfl, hS.cx, hS.ok, fun _ => Iff.rfl⟩, hS.mod.wide (fun i hi => (hF i).2 hi), fun k hk => ?_⟩
    rcases hk with rfl | hk
    · exact .inl ((hF k).2 (.inl rfl))
    · rcases hS.own k hk with h | h
      · exact .inl ((hF k).2 (.inr h))
      · exact .inr h
  body := fun {F p s w} h => by
    obtain ⟨g, v, rfl, hx, ok, hF⟩ := h
    have := ok.fits
    have := ok.most
    exact bodyCl_any g s v w hx (by omega)
end Go.Proofs.YtjhameebehkdjaaGreatDoor
