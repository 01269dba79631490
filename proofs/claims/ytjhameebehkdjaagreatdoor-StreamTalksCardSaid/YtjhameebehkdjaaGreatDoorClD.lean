/-
  The landed reader of chunks: run.
-/
import Derived.Test.YtjhameebehkdjaaGreatDoorClB
import Derived.Test.YtjhameebehkdjaaGreatDoorClC
import Derived.Test.YtjhameebehkdjaaGreatDoorSc
namespace Go.Proofs.YtjhameebehkdjaaGreatDoor
open Go.RowKit
set_option linter.unusedVariables false
set_option maxRecDepth 100000

/-- The landed reader at block g. -/
def LCX (w : World) (g : Nat) (t : Ck) (v : Value) : Prop := ∃ (st dg lf : Nat) (mk : Bs) (bh : Nat), Rw w g v t.most st dg lf mk bh t.fault ∧ LkOk t st dg lf mk bh ∧ OwnB w 0 v t.body ∧ v.ownBlock ≠ some g
theorem LCX.below {w w1 : World} {g : Nat} {t : Ck} {v : Value} (h : LCX w g t v) (k : Below w.heap.size w w1) : LCX w1 g t v := by
  obtain ⟨st, dg, lf, mk, bh, h1, h2, h3, h4⟩ := h
  exact ⟨st, dg, lf, mk, bh, h1.below k, h2, h3.below k (Nat.le_refl _), h4⟩
structure RunS (w : World) (g : Nat) (v : Value) (t : Ck) (v1 : Value) (wr : World) : Prop where
  cx : LCX wr g t v1
  ok : CkOk t
  mod : Mod (FX g v) w wr
  own : ∀ j, v1.ownBlock = some j → v.ownBlock = some j ∨ w.heap.size ≤ j
theorem RunS.below {w : World} {g : Nat} {v : Value} {t : Ck} {v1 : Value} {wr w1 : World} (h : RunS w g v t v1 wr) (k : Below wr.heap.size wr w1) : RunS w g v t v1 w1 := ⟨h.cx.below k, h.ok, h.mod.then k, h.own⟩
/-- Where the run is. -/
def RunL (s : Ck) (b : Bs) (n l k : Nat) (t : Ck) : Prop :=
  (l = 0 ∧ k ≤ n ∧ feedC s b = fromC k t (b.drop k)) ∨
  (l = 1 ∧ k < n ∧ t.fault = 0 ∧ t.whole = false ∧ t.pl = 0 ∧ feedC s b = fromC k t (b.drop k)) ∨
  (l = 2 ∧ k < n ∧ t.fault = 0 ∧ t.whole = false ∧ t.pl = 2 ∧ feedC s b = fromC k t (b.drop k)) ∨
  (l = 3 ∧ k < n ∧ t.fault = 0 ∧ t.whole = false ∧ t.pl ≠ 0 ∧ t.pl ≠ 2 ∧ feedC s b = fromC k t (b.drop k)) ∨
  (l = 4 ∧ k < n ∧ feedC s b = fromC (k + 1) t (b.drop (k + 1)))
/-- What holds at a label. -/
def RunJ (w : World) (g : Nat) (v : Value) (s : Ck) (A : Option Addr) (c : Nat) (b : Bs) (n : Nat) (l : Nat) (a : Act) (wr : World) : Prop :=
  a.tmps.size = 108 ∧ a.defers = [] ∧ a.tmps.getD 0 undef = .pointer (some ⟨g, 0, none⟩) ∧ a.tmps.getD 1 undef = .slice A n c ∧ ∃ (k : Nat) (t : Ck) (v1 : Value), a.tmps.getD 5 undef = .int .i64 k ∧ RunS w g v t v1 wr ∧ RunL s b n l k t
def runM (n l : Nat) (a : Act) (_ : World) : Nat := 4 * (n - (intOf (a.tmps.getD 5 undef)).toNat) + (if l = 0 then 3 else if l = 4 then 1 else 2)
/-- What run answers. -/
def RunP (w : World) (g : Nat) (v : Value) (r : (Nat × Bool × Nat) × Ck) (e : Ending) (w' : World) : Prop := ∃ (z : Nat) (v' : Value), e = .returned (.int .i64 z) ∧ RunS w g v r.2 v' w' ∧ (r.2.fault = 0 → r.1 = (z, r.2.whole, 0)) ∧ (r.2.fault ≠ 0 → r.1 = (0, false, r.2.fault))
noncomputable def runBody : Code := match Tryz.f153.body with | some (.seq _ (.scope c)) => c | _ => .skip
/-- What a pass from a label is to come to. -/
def RunQ (w : World) (g : Nat) (v : Value) (s : Ck) (A : Option Addr) (c : Nat) (b : Bs) (n l : Nat) (a : Act) (wr : World) : Exit → Act → World → Prop :=
  Jumps (fun l' a' w' => RunJ w g v s A c b n l' a' w' ∧ runM n l' a' w' < runM n l a wr) (bodyPost Tryz.prog Tryz.f153 (RunP w g v (feedC s b)))
theorem run_frame (a : Act) (h : a.tmps.size = 108) (hd : a.defers = []) : ∃ u : Nat → Value, (∀ i, u i = a.tmps.getD i undef) ∧ a = ⟨#[u 0, u 1, u 2, u 3, u 4, u 5, u 6, u 7, u 8, u 9, u 10, u 11, u 12, u 13, u 14, u 15, u 16, u 17, u 18, u 19, u 20, u 21, u 22, u 23, u 24, u 25, u 26, u 27, u 28, u 29, u 30, u 31, u 32, u 33, u 34, u 35, u 36, u 37, u 38, u 39, u 40, u 41, u 42, u 43, u 44, u 45, u 46, u 47, u 48, u 49, u 50, u 51, u 52, u 53, u 54, u 55, u 56, u 57, u 58, u 59, u 60, u 61, u 62, u 63, u 64, u 65, u 66, u 67, u 68, u 69, u 70, u 71, u 72, u 73, u 74, u 75, u 76, u 77, u 78, u 79, u 80, u 81, u 82, u 83, u 84, u 85, u 86, u 87, u 88, u 89, u 90, u 91, u 92, u 93, u 94, u 95, u 96, u 97, u 98, u 99, u 100, u 101, u 102, u 103, u 104, u 105, u 106, u 107], []⟩ :=
  ⟨fun i => a.tmps.getD i undef, fun _ => rfl, frame_slots a 108 h hd⟩
theorem RunQ.go {w : World} {g : Nat} {v : Value} {s : Ck} {A : Option Addr} {c : Nat} {b : Bs} {n l l' : Nat} {a a' : Act} {wr w' : World} (h : RunJ w g v s A c b n l' a' w') (hm : runM n l' a' w' < runM n l a wr) : RunQ w g v s A c b n l a wr (.goto l') a' w' := ⟨h, hm⟩
theorem RunQ.ret {w : World} {g : Nat} {v : Value} {s : Ck} {A : Option Addr} {c : Nat} {b : Bs} {n l : Nat} {a a' : Act} {wr w' : World} : RunQ w g v s A c b n l a wr .ret a' w' = bodyPost Tryz.prog Tryz.f153 (RunP w g v (feedC s b)) .ret a' w' := rfl
theorem RunS.fail {w : World} {g : Nat} {v : Value} {t : Ck} {v1 : Value} {wr w1 : World} {dg lf : Nat} {mk : Bs} {bh : Nat} (h : RunS w g v t v1 wr) (e : Nat) (he : e ≠ 0) (he2 : e ≤ 1000) (k : wr.grownBy w1 (some g)) (hr : Rw w1 g v1 t.most 3 dg lf mk bh e) : RunS w g v { t with fault := e } v1 w1 := by
  obtain ⟨st, dg0, lf0, mk0, bh0, h1, h2, h3, h4⟩ := h.cx
  refine ⟨⟨3, dg, lf, mk, bh, hr, LkOk.fail he, h3.kept k (by cases hv : v1.ownBlock with | none => exact .inl rfl | some j => exact .inr (fun e => h4 (hv.trans e))), h4⟩, ?_, h.mod.trans (Mod.grown (S := FX g v) k (fun j hj => by injection hj with hj; exact .inl hj.symm)) (fun i hi => .inl hi), h.own⟩
  obtain ⟨h1, h2, h3, h4, h5, h6, h7, h8, h9, h10⟩ := h.ok
  exact ⟨h1, h2, h3, h4, h5, h6, h7, h8, h9, he2⟩
theorem RunS.turn {w : World} {g : Nat} {v : Value} {t t2 : Ck} {v1 : Value} {wr w1 : World} {st dg lf : Nat} {mk : Bs} {bh : Nat} (h : RunS w g v t v1 wr) (k : wr.grownBy w1 (some g)) (hr : Rw w1 g v1 t2.most st dg lf mk bh t2.fault) (hk : LkOk t2 st dg lf mk bh) (ok : CkOk t2) (hb : t2.body = t.body) : RunS w g v t2 v1 w1 := by
  obtain ⟨st0, dg0, lf0, mk0, bh0, h1, h2, h3, h4⟩ := h.cx
  exact ⟨⟨st, dg, lf, mk, bh, hr, hk, by rw [hb]; exact h3.kept k (by cases hv : v1.ownBlock with | none => exact .inl rfl | some j => exact .inr (fun e => h4 (hv.trans e))), h4⟩, ok, h.mod.trans (Mod.grown (S := FX g v) k (fun j hj => by injection hj with hj; exact .inl hj.symm)) (fun i hi => .inl hi), h.own⟩

set_option maxHeartbeats 4000000 in
set_option maxRecDepth 100000 in
theorem pass0 (w : World) (g : Nat) (v : Value) (s : Ck) (A : Option Addr) (c : Nat) (b : Bs) (n : Nat) (hn : n = b.length) (hb : Sl w A c b) (hA : b ≠ [] → Off (FX g v) A) (a : Act) (wr : World) (h : RunJ w g v s A c b n 0 a wr) : (behindL runBody 0).wp Tryz.prog (RunQ w g v s A c b n 0 a wr) a wr := by
  obtain ⟨h1, h2, h3, h4, k, t, v1, h5, hs, hl⟩ := h
  obtain ⟨u, hu, ha⟩ := run_frame a h1 h2
  have HM : Hid (runM n 0 a wr = 4 * (n - k) + 3) := Lib.hid (by unfold runM; rw [h5]; simp [intOf])
  obtain ⟨Q, hQ⟩ : ∃ Q, Q = RunQ w g v s A c b n 0 a wr := ⟨_, rfl⟩
  rw [← hQ]
  have HQ := Lib.hid hQ
  rw [← hu] at h3 h4 h5
  rw [ha, h3, h4, h5]
  have HN := Lib.hid hn
  have HS := Lib.hid hs
  have HB := Lib.hid hb
  have HA := Lib.hid hA
  obtain ⟨st, dg, lf, mk, bh, hr, hk, ho, hg⟩ := hs.cx
  have OK := hs.ok
  clear ha hu h1 h2 h3 h4 h5 hQ hn hb hA hs
  refine wp_behind (x := ?x) ?h ?g
  case h =>
    unfold runBody
    dsimp only [Tryz.f153]
    rw [fl_region, fl_here]
  have hl0 : k ≤ n ∧ feedC s b = fromC k t (b.drop k) := by
    rcases hl with h | h | h | h | h
    · exact h.2
    all_goals exact absurd h.1 (by omega)
  have HF := Lib.hid hl0.2
  have hkn := hl0.1
  have x3 := (cell_of_row _ g 3 _ _ _ hr).trans rfl
  have HK := Lib.hid hk
  have HOK := Lib.hid OK
  have kk : ((k : Int) == (k : Int)) = true := by simp
  have RET : Hid (k = n ∨ t.fault ≠ 0 ∨ t.whole = true → RunP w g v (feedC s b) (.returned (.int .i64 k)) wr) := Lib.hid (fun hc => by
    have e := fromC_stop (k := k) (t := t) (b := b.drop k) (by
      rcases hc with h | h | h
      · exact .inr (.inl (List.drop_eq_nil_of_le (by rw [← HN.out]; omega)))
      · exact .inr (.inr h)
      · exact .inl h)
    rw [← HF.out] at e
    by_cases hf : t.fault = 0
    · rw [if_pos hf] at e
      exact ⟨k, v1, rfl, by rw [e]; exact HS.out, fun _ => by rw [e], fun h => by rw [e] at h; exact absurd hf h⟩
    · rw [if_neg hf] at e
      exact ⟨k, v1, rfl, by rw [e]; exact HS.out, fun h => by rw [e] at h; exact absurd h hf, fun _ => by rw [e]⟩)
  clear hl hl0 hr ho hg OK hk
  by_cases h0 : k = n
  · have hkk : ((k : Int) == (n : Int)) = true := by simp [h0]
    have H0 := Lib.hid h0
    clear h0 x3 HM
    go_wp2_with fail
    rw [HQ.out, RunQ.ret]
    go_ret
    exact RET.out (.inl H0.out)
  · have hkk : ((k : Int) == (n : Int)) = false := by simp; omega
    have HLT : Hid (k < n) := Lib.hid (by omega)
    clear h0
    by_cases hf : t.fault ≠ 0
    · have e3 : st = 3 := HK.out.bad hf
      have HFF := Lib.hid hf
      subst e3
      clear hf HM
      go_wp2_with fail
      show Q .ret _ _
      rw [HQ.out, RunQ.ret]
      go_ret
      exact RET.out (.inr (.inl HFF.out))
    have HFF : Hid (t.fault = 0) := Lib.hid (by omega)
    clear hf
    cases hw : t.whole with
    | true =>
      have e3 : st = 3 := HK.out.whole hw
      have HW := Lib.hid hw
      subst e3
      clear hw HM
      go_wp2_with fail
      show Q .ret _ _
      rw [HQ.out, RunQ.ret]
      go_ret
      exact RET.out (.inr (.inr HW.out))
    | false =>
      have HW := Lib.hid hw
      clear hw RET
      by_cases h0 : t.pl = 0
      · have e3 := (HK.out.p0 HFF.out HW.out h0).1
        have H0 := Lib.hid h0
        subst e3
        clear h0
        go_wp2_with fail
        refine wp_goto ?_
        show Q (.goto 1) _ _
        rw [HQ.out]
        exact RunQ.go ⟨rfl, rfl, rfl, rfl, k, t, v1, rfl, HS.out, .inr (.inl ⟨rfl, HLT.out, HFF.out, HW.out, H0.out, HF.out⟩)⟩ (by rw [HM.out]; show 4 * (n - (k : Int).toNat) + 2 < _; have := HLT.out; omega)
      · by_cases h2 : t.pl = 2
        · have e3 := (HK.out.p2 HFF.out HW.out h2).1
          have H2 := Lib.hid h2
          subst e3
          clear h0 h2
          go_wp2_with fail
          refine wp_goto ?_
          show Q (.goto 2) _ _
          rw [HQ.out]
          exact RunQ.go ⟨rfl, rfl, rfl, rfl, k, t, v1, rfl, HS.out, .inr (.inr (.inl ⟨rfl, HLT.out, HFF.out, HW.out, H2.out, HF.out⟩))⟩ (by rw [HM.out]; show 4 * (n - (k : Int).toNat) + 2 < _; have := HLT.out; omega)
        · have e3 := (marks_step HK.out HOK.out HFF.out HW.out h0 h2).1
          have H0 := Lib.hid h0
          have H2 := Lib.hid h2
          subst e3
          clear h0 h2
          go_wp2_with fail
          refine wp_goto ?_
          show Q (.goto 3) _ _
          rw [HQ.out]
          exact RunQ.go ⟨rfl, rfl, rfl, rfl, k, t, v1, rfl, HS.out, .inr (.inr (.inr (.inl ⟨rfl, HLT.out, HFF.out, HW.out, H0.out, H2.out, HF.out⟩)))⟩ (by rw [HM.out]; show 4 * (n - (k : Int).toNat) + 2 < _; have := HLT.out; omega)
end Go.Proofs.YtjhameebehkdjaaGreatDoor
