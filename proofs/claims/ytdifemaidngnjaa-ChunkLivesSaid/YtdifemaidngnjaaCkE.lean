/-
  The document's reader of chunks: Feed, Body, New.
-/
import Derived.Test.YtdifemaidngnjaaCkD
namespace Go.Proofs.Ytdifemaidngnjaa
open Go.RowKit
set_option linter.unusedVariables false
set_option maxRecDepth 100000

/-- What Feed answers. -/
def FeedK (w : World) (g : Nat) (v : Value) (r : (Nat × Bool × Nat) × Ck) (e : Ending) (w' : World) : Prop := ∃ v', e = .returned (.tuple #[.int .i64 r.1.1, .bool r.1.2.1, .int .i64 r.1.2.2]) ∧ CX w' g r.2 v' ∧ Mod (FX g v) w w' ∧ ∀ k, v'.ownBlock = some k → v.ownBlock = some k ∨ w.heap.size ≤ k
theorem CX.below {w w1 : World} {g : Nat} {s : Ck} {v : Value} (h : CX w g s v) (k : Below w.heap.size w w1) : CX w1 g s v :=
  ⟨(k.block g (Array.getElem?_eq_some_iff.1 h.1).1).trans h.1, h.2.1.below k (Nat.le_refl _), h.2.2⟩

set_option maxHeartbeats 4000000 in
theorem feedK_ref (g : Nat) (s : Ck) (v : Value) (A : Option Addr) (b : Bs) (c : Nat) (w : World) (h : CX w g s v) (ok : CkOk s) (hb : Sl w A c b) (hA : b ≠ [] → Off (FX g v) A) :
    Calls Try.prog 22 #[.pointer (some ⟨g, 0, none⟩), .slice A b.length c] w (FeedK w g v (feedC s b)) := by
  have c6 := (cell_of_row _ g 6 _ _ _ h.1).trans rfl
  obtain ⟨n, hn⟩ : ∃ n, n = b.length := ⟨_, rfl⟩
  rw [← hn]
  have HN := Lib.hid hn
  have HB := Lib.hid hb
  have HA := Lib.hid hA
  by_cases hf : s.fault = 0
  · rw [hf] at c6
    have e : feedC s b = goC 0 s b := by unfold feedC; rw [if_pos hf]
    rw [e]
    have HD : Hid (∀ e w', FeedK w g v (goC 0 s b) e w' ↔ ∃ v', e = .returned (.tuple #[.int .i64 (goC 0 s b).1.1, .bool (goC 0 s b).1.2.1, .int .i64 (goC 0 s b).1.2.2]) ∧ CX w' g (goC 0 s b).2 v' ∧ Mod (FX g v) w w' ∧ ∀ k, v'.ownBlock = some k → v.ownBlock = some k ∨ w.heap.size ≤ k) := Lib.hid (fun _ _ => Iff.rfl)
    generalize FeedK w g v (goC 0 s b) = Q at *
    have HX := Lib.hid h
    have HO := Lib.hid ok
    have hn63 : n ≤ 9223372036854775807 := by have := hb.le; have := hb.max; omega
    clear h ok hb hA hn e hf
    go_enter Try.func22, Try.ntmps22
    go_wp2_with fail
    go_loopw [21] (fun i wr => ∃ (k : Nat) (t : Ck) (v1 : Value), i = .int .i64 k ∧ k ≤ n ∧ CX wr g t v1 ∧ Hid (CkOk t) ∧ Mod (FX g v) w wr ∧ Hid (∀ j, v1.ownBlock = some j → v.ownBlock = some j ∨ w.heap.size ≤ j) ∧ Hid (goC 0 s b = goC k t (b.drop k))) (fun i _ => n - (intOf i).toNat)
    case atStart => exact ⟨0, s, v, rfl, by omega, HX.out, HO, Mod.refl _ _, Lib.hid (fun j hj => .inl hj), Lib.hid rfl⟩
    case round =>
      obtain ⟨k, t, v1, rfl, hk, hx, hok, hM, hV, hG⟩ := hrel
      have HX1 := Lib.hid hx
      have HM := Lib.hid hM
      by_cases hlt : k < n
      · have hkb : k < b.length := by rw [← HN.out]; exact hlt
        obtain ⟨gb, off, rfl, hcs⟩ := HB.out.bys (by omega)
        have y := hM.cell (hcs k hkb) (HA.out (fun e => by rw [e] at hkb; simp at hkb) _ rfl)
        have c5 := (cell_of_row _ g 5 _ _ _ hx.1).trans rfl
        have hGo : Hid (goC 0 s b = goC k t (b[k] :: b.drop (k + 1))) := Lib.hid (by rw [hG.out, List.drop_eq_getElem_cons hkb])
        have hlt' : (k : Int) < (n : Int) := by omega
        clear hx hM hG c6
        cases hw : t.whole with
        | true =>
          rw [hw] at c5
          have HF := Lib.hid ((HD.out (.returned (.tuple #[.int .i64 k, .bool true, .int .i64 0])) wr).2 (by
            rw [hGo.out]
            unfold goC
            rw [if_pos hw]
            exact ⟨v1, rfl, HX1.out, HM.out, hV.out⟩))
          clear hcs hGo hw HD
          go_wp2_with fail
          exact HF.out
        | false =>
          rw [hw] at c5
          obtain ⟨x, hxx⟩ : ∃ x, x = b[k] := ⟨_, rfl⟩
          rw [← hxx] at y hGo
          have ST := Lib.hid (step_ref g t v1 x wr HX1.out hok.out)
          have HW := Lib.hid hw
          clear hcs hw hxx
          go_wp2_with fail
          refine ST.out.mono ?_
          rintro e w2 ⟨v2, rfl, x2, m2, o2⟩
          have M2 : Mod (FX g v) w w2 := HM.out.trans m2 (fun i hi => by
            rcases hi with hi | hi
            · exact .inl (.inl hi)
            · rcases hV.out i hi with hh | hh
              · exact .inl (.inr hh)
              · exact .inr hh)
          have V2 : ∀ j, v2.ownBlock = some j → v.ownBlock = some j ∨ w.heap.size ≤ j := fun j hj => by
            rcases o2 j hj with hh | hh
            · exact hV.out j hh
            · exact .inr (Nat.le_trans HM.out.size hh)
          by_cases he : (stepC t x).1 = 0
          · have K2 := Lib.hid (stepC_ok hok.out x)
            have G2 : Hid (goC 0 s b = goC (k + 1) (stepC t x).2 (b.drop (k + 1))) := Lib.hid (by rw [hGo.out]; conv => lhs; unfold goC; rw [if_neg (by rw [HW.out]; simp), if_pos he])
            rw [he]
            generalize (stepC t x).2 = t2 at *
            have X2 := Lib.hid x2
            have M2h := Lib.hid M2
            have V2h := Lib.hid V2
            clear hGo HW ST m2 o2 he x2 M2 V2 HX1 HM hV HD y c5
            go_wp2_with fail
            go_roundw
            case rel => exact ⟨k + 1, t2, v2, by go_num, by omega, X2.out, K2, M2h.out, V2h, G2⟩
            case measure => simp [intOf]; omega
          · obtain ⟨q1, q2⟩ := stepC_err he
            rw [q1] at x2
            have he' : ¬ ((stepC t x).1 : Int) = 0 := by omega
            have G2 : Hid (goC 0 s b = ((0, false, (stepC t x).1), { (stepC t x).2 with fault := (stepC t x).1 })) := Lib.hid (by rw [hGo.out]; conv => lhs; unfold goC; rw [if_neg (by rw [HW.out]; simp), if_neg he])
            rw [q1] at G2
            have c6 := (cell_of_row _ g 6 _ _ _ x2.1).trans rfl
            have f6 := frozen_of_row _ _ 6 _ _ x2.1
            generalize (stepC t x).1 = er at *
            have X3 := x2.set (t := { t with fault := er }) (grown_set g 6 (.int .i64 er) w2) (row_set (i := 6) (.int .i64 er) x2.1) rfl
            have HF := Lib.hid ((HD.out (.returned (.tuple #[.int .i64 0, .bool false, .int .i64 er])) (w2.setCell ⟨g, 6, none⟩ (.int .i64 er))).2 (by
              rw [G2.out]
              exact ⟨v2, rfl, X3, M2.trans (Mod.grown (S := FX g v) (grown_set g 6 (.int .i64 er) w2) (fun k hk => by injection hk with hk; exact .inl hk.symm)) (fun i hi => .inl hi), V2⟩))
            clear hGo HW ST m2 o2 he x2 M2 V2 HX1 HM hV HD G2 X3 q1 q2 y c5
            go_wp2_with fail
            exact HF.out
      · obtain rfl : k = n := by omega
        have c5 : ∀ m, (wr.drewN m).cell? ⟨g, 5, none⟩ = some (.bool t.whole) := fun m => (cell_of_row _ g 5 _ _ _ (hx.drewN m).1).trans rfl
        have c50 := c5 0
        have HF := Lib.hid (fun m => (HD.out (.returned (.tuple #[.int .i64 k, .bool t.whole, .int .i64 0])) (wr.drewN m)).2 (by
          rw [hG.out, List.drop_eq_nil_of_le (by have := HN.out; omega)]
          exact ⟨v1, rfl, HX1.out.drewN m, HM.out.then (below_drewN (Below.refl _ _) m), hV.out⟩))
        have c5' := (cell_of_row _ g 5 _ _ _ hx.1).trans rfl
        clear hx hM hG HD hV HX1 HM c5 c50
        go_wp2_with fail
        go_quiet (fail)
        have HF2 := Lib.hid (HF.out nq)
        clear HF
        go_wp2_with fail
        exact HF2.out
  · have e : feedC s b = ((0, false, s.fault), s) := by unfold feedC; rw [if_neg hf]
    have hf' : ¬ (s.fault : Int) = 0 := by omega
    have HF : Hid (∀ m, FeedK w g v (feedC s b) (.returned (.tuple #[.int .i64 0, .bool false, .int .i64 s.fault])) (w.drewN m)) := Lib.hid (fun m => by
      rw [e]
      exact ⟨v, rfl, h.drewN m, Mod.below (below_drewN (Below.refl _ _) m), fun k hk => .inl hk⟩)
    generalize FeedK w g v (feedC s b) = Q at *
    clear h ok hb hA hn e hf
    go_enter Try.func22, Try.ntmps22
    go_wp2_with fail
    go_quiet (fail)
    have HF2 := Lib.hid (HF.out nq)
    clear HF
    go_wp2_with fail
    exact HF2.out

set_option maxHeartbeats 1000000 in
theorem body_ref (g : Nat) (s : Ck) (v : Value) (w : World) (h : CX w g s v) (hl : s.body.length ≤ 140737488355328) :
    Calls Try.prog 24 #[.pointer (some ⟨g, 0, none⟩)] w fun e w' => ∃ vb, e = .returned vb ∧ OwnB w' w.heap.size vb s.body ∧ Below w.heap.size w w' := by
  obtain ⟨Ax, cx, rfl, hxs⟩ := h.2.1.bysN
  have c4 := (cell_of_row _ g 4 _ _ _ h.1).trans rfl
  have q0 : Below w.heap.size w (w.alloc (.cells #[] 5)) := Below.alloc (Below.refl _ _) (Nat.le_refl _) _
  have c4a : (w.alloc (.cells #[] 5)).cell? ⟨g, 4, none⟩ = some (.slice Ax s.body.length cx) := cell_on c4 q0
  have O0 := Lib.hid (OwnB.empty w w.heap.size (Nat.le_refl _))
  have HX := Lib.hid (hxs.on q0)
  have HQ := Lib.hid q0
  obtain ⟨x, hx⟩ : ∃ x, x = s.body := ⟨_, rfl⟩
  rw [← hx] at c4 c4a HX hl
  rw [← hx]
  obtain ⟨nx, hnx⟩ : ∃ n, n = x.length := ⟨_, rfl⟩
  rw [← hnx] at c4 c4a
  have HNX := Lib.hid hnx
  have HL := Lib.hid hl
  clear h hxs q0 hx hnx hl
  go_enter Try.func24, Try.ntmps24
  go_wp2_with (first
    | (at_builtin; refine wpList_append_bys rfl (.tmp 3) (.tmp 7) rfl w.heap.size _ [] rfl O0.out Ax cx nx x rfl HNX.out HX.out.bys HX.out.nil (by have := HL.out; simp; omega) (by simp) ?_)
    | fail)
  intro v1 w1 o1 g1 _
  have b1 : Below w.heap.size w w1 := HQ.out.grown g1 (by simp) (fun k hk => by simp [Value.ownBlock] at hk; omega)
  have O1 := Lib.hid o1
  have B1 := Lib.hid b1
  clear o1 g1 b1 c4 c4a HQ HX O0
  go_wp2_with fail
  go_ret
  exact ⟨_, rfl, O1.out, B1.out⟩
set_option maxHeartbeats 400000 in
theorem newK_ref (most : Int) (w : World) :
    Calls Try.prog 20 #[.int .i64 most] w fun e w' => e = .returned (.pointer (some ⟨w.heap.size, 0, none⟩)) ∧ CX w' w.heap.size (newC most) (.slice none 0 0) ∧ Below w.heap.size w w' := by
  have z : (((min (max most 0) 65535).toNat : Nat) : Int) = min (max most 0) 65535 := by omega
  have HX : Hid (CX (w.alloc (.cells #[.int .i64 (min (max most 0) 65535), .int .i64 0, .int .i64 0, .int .i64 0, .slice none 0 0, .bool false, .int .i64 0] 66 (0, 0))) w.heap.size (newC most) (.slice none 0 0)) := Lib.hid ⟨by
    unfold newC
    simp only
    rw [z]
    exact row_new _ rfl, .inl ⟨rfl, rfl⟩, by simp [Value.ownBlock]⟩
  clear z
  go_enter Try.func20, Try.ntmps20
  go_wp2_with fail
  go_ret
  exact ⟨rfl, HX.out, Below.alloc (Below.refl _ _) (Nat.le_refl _) _⟩
end Go.Proofs.Ytdifemaidngnjaa
