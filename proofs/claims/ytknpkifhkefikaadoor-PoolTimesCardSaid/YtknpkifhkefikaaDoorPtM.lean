/-
  The landed pool: Open, of one open question, and of none.
-/
import Derived.Test.YtknpkifhkefikaaDoorPtL
namespace Go.Proofs.YtknpkifhkefikaaDoor
open Go.RowKit Go.Maps
set_option linter.unusedVariables false
set_option maxRecDepth 100000
attribute [local go_sem ↓] exec_loadOq

/-- What was asked, appended. -/
theorem info_asz : (Tryd.prog.info? 51).map (fun i => (i.zero, i.size, i.bytes)) = some (some (.agg #[.int .i64 0, .int .i64 0, .int .i64 0, .int .i64 0, .string ⟨#[]⟩, .int .i64 0, .int .i64 0]), 7, 64) := by kernel_rfl
noncomputable def appAs (v u : Value) (ty : TypeId) (w : World) : Result Next := ((Builtin.append_ #[56, 56] ty #[v, u]).run Tryd.prog w).andThen fun a w' => .ok (.value a) w'
theorem exec_appAs (ev : Operand → Value) (d : Option Tmp) (x y : Operand) (t : TypeId) (p : String) (f : Array Edge) (w : World) : (execOp ev { dst := d, op := .call { callee := .builtin .append, args := #[x, y], argTypes := #[56, 56] }, type := t, pos := p, after := f, guard := none }).run Tryd.prog w = appAs (ev x) (ev y) t w := by
  unfold execOp appAs
  simp only [resolve, invoke, builtin, Sem.run_bind, Sem.run_pure, Result.andThen_ok, List.map_toArray, List.map_cons, List.map_nil]
theorem run_app_as (w : World) (ty : TypeId) (b c : Nat) (L : List Value) (hL : L.length = 7) (h1 : ∀ u ∈ L, u.oneCell' = true) (hM : w.rangeAt b 0 L) :
    ∃ b' c' w', appAs (.slice none 0 0) (.slice (some ⟨b, 0, none⟩) 1 c) ty w = .ok (.value (.slice (some ⟨b', 0, none⟩) 1 c')) w' ∧ Below w.heap.size w w' := by
  obtain ⟨i0, hi, hz0, hz1, hz2⟩ := info_parts info_asz
  obtain ⟨v', w', hr, h3, h4, -, h6⟩ := run_append_own_at (P := Tryd.prog) w w.heap.size 56 ty 51 i0 (.agg #[.int .i64 0, .int .i64 0, .int .i64 0, .int .i64 0, .string ⟨#[]⟩, .int .i64 0, .int .i64 0]) 7 64 Tryd.underlying56 hi hz0 hz1 hz2 rfl (by decide) (.slice none 0 0) 0 [] ⟨rfl, .inl ⟨rfl, rfl⟩⟩ ⟨b, 0, none⟩ 1 c L (by rw [hL]) (fun j u hu => by rw [Addr.add_mid]; exact hM j u hu) h1 (by simp [maxLen]) (by omega) (Nat.le_refl _)
  have hB : Below w.heap.size w w' := Below.grown (Below.refl _ _) h4 (Nat.le_refl _) (fun k hk => by cases hk)
  rcases h3.2 with ⟨_, e⟩ | ⟨b', c', cur, e, -⟩
  · simp at e
  · exact ⟨b', c', w', by unfold appAs; rw [hr, e]; rfl, hB⟩
attribute [local go_sem ↓] exec_appAs
set_option maxHeartbeats 2000000 in
theorem openZ_any (n g m1 m2 gc vb cap : Nat) (a : Int) (w : World) (h : PoZ n g m1 m2 gc vb cap a w) (hgc : g ≠ gc) :
    Calls Tryd.prog 24 #[.pointer (some ⟨g, 0, none⟩)] w fun e w' => e = .returned (.slice none 0 0) ∧ Below w.heap.size w w' := by
  have MD := Lib.hid (madeP_yes g n m1 m2 (.int .i64 1) w h.r)
  have ST := Lib.hid (fun f W => sortF1_any none 0 0 f W (by omega))
  have c1 : w.cell? ⟨g, 1, none⟩ = some (.map (some m1)) := (cell_of_row _ _ 1 _ _ _ h.r).trans rfl
  have HP := Lib.hid h
  clear h
  go_enter Tryd.func24, Tryd.ntmps24
  go_wp2_with fail
  refine MD.out.mono ?_
  rintro e w1 ⟨rfl, hw⟩
  rw [hw]
  clear hw MD w1
  go_wp2_with (at_range; refine wpList_range_own _ rfl _ 104 rfl 3 112 nKey Tryd.underlying104 ptrN m1 1 (mapC gc) rfl HP.out.k1 ?_)
  intro w0 hrg0 hg0 hs0
  have hR0 : TkR w gc m1 w.heap.size (fun _ => False) (Maps.has (mapC gc)) (Maps.size (mapC gc)) w0 := ⟨hrg0, fun kl h => h, Mod.grown hg0 (fun k e => by cases e)⟩
  have HR0 := Lib.hid hR0
  have hsz0 : Hid (w.heap.size < w0.heap.size) := Lib.hid (by omega)
  clear hR0 hrg0 hg0 hs0 c1
  obtain ⟨r, hr⟩ : ∃ r, r = w.heap.size := ⟨_, rfl⟩
  rw [← hr] at HR0 hsz0 ⊢
  have HRR := Lib.hid hr
  clear hr
  go_wp2_with fail
  go_loopw [3] (fun v3 wr => v3 = .slice none 0 0 ∧ ∃ left cnt, Hid (TkR w gc m1 r (fun _ => False) left cnt wr) ∧ Hid (r < wr.heap.size)) (fun _ wr => wr.rangeLeft m1 r)
  case atStart => exact ⟨rfl, _, _, HR0, hsz0⟩
  case round =>
    obtain ⟨rfl, left, cnt, HR, HZ⟩ := hrel
    rename World => wr
    have hrg := HR.out.rg
    go_wp2_with (at_next; refine wpList_next_ranges _ rfl _ rfl 3 nKey ptrN (fun x : Int => .int .i64 x) mkPn invK_n invV_n m1 r 1 (mapC gc) left cnt rfl hrg ?_ ?_)
    · intro hc0 hl0
      have HF : Hid (Below w.heap.size w wr) := Lib.hid (HR.out.md.toBelow (Nat.le_refl _) (fun i e => e.elim))
      clear hc0 hl0 hrg HR HR0
      go_wp2_with fail
      refine (ST.out _ _).mono ?_
      rintro e w2 ⟨rfl, hw⟩
      rw [hw]
      go_wp2_with fail
      go_ret
      exact ⟨rfl, HF.out⟩
    · intro x c kl yv yp w' cnt' hkey hlk hv hat hrg1 hlt1 hgr hsz hen
      have hc : mkPn c = .pointer (some ⟨gc, 0, none⟩) := mapC_elem (HR.out.lf kl hlk) hv hat
      rw [hc] at hen ⊢
      have HR1 : Hid (TkR w gc m1 r (fun _ => False) (fun z => left z && !z.sameKey kl) cnt' w') := Lib.hid ⟨hrg1, fun z hz => HR.out.lf z (by simp at hz; exact hz.1), HR.out.md.trans (Mod.grown (S := fun k => k = r) hgr (fun k e => by injection e with e; exact e.symm)) (fun i e => .inr (by have := HRR.out; omega))⟩
      have HZ1 : Hid (r < w'.heap.size) := Lib.hid (by have := HZ.out; omega)
      obtain ⟨gr, hcr⟩ := HP.out.c
      have c3 : w'.cell? ⟨gc, 3, none⟩ = some (.slice (some ⟨vb, 0, none⟩) 0 cap) := (cell_of_row _ _ 3 _ _ _ (HR1.out.md.row hcr id)).trans rfl
      have HLT := Lib.hid hlt1
      have HRG := Lib.hid hrg
      clear hkey hlk hv hat hrg1 hlt1 hgr hsz hc hrg HR HZ HR0 hcr
      go_wp2_with fail
      go_loopw [3, 25] (fun v3 v25 ws => v3 = .slice none 0 0 ∧ v25 = .int .i64 0 ∧ ws = w') (fun _ _ _ => 0)
      case atStart => exact ⟨rfl, rfl, rfl⟩
      case round =>
        rename World => ws
        obtain ⟨rfl, rfl, hws⟩ := hrel
        rw [hws]
        clear hws ws
        go_wp2_with fail
        go_roundw
        case rel => exact ⟨rfl, _, _, HR1, HZ1⟩
        case measure =>
          have h1 := HRG.out.left_eq
          have h2 : World.rangeLeft _ m1 r = cnt' := HR1.out.rg.left_eq
          have h3 := HLT.out
          rw [h1]
          refine Nat.lt_of_le_of_lt (Nat.le_of_eq ?_) h3
          exact h2
set_option maxHeartbeats 2000000 in
theorem openN_any (n g m1 m2 gc vb cap : Nat) (a tk cn ii ad now : Int) (q : Qu) (hq : q.n.length ≤ 255) (w : World) (h : PoR n g m1 m2 gc vb 1 cap a (oqL tk cn ii ad q now) w) :
    Calls Tryd.prog 24 #[.pointer (some ⟨g, 0, none⟩)] w fun e w' => (∃ A c, e = .returned (.slice A 1 c)) ∧ Below w.heap.size w w' := by
  have MD := Lib.hid (madeP_yes g n m1 m2 (.int .i64 1) w h.r)
  have ST := Lib.hid (fun A c f W => sortF1_any A 1 c f W (by omega))
  have KC := Lib.hid (fun W => copyO_any tk cn ii ad q now W hq)
  have hl : (oqL tk cn ii ad q now).length = 12 := rfl
  have hL1 : (asL tk cn ii ad q).length = 7 := rfl
  have one1 : Hid (((oqL tk cn ii ad q now).toArray).all (·.oneCell') = true) := Lib.hid (by simp [oqL, asL, tiL, Value.oneCell'])
  have oneA : Hid (∀ u ∈ asL tk cn ii ad q, u.oneCell' = true) := Lib.hid (by intro u hu; simp [asL] at hu; rcases hu with rfl | rfl | rfl | rfl | rfl | rfl | rfl <;> rfl)
  have iC : Hid ((Tryd.prog.info? 124).map (·.size) = some (oqL tk cn ii ad q now).toArray.size) := Lib.hid (by rw [List.size_toArray, hl]; kernel_rfl)
  have hI : Hid ((Tryd.prog.info? 124).map (·.size) = some (oqL tk cn ii ad q now).length) := Lib.hid (by rw [hl]; kernel_rfl)
  obtain ⟨qn, qt, qc⟩ := q
  have hAL : asL tk cn ii ad ⟨qn, qt, qc⟩ = [.int .i64 tk, .int .i64 cn, .int .i64 ii, .int .i64 ad, .string (bs qn), .int .i64 qt, .int .i64 qc] := rfl
  rw [hAL] at KC hL1 oneA
  obtain ⟨L, hL⟩ : ∃ L, L = oqL tk cn ii ad ⟨qn, qt, qc⟩ now := ⟨_, rfl⟩
  rw [← hL] at KC one1 iC hI h hl
  obtain ⟨C, hC⟩ : ∃ C : Array Value, C = L.toArray := ⟨_, rfl⟩
  rw [← hC] at KC one1 iC
  have zC : Hid ((oqZ).size = C.size) := Lib.hid (by rw [hC]; show 12 = L.length; exact hl.symm)
  have HCL := Lib.hid hC
  have HL := Lib.hid hl
  have HL1 := Lib.hid hL1
  have c1 : w.cell? ⟨g, 1, none⟩ = some (.map (some m1)) := (cell_of_row _ _ 1 _ _ _ h.r).trans rfl
  have HP := Lib.hid h
  clear h hAL hL hC hl hL1 hq
  go_enter Tryd.func24, Tryd.ntmps24
  go_wp2_with fail
  refine MD.out.mono ?_
  rintro e w1 ⟨rfl, hw⟩
  rw [hw]
  clear hw MD w1
  go_wp2_with (at_range; refine wpList_range_own _ rfl _ 104 rfl 3 112 nKey Tryd.underlying104 ptrN m1 1 (mapC gc) rfl HP.out.k1 ?_)
  intro w0 hrg0 hg0 hs0
  have hR0 : TkR w gc m1 w.heap.size (fun _ => False) (Maps.has (mapC gc)) (Maps.size (mapC gc)) w0 := ⟨hrg0, fun kl h => h, Mod.grown hg0 (fun k e => by cases e)⟩
  rw [mapC_size] at hR0
  have HR0 := Lib.hid hR0
  have hsz0 : Hid (w.heap.size < w0.heap.size) := Lib.hid (by omega)
  clear hR0 hrg0 hg0 hs0 c1
  obtain ⟨r, hr⟩ : ∃ r, r = w.heap.size := ⟨_, rfl⟩
  rw [← hr] at HR0 hsz0 ⊢
  have HRR := Lib.hid hr
  clear hr
  go_wp2_with fail
  go_loopw [3] (fun v3 wr => ∃ left cnt, Hid (TkR w gc m1 r (fun _ => False) left cnt wr) ∧ ((Hid (cnt = 1) ∧ v3 = .slice none 0 0) ∨ (Hid (cnt = 0) ∧ ∃ b c, v3 = .slice (some ⟨b, 0, none⟩) 1 c)) ∧ Hid (r < wr.heap.size)) (fun _ wr => wr.rangeLeft m1 r)
  case atStart => exact ⟨_, 1, HR0, .inl ⟨Lib.hid rfl, rfl⟩, hsz0⟩
  case round =>
    obtain ⟨left, cnt, HR, ⟨HC1, rfl⟩ | ⟨HC1, b, c, rfl⟩, HZ⟩ := hrel
    · rename World => wr
      have hrg := HR.out.rg
      go_wp2_with (at_next; refine wpList_next_ranges _ rfl _ rfl 3 nKey ptrN (fun x : Int => .int .i64 x) mkPn invK_n invV_n m1 r 1 (mapC gc) left cnt rfl hrg ?_ ?_)
      · intro hc0 hl0
        exact absurd (HC1.out.symm.trans hc0) (by decide)
      · intro x c kl yv yp w' cnt' hkey hlk hv hat hrg1 hlt1 hgr hsz hen
        have hc : mkPn c = .pointer (some ⟨gc, 0, none⟩) := mapC_elem (HR.out.lf kl hlk) hv hat
        rw [hc] at hen ⊢
        have HR1 : Hid (TkR w gc m1 r (fun _ => False) (fun z => left z && !z.sameKey kl) cnt' w') := Lib.hid ⟨hrg1, fun z hz => HR.out.lf z (by simp at hz; exact hz.1), HR.out.md.trans (Mod.grown (S := fun k => k = r) hgr (fun k e => by injection e with e; exact e.symm)) (fun i e => .inr (by have := HRR.out; omega))⟩
        have HZ1 : Hid (r < w'.heap.size) := Lib.hid (by have := HZ.out; omega)
        have HQ1 := Lib.hid (HP.out.mod HR1.out.md id id id id)
        have c3 := HQ1.out.c3.1
        have HLT := Lib.hid hlt1
        have HRG := Lib.hid hrg
        have HC0' : Hid (cnt' = 0) := Lib.hid (by have := HC1.out; omega)
        have F1 : loadOq (.pointer (some ⟨vb, 0, none⟩)) w' = .ok (.value (.agg C)) w' := by rw [loadOq_mid (HQ1.out.at HL.out) hI.out, HCL.out]
        have rZ := row_new (w := w') (k := w'.heap.size) (.cells oqZ 124 (0, 0)) rfl
        have r5 := setRow_heap _ _ _ C _ _ rZ
        have q1 : Below w'.heap.size w' ((w'.alloc (.cells oqZ 124)).setRow w'.heap.size C) := Below.setRow (Below.alloc (Below.refl _ _) (Nat.le_refl _) _) (Nat.le_refl _) _
        have zC1 := zC.out
        unfold oqZ at rZ r5 q1 zC1
        have zC2 := Lib.hid zC1
        obtain ⟨W2, hW2⟩ : ∃ W2, W2 = (w'.alloc (.cells #[.int .i64 0, .int .i64 0, .int .i64 0, .int .i64 0, .string ⟨#[]⟩, .int .i64 0, .int .i64 0, .int .i64 0, .string ⟨#[]⟩, .int .i64 0, .int .i64 0, .int .i64 0] 124)).setRow w'.heap.size C := ⟨_, rfl⟩
        rw [← hW2] at r5 q1
        have F2 : loadOq (.pointer (some ⟨w'.heap.size, 0, none⟩)) W2 = .ok (.value (.agg C)) W2 := loadOq_row r5 iC.out
        have HW2 := Lib.hid hW2
        have HQ2 := Lib.hid q1
        clear hkey hlk hv hat hrg1 hlt1 hgr hsz hc hrg HR HZ HR0 r5 q1 zC1 hW2 hsz0
        go_wp2_with fail
        go_loopw [3, 25] (fun v3 v25 ws => (v25 = .int .i64 0 ∧ v3 = .slice none 0 0 ∧ ws = w') ∨ (v25 = .int .i64 1 ∧ (∃ b c, v3 = .slice (some ⟨b, 0, none⟩) 1 c) ∧ Hid (Below w'.heap.size w' ws))) (fun _ v25 _ => 1 - (intOf v25).toNat)
        case atStart => exact .inl ⟨rfl, rfl, rfl⟩
        case round =>
          rename World => ws
          obtain ⟨rfl, rfl, hws⟩ | ⟨rfl, ⟨b, c, rfl⟩, HBB⟩ := hrel
          · rw [hws]
            clear hws ws c3
            go_wp2_with (first
              | (refine wpList_store_row rfl 124 (.tmp 7) (.tmp 28) rfl w'.heap.size C rfl rfl 124 _ rZ iC.out (by first | exact zC2.out | exact zC2.out.symm) one1.out ?_; rw [← HW2.out])
              | fail)
            refine (KC.out _).mono ?_
            rintro e w3 ⟨rfl, b3⟩
            have HB3 := Lib.hid (Below.trans HQ2.out (b3.mono HQ2.out.size))
            have rA := row_new (w := w3) (k := w3.heap.size) (.cells #[.int .i64 tk, .int .i64 cn, .int .i64 ii, .int .i64 ad, .string (bs qn), .int .i64 qt, .int .i64 qc] 51 (0, 0)) rfl
            obtain ⟨b', c', w5, run5, b5⟩ := run_app_as (w3.alloc (.cells #[.int .i64 tk, .int .i64 cn, .int .i64 ii, .int .i64 ad, .string (bs qn), .int .i64 qt, .int .i64 qc] 51)) 56 w3.heap.size 1 [.int .i64 tk, .int .i64 cn, .int .i64 ii, .int .i64 ad, .string (bs qn), .int .i64 qt, .int .i64 qc] HL1.out oneA.out (fun j u hu => by rw [cell_of_row _ _ (0 + j) _ _ _ rA]; simpa using hu)
            have BA : Below w3.heap.size w3 (w3.alloc (.cells #[.int .i64 tk, .int .i64 cn, .int .i64 ii, .int .i64 ad, .string (bs qn), .int .i64 qt, .int .i64 qc] 51)) := Below.alloc (Below.refl _ _) (Nat.le_refl _) _
            have HB5 : Hid (Below w'.heap.size w' w5) := Lib.hid (Below.trans HB3.out ((Below.trans BA (b5.mono BA.size)).mono HB3.out.size))
            clear b3 F1 F2 rZ b5 BA rA
            go_wp2_with fail
            go_roundw
            case rel => exact .inr ⟨by go_num, ⟨_, _, rfl⟩, HB5⟩
            case measure => simp [intOf]
          · clear F1 F2 rZ c3
            have HR5 : Hid (TkR w gc m1 r (fun _ => False) (fun z => left z && !z.sameKey kl) cnt' ws) := Lib.hid (HR1.out.then (Mod.below HBB.out) id id HZ1.out (by have := HP.out.lt; have := HR1.out.md.size; omega))
            have HZ5 : Hid (r < ws.heap.size) := Lib.hid (by have := HBB.out.size; have := HZ1.out; omega)
            go_wp2_with fail
            go_roundw
            case rel => exact ⟨_, _, HR5, .inr ⟨HC0', _, _, rfl⟩, HZ5⟩
            case measure =>
              have h1 := HRG.out.left_eq
              have h2 : World.rangeLeft _ m1 r = cnt' := HR5.out.rg.left_eq
              have h3 := HLT.out
              rw [h1]
              refine Nat.lt_of_le_of_lt (Nat.le_of_eq ?_) h3
              exact h2
    · rename World => wr
      have hrg := HR.out.rg
      go_wp2_with (at_next; refine wpList_next_ranges _ rfl _ rfl 3 nKey ptrN (fun x : Int => .int .i64 x) mkPn invK_n invV_n m1 r 1 (mapC gc) left cnt rfl hrg ?_ ?_)
      · intro hc0 hl0
        have HF : Hid (Below w.heap.size w wr) := Lib.hid (HR.out.md.toBelow (Nat.le_refl _) (fun i e => e.elim))
        clear hc0 hl0 hrg HR HR0
        go_wp2_with fail
        refine (ST.out _ _ _ _).mono ?_
        rintro e w2 ⟨rfl, hw⟩
        rw [hw]
        go_wp2_with fail
        go_ret
        exact ⟨⟨_, _, rfl⟩, HF.out⟩
      · intro x c kl yv yp w' cnt' hkey hlk hv hat hrg1 hlt1 hgr hsz hen
        have := HC1.out
        omega
end Go.Proofs.YtknpkifhkefikaaDoor
