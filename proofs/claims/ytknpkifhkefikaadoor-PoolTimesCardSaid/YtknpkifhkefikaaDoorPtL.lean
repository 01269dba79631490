/-
  The landed pool: Tick, of one open question that is late.
-/
import Derived.Test.YtknpkifhkefikaaDoorPtK
namespace Go.Proofs.YtknpkifhkefikaaDoor
open Go.RowKit Go.Maps
set_option linter.unusedVariables false
set_option maxRecDepth 100000
attribute [local go_sem ↓] exec_loadOq

/-- The pool, its connection with no open question, the map of connections. -/
structure PoZ (n g m1 m2 gc vb cap : Nat) (a : Int) (w : World) : Prop where
  r : w.heap[g]? = some (.cells #[.pointer (some ⟨n, 0, none⟩), .map (some m1), .map (some m2), .int .i64 1] 107 (0, 0))
  c : ∃ gr, w.heap[gc]? = some (.cells #[.int .i64 1, .int .i64 a, .pointer (some ⟨gr, 0, none⟩), .slice (some ⟨vb, 0, none⟩) 0 cap] 119 (0, 0))
  k1 : w.ownsMap Tryd.prog 3 ptrN m1 1 (mapC gc)
theorem PoZ.mod {S : Nat → Prop} {n g m1 m2 gc vb cap : Nat} {a : Int} {w w1 : World} (h : PoZ n g m1 m2 gc vb cap a w) (m : Mod S w w1) (h1 : ¬ S g) (h2 : ¬ S gc) (h3 : ¬ S m1) : PoZ n g m1 m2 gc vb cap a w1 := by
  obtain ⟨gr, hc⟩ := h.c
  exact ⟨m.row h.r h1, ⟨gr, m.row hc h2⟩, nmap_block h.k1 (m.block m1 h.k1.lt h3)⟩
theorem PoZ.on {n g m1 m2 gc vb cap : Nat} {a : Int} {w w1 : World} (h : PoZ n g m1 m2 gc vb cap a w) (b : Below w.heap.size w w1) : PoZ n g m1 m2 gc vb cap a w1 := h.mod (Mod.below (S := fun _ => False) b) id id id
theorem OwnI.off {w : World} {B : Nat} {v : Value} {l : List Int} {S : Nat → Prop} (h : OwnI w B v l) (hS : ∀ k, S k → k < B) : OffV S v := fun k hk hs => by
  have := hS k hs
  rcases h.2 with ⟨rfl, _⟩ | ⟨g, cap, cur, rfl, hb, _⟩
  · cases hk
  · simp [Value.ownBlock] at hk
    omega
set_option maxHeartbeats 2000000 in
theorem tickL_any (n g m1 m2 gc vb cap s d : Nat) (a : Int) (v1 v2 v3 v4 v5 v6 v7 v8 v9 v10 : Value) (w : World) (hs : s ≤ 1000000) (hd : d ≤ 30) (h10 : 10 ≤ d) (hcap : 1 ≤ cap) (hcm : cap ≤ maxLen)
    (h1 : ∀ v ∈ [Value.int .i64 1, v1, v2, v3, v4, v5, v6, v7, v8, v9, v10], v.oneCell' = true) (h : PoR n g m1 m2 gc vb 1 cap a [.int .i64 1, v1, v2, v3, v4, v5, v6, v7, v8, v9, v10, .int .i64 s] w) :
    Calls Tryd.prog 23 #[.pointer (some ⟨g, 0, none⟩), .int .i64 ((s : Int) + d)] w fun e w' => (∃ v, e = .returned v ∧ OwnI w' w.heap.size v [1]) ∧ PoZ n g m1 m2 gc vb cap a w' ∧ Mod (fun k => k = gc ∨ k = vb) w w' := by
  obtain ⟨L, hL⟩ : ∃ L, L = [Value.int .i64 1, v1, v2, v3, v4, v5, v6, v7, v8, v9, v10, Value.int .i64 s] := ⟨_, rfl⟩
  have hl : L.length = 12 := by rw [hL]; rfl
  have one1 : Hid ((#[Value.int .i64 1, v1, v2, v3, v4, v5, v6, v7, v8, v9, v10, Value.int .i64 s] : Array Value).all (·.oneCell') = true) := Lib.hid (by
    rw [Array.all_eq_true']
    intro v hv
    rw [show (#[Value.int .i64 1, v1, v2, v3, v4, v5, v6, v7, v8, v9, v10, Value.int .i64 s] : Array Value) = ([Value.int .i64 1, v1, v2, v3, v4, v5, v6, v7, v8, v9, v10] ++ [Value.int .i64 s]).toArray from rfl, List.mem_toArray, List.mem_append] at hv
    rcases hv with hv | hv
    · exact h1 v hv
    · rw [List.mem_singleton.1 hv]; rfl)
  have DN := Lib.hid (fun gn W hn hr hf => del1_late vb cap gn s d (.int .i64 1) v1 v2 v3 v4 v5 v6 v7 v8 v9 v10 W hs hd h10 hcap (by unfold maxLen at hcm; omega) hn hr hf)
  have TC := Lib.hid (fun gn W hn => tickC_any (.int .i64 1) v1 v2 v3 v4 v5 v6 v7 v8 v9 v10 s d gn W hs hd hn)
  rw [decide_eq_true h10] at TC
  have iC : Hid ((Tryd.prog.info? 124).map (·.size) = some (#[Value.int .i64 1, v1, v2, v3, v4, v5, v6, v7, v8, v9, v10, Value.int .i64 s] : Array Value).size) := Lib.hid (by kernel_rfl)
  rw [← hL] at h DN
  have hI : Hid ((Tryd.prog.info? 124).map (·.size) = some L.length) := Lib.hid (by rw [hl]; kernel_rfl)
  have hLC : L.toArray = #[Value.int .i64 1, v1, v2, v3, v4, v5, v6, v7, v8, v9, v10, Value.int .i64 s] := by rw [hL]
  obtain ⟨C, hC⟩ : ∃ C : Array Value, C = #[Value.int .i64 1, v1, v2, v3, v4, v5, v6, v7, v8, v9, v10, Value.int .i64 s] := ⟨_, rfl⟩
  have hC0 : C[0]? = some (.int .i64 1) := by rw [hC]; rfl
  rw [← hC] at one1 iC hLC TC
  have HCL := Lib.hid hLC
  have HC0 := Lib.hid hC0
  have zC : Hid ((oqZ).size = C.size) := Lib.hid (by rw [hC]; rfl)
  have HL := Lib.hid hl
  have MD := Lib.hid (fun W hr => madeP_yes g n m1 m2 (.int .i64 1) W hr)
  have ST := Lib.hid (fun A c W => sort1_any A 1 c W (by omega))
  obtain ⟨W1, hW1⟩ : ∃ W1, W1 = w.alloc (.cells #[.int .i64 ((s : Int) + d)] 3) := ⟨_, rfl⟩
  have b1 : Below w.heap.size w W1 := by rw [hW1]; exact Below.alloc (Below.refl _ _) (Nat.le_refl _) _
  have hn1 : W1.heap[w.heap.size]? = some (.cells #[.int .i64 ((s : Int) + d)] 3 (0, 0)) := by rw [hW1]; exact row_new _ rfl
  have P1 := h.on b1
  have c1 : W1.cell? ⟨g, 1, none⟩ = some (.map (some m1)) := (cell_of_row _ _ 1 _ _ _ P1.r).trans rfl
  have HP := Lib.hid P1
  have HB := Lib.hid b1
  have HW1 := Lib.hid hW1
  have HN := Lib.hid hn1
  have hlt := Lib.hid h.lt
  have hno := Lib.hid h.no
  generalize (s : Int) + d = now at *
  clear h P1 b1 hW1 hn1 hL hC hLC hl h10 hs hd h1 hC0 hcap hcm
  go_enter Tryd.func23, Tryd.ntmps23
  go_wp2_with fail
  rw [← HW1.out]
  refine (MD.out _ HP.out.r).mono ?_
  rintro e w1 ⟨rfl, hw⟩
  rw [hw]
  clear hw MD w1 HW1
  go_wp2_with (at_range; refine wpList_range_own _ rfl _ 104 rfl 3 112 nKey Tryd.underlying104 ptrN m1 1 (mapC gc) rfl HP.out.k1 ?_)
  intro w0 hrg0 hg0 hs0
  have hR0 : TkR W1 gc m1 W1.heap.size (fun k => k = gc ∨ k = vb) (Maps.has (mapC gc)) (Maps.size (mapC gc)) w0 := ⟨hrg0, fun kl h => h, Mod.grown hg0 (fun k e => by cases e)⟩
  rw [mapC_size] at hR0
  have HR0 := Lib.hid hR0
  have hsW : Hid (g < W1.heap.size ∧ gc < W1.heap.size ∧ vb < W1.heap.size ∧ m1 < W1.heap.size ∧ w.heap.size < W1.heap.size) := Lib.hid (by have := HP.out.lt; have := (Array.getElem?_eq_some_iff.1 HN.out).1; omega)
  have hsz0 : Hid (W1.heap.size < w0.heap.size) := Lib.hid (by omega)
  have HP0 := Lib.hid (HP.out.mod (Mod.grown (S := fun _ => False) hg0 (fun k e => by cases e)) id id id id)
  clear hR0 hrg0 hg0 hs0 c1
  obtain ⟨r, hr⟩ : ∃ r, r = W1.heap.size := ⟨_, rfl⟩
  rw [← hr] at HR0 hsz0 ⊢
  have HRR := Lib.hid hr
  clear hr
  go_wp2_with fail
  go_loopw [6] (fun v6 wr => ∃ left cnt, Hid (TkR W1 gc m1 r (fun k => k = gc ∨ k = vb) left cnt wr) ∧ ((Hid (cnt = 1) ∧ v6 = .slice none 0 0 ∧ Hid (PoR n g m1 m2 gc vb 1 cap a L wr)) ∨ (Hid (cnt = 0) ∧ Hid (OwnI wr w.heap.size v6 [1]) ∧ Hid (PoZ n g m1 m2 gc vb cap a wr))) ∧ Hid (r < wr.heap.size)) (fun _ wr => wr.rangeLeft m1 r)
  case atStart => exact ⟨_, 1, HR0, .inl ⟨Lib.hid rfl, rfl, HP0⟩, hsz0⟩
  case round =>
    obtain ⟨left, cnt, HR, ⟨HC1, rfl, HQ⟩ | ⟨HC1, HO, HQ⟩, HZ⟩ := hrel
    · rename World => wr
      have hrg := HR.out.rg
      go_wp2_with (at_next; refine wpList_next_ranges _ rfl _ rfl 3 nKey ptrN (fun x : Int => .int .i64 x) mkPn invK_n invV_n m1 r 1 (mapC gc) left cnt rfl hrg ?_ ?_)
      · intro hc0 hl0
        exact absurd (HC1.out.symm.trans hc0) (by decide)
      · intro x c kl yv yp w' cnt' hkey hlk hv hat hrg1 hlt1 hgr hsz hen
        have hc : mkPn c = .pointer (some ⟨gc, 0, none⟩) := mapC_elem (HR.out.lf kl hlk) hv hat
        rw [hc] at hen ⊢
        have hq := hsW.out
        have hrr := HRR.out
        have HQ1 := Lib.hid (HQ.out.mod (Mod.grown (S := fun k => k = r) hgr (fun k e => by injection e with e; exact e.symm)) (fun e => by omega) (fun e => by omega) (fun e => by omega) (fun e => by omega))
        have HR1 : Hid (TkR W1 gc m1 r (fun k => k = gc ∨ k = vb) (fun z => left z && !z.sameKey kl) cnt' w') := Lib.hid ⟨hrg1, fun z hz => HR.out.lf z (by simp at hz; exact hz.1), HR.out.md.trans (Mod.grown (S := fun k => k = r) hgr (fun k e => by injection e with e; exact e.symm)) (fun i e => .inr (by omega))⟩
        have HZ1 : Hid (r < w'.heap.size) := Lib.hid (by have := HZ.out; omega)
        have HLT := Lib.hid hlt1
        have HRG := Lib.hid hrg
        have HC0' : Hid (cnt' = 0) := Lib.hid (by have := HC1.out; omega)
        have hcg : w'.cell? ⟨w.heap.size, 0, none⟩ = some (.int .i64 now) := (cell_of_row _ _ 0 _ _ _ (HR1.out.md.row HN.out (fun e => by have := hlt.out; omega))).trans rfl
        have HCG := Lib.hid hcg
        have c3 := HQ1.out.c3.1
        have F1 : loadOq (.pointer (some ⟨vb, 0, none⟩)) w' = .ok (.value (.agg C)) w' := by rw [loadOq_mid (HQ1.out.at HL.out) hI.out, HCL.out]
        have rZ := row_new (w := w') (k := w'.heap.size) (.cells oqZ 124 (0, 0)) rfl
        have r5 := setRow_heap _ _ _ C _ _ rZ
        have q1 : Below w'.heap.size w' ((w'.alloc (.cells oqZ 124)).setRow w'.heap.size C) := Below.setRow (Below.alloc (Below.refl _ _) (Nat.le_refl _) _) (Nat.le_refl _) _
        have zC1 := zC.out
        unfold oqZ at rZ r5 q1 zC1
        have zC2 := Lib.hid zC1
        obtain ⟨W2, hW2⟩ : ∃ W2, W2 = (w'.alloc (.cells #[.int .i64 0, .int .i64 0, .int .i64 0, .int .i64 0, .string ⟨#[]⟩, .int .i64 0, .int .i64 0, .int .i64 0, .string ⟨#[]⟩, .int .i64 0, .int .i64 0, .int .i64 0] 124)).setRow w'.heap.size C := ⟨_, rfl⟩
        rw [← hW2] at r5 q1
        have F2 : loadOq (.pointer (some ⟨w'.heap.size, 0, none⟩)) W2 = .ok (.value (.agg C)) W2 := loadOq_row r5 iC.out
        have TC2 := Lib.hid (TC.out w.heap.size W2 (q1.cell (p := ⟨w.heap.size, 0, none⟩) (World.block_lt_of_cell? w' _ hcg) |>.trans hcg))
        have HW2 := Lib.hid hW2
        have HQ2 := Lib.hid q1
        have HR5 := Lib.hid r5
        clear hkey hlk hv hat hrg1 hlt1 hgr hsz hc hq hrr hrg HR HQ HZ HR0 hcg r5 q1 zC1 hW2 HP0 hsz0
        go_wp2_with fail
        go_loopw [6, 29] (fun v6 v29 ws => (v29 = .int .i64 0 ∧ v6 = .slice none 0 0 ∧ ws = w') ∨ (v29 = .int .i64 1 ∧ Hid (OwnI ws w.heap.size v6 [1]) ∧ Hid (Below w'.heap.size w' ws))) (fun _ v29 _ => 1 - (intOf v29).toNat)
        case atStart => exact .inl ⟨rfl, rfl, rfl⟩
        case round =>
          rename World => ws
          obtain ⟨rfl, rfl, hws⟩ | ⟨rfl, HO, HBB⟩ := hrel
          · rw [hws]
            clear hws ws c3
            go_wp2_with (first
              | (refine wpList_store_row rfl 124 (.tmp 10) (.tmp 32) rfl w'.heap.size C rfl rfl 124 _ rZ iC.out (by first | exact zC2.out | exact zC2.out.symm) one1.out ?_; rw [← HW2.out])
              | fail)
            refine TC2.out.mono ?_
            rintro e w3 ⟨rfl, b3⟩
            have HB3 := Lib.hid (Below.trans HQ2.out (b3.mono HQ2.out.size))
            have r3 := (b3.block _ (Array.getElem?_eq_some_iff.1 HR5.out).1).trans HR5.out
            have t3 : w3.cell? ⟨w'.heap.size, 0, none⟩ = some (.int .i64 1) := (cell_of_row _ _ 0 _ _ _ r3).trans HC0.out
            have BA : Below w3.heap.size w3 (w3.alloc (.cells #[.int .i64 1] 3)) := Below.alloc (Below.refl _ _) (Nat.le_refl _) _
            have hca := (cell_of_row _ _ 0 _ _ _ (row_new (w := w3) (.cells #[.int .i64 1] 3 (0, 0)) rfl)).trans rfl
            obtain ⟨W4, hW4⟩ : ∃ W4, W4 = w3.alloc (.cells #[.int .i64 1] 3) := ⟨_, rfl⟩
            rw [← hW4] at hca BA
            have HW4 := Lib.hid hW4
            have HBA := Lib.hid BA
            have hle : Hid (w.heap.size ≤ W4.heap.size) := Lib.hid (by have := HB3.out.size; have := BA.size; have := HZ1.out; have := HRR.out; have := hsW.out; omega)
            clear b3 r3 F1 F2 rZ hW4 BA
            go_wp2_with (first
              | (rw [← HW4.out]; at_builtin; refine wpList_app_int rfl _ _ rfl w.heap.size (.slice none 0 0) [] rfl (OwnI.nil _ _) w3.heap.size 1 1 rfl hca (by simp) hle.out ?_)
              | fail)
            intro v' w5 o5 g5 hz5
            clear hz5
            have HB5 : Hid (Below w'.heap.size w' w5) := Lib.hid (Below.trans HB3.out ((Below.trans HBA.out ((Below.grown (Below.refl _ _) g5 (Nat.le_refl _) (fun k hk => by cases hk)).mono HBA.out.size)).mono HB3.out.size))
            have HO5 : Hid (OwnI w5 w.heap.size v' [1]) := Lib.hid o5
            clear o5 g5 hca
            go_wp2_with fail
            go_roundw
            case rel => exact .inr ⟨by go_num, HO5, HB5⟩
            case measure => simp [intOf]
          · clear F1 F2 rZ c3
            have HQs := Lib.hid (HQ1.out.on HBB.out)
            have c3 := HQs.out.c3.1
            have D4 := Lib.hid (DN.out w.heap.size ws (HBB.out.cell (p := ⟨w.heap.size, 0, none⟩) (World.block_lt_of_cell? w' _ HCG.out) |>.trans HCG.out) (HQs.out.at HL.out) (fun W hW j hj => by
              obtain ⟨cur, ho, -⟩ := (HQs.out.on hW).o
              exact frozen_of_row _ _ _ _ _ ho))
            go_wp2_with fail
            refine D4.out.mono ?_
            rintro e w5 ⟨rfl, w4, b4, rfl⟩
            have HQ4 := Lib.hid (HQs.out.on b4)
            have MV : Mod (fun k => k = gc ∨ k = vb) w4 (w4.setCells vb 0 oqZ.toList) := Mod.grown (grownBy_setCells vb _ 0 w4) (fun k e => by injection e with e; exact .inr e.symm)
            obtain ⟨w5, hw5⟩ : ∃ w5, w5 = w4.setCells vb 0 oqZ.toList := ⟨_, rfl⟩
            rw [← hw5] at MV ⊢
            have hnov := hno.out
            have rG := MV.row HQ4.out.r (fun e => by omega)
            obtain ⟨gr, hc4⟩ := HQ4.out.c
            have MV2 : Mod (fun k => k = vb) w4 w5 := by rw [hw5]; exact Mod.grown (grownBy_setCells vb _ 0 w4) (fun k e => by injection e with e; exact e.symm)
            have rC := MV2.row hc4 (fun e => by omega)
            have z3 : w5.frozen? ⟨gc, 3, none⟩ = false := frozen_of_row _ _ _ _ _ rC
            have c34 : w5.cell? ⟨gc, 3, none⟩ = some (.slice (some ⟨vb, 0, none⟩) 1 cap) := (cell_of_row _ _ 3 _ _ _ rC).trans rfl
            have kM := nmap_block HQ4.out.k1 (MV.block m1 HQ4.out.k1.lt (fun e => by omega))
            obtain ⟨w6, hw6⟩ : ∃ w6, w6 = w5.setCell ⟨gc, 3, none⟩ (.slice (some ⟨vb, 0, none⟩) 0 cap) := ⟨_, rfl⟩
            have M6 : Mod (fun k => k = gc ∨ k = vb) w5 w6 := by rw [hw6]; exact ⟨rfl, rfl, rfl, by simp, fun i _ hn => Below.heap_setCell _ _ _ _ (fun e => hn (.inl e))⟩
            have M4 : Hid (Mod (fun k => k = gc ∨ k = vb) w' w6) := Lib.hid ((((Mod.below (S := fun k => k = gc ∨ k = vb) HBB.out).then b4).trans MV (fun i e => .inl e)).trans M6 (fun i e => .inl e))
            have HQ5 : Hid (PoZ n g m1 m2 gc vb cap a w6) := Lib.hid (by
              rw [hw6]
              exact ⟨(Below.heap_setCell _ _ _ _ (by show g ≠ gc; omega)).trans rG, ⟨gr, row_set (i := 3) _ rC⟩, nmap_block kM (Below.heap_setCell _ _ _ _ (by show m1 ≠ gc; omega))⟩)
            have HR6 : Hid (TkR W1 gc m1 r (fun k => k = gc ∨ k = vb) (fun z => left z && !z.sameKey kl) cnt' w6) := Lib.hid (HR1.out.then M4.out (fun e => by omega) (fun e => by have := hsW.out; have := HRR.out; omega) HZ1.out (by have := hsW.out; have := HR1.out.md.size; omega))
            have HZ6 : Hid (r < w6.heap.size) := Lib.hid (by have := M4.out.size; have := HZ1.out; omega)
            have hvl := hlt.out
            have MO : Mod (fun k => k = gc ∨ k = vb) ws w6 := ((Mod.below (S := fun k => k = gc ∨ k = vb) b4).trans MV (fun i e => .inl e)).trans M6 (fun i e => .inl e)
            have HO6 := Lib.hid (HO.out.mod MO (HO.out.off (fun k e => by omega)))
            have HW6 := Lib.hid hw6
            clear b4 MV MV2 rG hc4 rC kM M6 hw5 hw6 hvl MO hnov
            go_wp2_with fail
            rw [← HW6.out]
            go_roundw
            case rel => exact ⟨_, _, HR6, .inr ⟨HC0', HO6, HQ5⟩, HZ6⟩
            case measure =>
              have h1 := HRG.out.left_eq
              have h2 : World.rangeLeft _ m1 r = cnt' := HR6.out.rg.left_eq
              have h3 := HLT.out
              rw [h1]
              refine Nat.lt_of_le_of_lt (Nat.le_of_eq ?_) h3
              exact h2
    · rename World => wr
      rename Value => v6
      have hrg := HR.out.rg
      go_wp2_with (at_next; refine wpList_next_ranges _ rfl _ rfl 3 nKey ptrN (fun x : Int => .int .i64 x) mkPn invK_n invV_n m1 r 1 (mapC gc) left cnt rfl hrg ?_ ?_)
      · intro hc0 hl0
        have HF := Lib.hid ((Mod.below (S := fun k => k = gc ∨ k = vb) HB.out).trans HR.out.md (fun i e => .inl e))
        obtain ⟨A, c, hv6, -, -, -⟩ := HO.out.nts
        simp only [List.length_cons, List.length_nil, Nat.zero_add] at hv6
        subst hv6
        clear hc0 hl0 hrg HR HR0
        go_wp2_with fail
        refine (ST.out _ _ _).mono ?_
        rintro e w2 ⟨rfl, hw⟩
        rw [hw]
        go_wp2_with fail
        go_ret
        exact ⟨⟨_, rfl, HO.out⟩, HQ.out, HF.out⟩
      · intro x c kl yv yp w' cnt' hkey hlk hv hat hrg1 hlt1 hgr hsz hen
        have := HC1.out
        omega
end Go.Proofs.YtknpkifhkefikaaDoor
