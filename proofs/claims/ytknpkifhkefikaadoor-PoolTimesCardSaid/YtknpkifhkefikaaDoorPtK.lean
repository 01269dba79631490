/-
  The landed pool: Tick, of one open question.
-/
import Derived.Test.YtknpkifhkefikaaDoorPtI
import Derived.Test.YtknpkifhkefikaaDoorPtC
import Derived.Test.YtknpkifhkefikaaDoorPb
import Derived.Test.YtknpkifhkefikaaDoorPtJ
import Derived.Test.YtknpkifhkefikaaDoorIn
namespace Go.Proofs.YtknpkifhkefikaaDoor
open Go.RowKit Go.Maps
set_option linter.unusedVariables false
set_option maxRecDepth 100000
attribute [local go_sem ↓] exec_loadOq

theorem rangesC_block {w w' : World} {P : Program} {k : TypeId} {R : Value → Option (DataW Unit × List MemPlace)} {b r n cnt : Nat} {M : DataW Unit} {left : Lit → Bool} (h : w.ranges P k R b r n M left cnt) (hb : w'.heap[b]? = w.heap[b]?) (hr : w'.heap[r]? = w.heap[r]?) : w'.ranges P k R b r n M left cnt := by
  obtain ⟨es, clock, since, seen, c0, h1, h2, h3, h4, h5, h6⟩ := h
  exact ⟨es, clock, since, seen, c0, hb.trans h1, h2, h3, h4, hr.trans h5, h6⟩
def mkPn : Option Nat → Value
  | some b => .pointer (some ⟨b, 0, none⟩)
  | none => .pointer none
theorem invK_n (key : Value) (kl : Lit) (h : keyOf Tryd.prog 3 key = some kl) : ∃ x : Int, key = .int .i64 x := by
  obtain ⟨x, e, -⟩ := Maps.keyOf_int_inv Tryd.underlying3 h
  exact ⟨x, e⟩
theorem invV_n (v : Value) (y : DataW Unit × List MemPlace) (h : ptrN v = some y) : ∃ c : Option Nat, v = mkPn c := by
  rcases ptrN_inv h with ⟨rfl, _⟩ | ⟨b, rfl, _⟩
  · exact ⟨none, rfl⟩
  · exact ⟨some b, rfl⟩
/-- The pool, its connection with its slice of open questions, what that holds, the map of connections. -/
structure PoR (n g m1 m2 gc vb k cap : Nat) (a : Int) (L : List Value) (w : World) : Prop where
  r : w.heap[g]? = some (.cells #[.pointer (some ⟨n, 0, none⟩), .map (some m1), .map (some m2), .int .i64 1] 107 (0, 0))
  c : ∃ gr, w.heap[gc]? = some (.cells #[.int .i64 1, .int .i64 a, .pointer (some ⟨gr, 0, none⟩), .slice (some ⟨vb, 0, none⟩) k cap] 119 (0, 0))
  k1 : w.ownsMap Tryd.prog 3 ptrN m1 1 (mapC gc)
  o : ∃ cur, w.heap[vb]? = some (.cells cur 124 (0, 0)) ∧ cur.toList.take 12 = L
  no : vb ≠ g ∧ vb ≠ gc ∧ g ≠ gc ∧ m1 ≠ g ∧ m1 ≠ gc ∧ m1 ≠ vb
theorem PoR.mod {S : Nat → Prop} {n g m1 m2 gc vb k cap : Nat} {a : Int} {L : List Value} {w w1 : World} (h : PoR n g m1 m2 gc vb k cap a L w) (m : Mod S w w1) (h1 : ¬ S g) (h2 : ¬ S gc) (h3 : ¬ S m1) (h4 : ¬ S vb) : PoR n g m1 m2 gc vb k cap a L w1 := by
  obtain ⟨gr, hc⟩ := h.c
  obtain ⟨cur, ho, hr⟩ := h.o
  exact ⟨m.row h.r h1, ⟨gr, m.row hc h2⟩, nmap_block h.k1 (m.block m1 h.k1.lt h3), ⟨cur, m.row ho h4, hr⟩, h.no⟩
theorem PoR.on {n g m1 m2 gc vb k cap : Nat} {a : Int} {L : List Value} {w w1 : World} (h : PoR n g m1 m2 gc vb k cap a L w) (b : Below w.heap.size w w1) : PoR n g m1 m2 gc vb k cap a L w1 := h.mod (Mod.below (S := fun _ => False) b) id id id id
theorem PoR.at {n g m1 m2 gc vb k cap : Nat} {a : Int} {L : List Value} {w : World} (h : PoR n g m1 m2 gc vb k cap a L w) (hl : L.length = 12) : w.rangeAt vb 0 L := fun j v hv => by
  obtain ⟨cur, ho, hr⟩ := h.o
  have hj : j < 12 := by have := (List.getElem?_eq_some_iff.1 hv).1; omega
  rw [cell_of_row _ _ (0 + j) _ _ _ ho, Nat.zero_add]
  rw [← hr, List.getElem?_take_of_lt hj] at hv
  simpa using hv
theorem PoR.c3 {n g m1 m2 gc vb k cap : Nat} {a : Int} {L : List Value} {w : World} (h : PoR n g m1 m2 gc vb k cap a L w) : w.cell? ⟨gc, 3, none⟩ = some (.slice (some ⟨vb, 0, none⟩) k cap) ∧ w.frozen? ⟨gc, 3, none⟩ = false := by
  obtain ⟨gr, hc⟩ := h.c
  exact ⟨(cell_of_row _ _ 3 _ _ _ hc).trans rfl, frozen_of_row _ _ _ _ _ hc⟩
theorem PoR.lt {n g m1 m2 gc vb k cap : Nat} {a : Int} {L : List Value} {w : World} (h : PoR n g m1 m2 gc vb k cap a L w) : g < w.heap.size ∧ gc < w.heap.size ∧ vb < w.heap.size ∧ m1 < w.heap.size := by
  obtain ⟨gr, hc⟩ := h.c
  obtain ⟨cur, ho, hr⟩ := h.o
  exact ⟨(Array.getElem?_eq_some_iff.1 h.r).1, (Array.getElem?_eq_some_iff.1 hc).1, (Array.getElem?_eq_some_iff.1 ho).1, h.k1.lt⟩
/-- The range over the map of connections, under way. -/
structure TkR (W : World) (gc m1 r : Nat) (S : Nat → Prop) (left : Lit → Bool) (cnt : Nat) (wr : World) : Prop where
  rg : wr.ranges Tryd.prog 3 ptrN m1 r 1 (mapC gc) left cnt
  lf : ∀ kl, left kl = true → Maps.has (mapC gc) kl = true
  md : Mod S W wr
theorem TkR.then {W : World} {gc m1 r : Nat} {S : Nat → Prop} {left : Lit → Bool} {cnt : Nat} {wr w1 : World} (h : TkR W gc m1 r S left cnt wr) (m : Mod S wr w1) (h1 : ¬ S m1) (h2 : ¬ S r) (hr : r < wr.heap.size) (hm : m1 < wr.heap.size) : TkR W gc m1 r S left cnt w1 := ⟨rangesC_block h.rg (m.block _ hm h1) (m.block _ hr h2), h.lf, h.md.trans m (fun i e => .inl e)⟩
set_option maxHeartbeats 2000000 in
theorem tickN_any (n g m1 m2 gc vb cap s d : Nat) (a : Int) (v0 v1 v2 v3 v4 v5 v6 v7 v8 v9 v10 : Value) (w : World) (hs : s ≤ 1000000) (hd : d ≤ 30) (h10 : ¬ 10 ≤ d)
    (h1 : ∀ v ∈ [v0, v1, v2, v3, v4, v5, v6, v7, v8, v9, v10], v.oneCell' = true) (h : PoR n g m1 m2 gc vb 1 cap a [v0, v1, v2, v3, v4, v5, v6, v7, v8, v9, v10, .int .i64 s] w) :
    Calls Tryd.prog 23 #[.pointer (some ⟨g, 0, none⟩), .int .i64 ((s : Int) + d)] w fun e w' => e = .returned (.slice none 0 0) ∧ PoR n g m1 m2 gc vb 1 cap a [v0, v1, v2, v3, v4, v5, v6, v7, v8, v9, v10, .int .i64 s] w' ∧ Mod (fun k => k = gc) w w' := by
  obtain ⟨L, hL⟩ : ∃ L, L = [v0, v1, v2, v3, v4, v5, v6, v7, v8, v9, v10, Value.int .i64 s] := ⟨_, rfl⟩
  have hl : L.length = 12 := by rw [hL]; rfl
  have one1 : Hid ((#[v0, v1, v2, v3, v4, v5, v6, v7, v8, v9, v10, Value.int .i64 s] : Array Value).all (·.oneCell') = true) := Lib.hid (by
    rw [Array.all_eq_true']
    intro v hv
    rw [show (#[v0, v1, v2, v3, v4, v5, v6, v7, v8, v9, v10, Value.int .i64 s] : Array Value) = ([v0, v1, v2, v3, v4, v5, v6, v7, v8, v9, v10] ++ [Value.int .i64 s]).toArray from rfl, List.mem_toArray, List.mem_append] at hv
    rcases hv with hv | hv
    · exact h1 v hv
    · rw [List.mem_singleton.1 hv]; rfl)
  have DN := Lib.hid (fun gn W hn hr => del1_none vb cap gn s d v0 v1 v2 v3 v4 v5 v6 v7 v8 v9 v10 W hs hd h10 hn hr)
  have TC := Lib.hid (fun gn W hn => tickC_any v0 v1 v2 v3 v4 v5 v6 v7 v8 v9 v10 s d gn W hs hd hn)
  rw [decide_eq_false h10] at TC
  have iC : Hid ((Tryd.prog.info? 124).map (·.size) = some (#[v0, v1, v2, v3, v4, v5, v6, v7, v8, v9, v10, Value.int .i64 s] : Array Value).size) := Lib.hid (by kernel_rfl)
  rw [← hL] at h DN ⊢
  have hI : Hid ((Tryd.prog.info? 124).map (·.size) = some L.length) := Lib.hid (by rw [hl]; kernel_rfl)
  have hLC : L.toArray = #[v0, v1, v2, v3, v4, v5, v6, v7, v8, v9, v10, Value.int .i64 s] := by rw [hL]
  obtain ⟨C, hC⟩ : ∃ C : Array Value, C = #[v0, v1, v2, v3, v4, v5, v6, v7, v8, v9, v10, Value.int .i64 s] := ⟨_, rfl⟩
  rw [← hC] at one1 iC hLC TC
  have HCL := Lib.hid hLC
  have zC : Hid ((oqZ).size = C.size) := Lib.hid (by rw [hC]; rfl)
  have HL := Lib.hid hl
  have HSD : Hid (s ≤ 1000000 ∧ d ≤ 30) := Lib.hid ⟨hs, hd⟩
  have MD := Lib.hid (fun W hr => madeP_yes g n m1 m2 (.int .i64 1) W hr)
  have ST := Lib.hid (fun W => sort1_any none 0 0 W (by omega))
  obtain ⟨W1, hW1⟩ : ∃ W1, W1 = w.alloc (.cells #[.int .i64 ((s : Int) + d)] 3) := ⟨_, rfl⟩
  have b1 : Below w.heap.size w W1 := by rw [hW1]; exact Below.alloc (Below.refl _ _) (Nat.le_refl _) _
  have hn1 : W1.heap[w.heap.size]? = some (.cells #[.int .i64 ((s : Int) + d)] 3 (0, 0)) := by rw [hW1]; exact row_new _ rfl
  have P1 := h.on b1
  have c1 : W1.cell? ⟨g, 1, none⟩ = some (.map (some m1)) := (cell_of_row _ _ 1 _ _ _ P1.r).trans rfl
  have HP := Lib.hid P1
  have HB := Lib.hid b1
  have HW1 := Lib.hid hW1
  have HN := Lib.hid hn1
  have hlt := Lib.hid h.lt
  have hno := Lib.hid h.no
  generalize (s : Int) + d = now at *
  clear h P1 b1 hW1 hn1 hL hC hLC hl h10 hs hd h1
  go_enter Tryd.func23, Tryd.ntmps23
  go_wp2_with fail
  rw [← HW1.out]
  refine (MD.out _ HP.out.r).mono ?_
  rintro e w1 ⟨rfl, hw⟩
  rw [hw]
  clear hw MD w1 HW1
  go_wp2_with (at_range; refine wpList_range_own _ rfl _ 104 rfl 3 112 nKey Tryd.underlying104 ptrN m1 1 (mapC gc) rfl HP.out.k1 ?_)
  intro w0 hrg0 hg0 hs0
  have hR0 : TkR W1 gc m1 W1.heap.size (fun k => k = gc) (Maps.has (mapC gc)) (Maps.size (mapC gc)) w0 := ⟨hrg0, fun kl h => h, Mod.grown hg0 (fun k e => by cases e)⟩
  have HR0 := Lib.hid hR0
  have hsW : Hid (g < W1.heap.size ∧ gc < W1.heap.size ∧ vb < W1.heap.size ∧ m1 < W1.heap.size ∧ w.heap.size < W1.heap.size) := Lib.hid (by have := HP.out.lt; have := (Array.getElem?_eq_some_iff.1 HN.out).1; omega)
  have hsz0 : Hid (W1.heap.size < w0.heap.size) := Lib.hid (by omega)
  have HP0 := Lib.hid (HP.out.mod (Mod.grown (S := fun _ => False) hg0 (fun k e => by cases e)) id id id id)
  clear hR0 hrg0 hg0 hs0 c1
  obtain ⟨r, hr⟩ : ∃ r, r = W1.heap.size := ⟨_, rfl⟩
  rw [← hr] at HR0 hsz0 ⊢
  have HRR := Lib.hid hr
  clear hr
  go_wp2_with fail
  go_loopw [6] (fun v6 wr => v6 = .slice none 0 0 ∧ ∃ left cnt, Hid (TkR W1 gc m1 r (fun k => k = gc) left cnt wr) ∧ Hid (PoR n g m1 m2 gc vb 1 cap a L wr) ∧ Hid (r < wr.heap.size)) (fun _ wr => wr.rangeLeft m1 r)
  case atStart => exact ⟨rfl, _, _, HR0, HP0, hsz0⟩
  case round =>
    obtain ⟨rfl, left, cnt, HR, HQ, HZ⟩ := hrel
    rename World => wr
    have hrg := HR.out.rg
    go_wp2_with (at_next; refine wpList_next_ranges _ rfl _ rfl 3 nKey ptrN (fun x : Int => .int .i64 x) mkPn invK_n invV_n m1 r 1 (mapC gc) left cnt rfl hrg ?_ ?_)
    · intro hc0 hl0
      have HF := Lib.hid ((Mod.below (S := fun k => k = gc) HB.out).trans HR.out.md (fun i e => .inl e))
      clear hc0 hl0 hrg HR HR0
      go_wp2_with fail
      refine (ST.out _).mono ?_
      rintro e w2 ⟨rfl, hw⟩
      rw [hw]
      go_wp2_with fail
      go_ret
      exact ⟨rfl, HQ.out, HF.out⟩
    · intro x c kl yv yp w' cnt' hkey hlk hv hat hrg1 hlt1 hgr hsz hen
      have hc : mkPn c = .pointer (some ⟨gc, 0, none⟩) := mapC_elem (HR.out.lf kl hlk) hv hat
      rw [hc] at hen ⊢
      have hq := hsW.out
      have hrr := HRR.out
      have HQ1 := Lib.hid (HQ.out.mod (Mod.grown (S := fun k => k = r) hgr (fun k e => by injection e with e; exact e.symm)) (fun e => by omega) (fun e => by omega) (fun e => by omega) (fun e => by omega))
      have HR1 : Hid (TkR W1 gc m1 r (fun k => k = gc) (fun z => left z && !z.sameKey kl) cnt' w') := Lib.hid ⟨hrg1, fun z hz => HR.out.lf z (by simp at hz; exact hz.1), HR.out.md.trans (Mod.grown (S := fun k => k = r) hgr (fun k e => by injection e with e; exact e.symm)) (fun i e => .inr (by omega))⟩
      have HZ1 : Hid (r < w'.heap.size) := Lib.hid (by have := HZ.out; omega)
      have HLT := Lib.hid hlt1
      have HRG := Lib.hid hrg
      have hcg : w'.cell? ⟨w.heap.size, 0, none⟩ = some (.int .i64 now) := (cell_of_row _ _ 0 _ _ _ (HR1.out.md.row HN.out (fun e => by have := hlt.out; omega))).trans rfl
      have HCG := Lib.hid hcg
      have c3 := HQ1.out.c3.1
      have F1 : loadOq (.pointer (some ⟨vb, 0, none⟩)) w' = .ok (.value (.agg C)) w' := by rw [loadOq_mid (HQ1.out.at HL.out) hI.out, HCL.out]
      have rZ := row_new (w := w') (k := w'.heap.size) (.cells oqZ 124 (0, 0)) rfl
      have r5 := setRow_heap _ _ _ C _ _ rZ
      have q1 : Below w'.heap.size w' ((w'.alloc (.cells oqZ 124)).setRow w'.heap.size C) := Below.setRow (Below.alloc (Below.refl _ _) (Nat.le_refl _) _) (Nat.le_refl _) _
      have zC1 := zC.out
      unfold oqZ at rZ r5 q1 zC1
      have zC2 := Lib.hid zC1
      obtain ⟨W2, hW2⟩ : ∃ W2, W2 = (w'.alloc (.cells #[.int .i64 0, .int .i64 0, .int .i64 0, .int .i64 0, .string ⟨#[]⟩, .int .i64 0, .int .i64 0, .int .i64 0, .string ⟨#[]⟩, .int .i64 0, .int .i64 0, .int .i64 0] 124)).setRow w'.heap.size C := ⟨_, rfl⟩
      rw [← hW2] at r5 q1
      have F2 : loadOq (.pointer (some ⟨w'.heap.size, 0, none⟩)) W2 = .ok (.value (.agg C)) W2 := loadOq_row r5 iC.out
      have TC2 := Lib.hid (TC.out w.heap.size W2 (q1.cell (p := ⟨w.heap.size, 0, none⟩) (World.block_lt_of_cell? w' _ hcg) |>.trans hcg))
      have HW2 := Lib.hid hW2
      have HQ2 := Lib.hid q1
      clear hkey hlk hv hat hrg1 hlt1 hgr hsz hc hq hrr hrg HR HQ HZ HR0 hcg r5 q1 zC1 hW2
      go_wp2_with fail
      go_loopw [6, 29] (fun v6 v29 ws => v6 = .slice none 0 0 ∧ ((v29 = .int .i64 0 ∧ ws = w') ∨ (v29 = .int .i64 1 ∧ Hid (Below w'.heap.size w' ws)))) (fun _ v29 _ => 1 - (intOf v29).toNat)
      case atStart => exact ⟨rfl, .inl ⟨rfl, rfl⟩⟩
      case round =>
        rename World => ws
        obtain ⟨rfl, ⟨rfl, hws⟩ | ⟨rfl, HBB⟩⟩ := hrel
        · rw [hws]
          clear hws ws c3
          go_wp2_with (first
            | (refine wpList_store_row rfl 124 (.tmp 10) (.tmp 32) rfl w'.heap.size C rfl rfl 124 _ rZ iC.out (by first | exact zC2.out | exact zC2.out.symm) one1.out ?_; rw [← HW2.out])
            | fail)
          refine TC2.out.mono ?_
          rintro e w3 ⟨rfl, b3⟩
          have HB3 := Lib.hid (Below.trans HQ2.out (b3.mono HQ2.out.size))
          clear b3
          go_wp2_with fail
          go_roundw
          case rel => exact ⟨rfl, .inr ⟨by go_num, HB3⟩⟩
          case measure => simp [intOf]
        · clear F1 F2 rZ c3
          have HQs := Lib.hid (HQ1.out.on HBB.out)
          have c3 := HQs.out.c3.1
          have D4 := Lib.hid (DN.out w.heap.size ws (HBB.out.cell (p := ⟨w.heap.size, 0, none⟩) (World.block_lt_of_cell? w' _ HCG.out) |>.trans HCG.out) (HQs.out.at HL.out))
          go_wp2_with fail
          refine D4.out.mono ?_
          rintro e w4 ⟨rfl, b4⟩
          have HQ4 := Lib.hid (HQs.out.on b4)
          have z3 := HQ4.out.c3.2
          have c34 := HQ4.out.c3.1
          have M4 : Hid (Mod (fun k => k = gc) w' (w4.setCell ⟨gc, 3, none⟩ (.slice (some ⟨vb, 0, none⟩) 1 cap))) := Lib.hid (((Mod.below (S := fun k => k = gc) HBB.out).then b4).trans (S' := fun k => k = gc) ⟨rfl, rfl, rfl, by simp, fun i _ hn => Below.heap_setCell _ _ _ _ hn⟩ (fun i e => .inl e))
          have HQ5 : Hid (PoR n g m1 m2 gc vb 1 cap a L (w4.setCell ⟨gc, 3, none⟩ (.slice (some ⟨vb, 0, none⟩) 1 cap))) := Lib.hid (by
            have h := HQ4.out
            obtain ⟨gr, hc⟩ := h.c
            obtain ⟨cur, ho, hr⟩ := h.o
            obtain ⟨n1, n2, n3, n4, n5, n6⟩ := h.no
            exact ⟨(Below.heap_setCell _ _ _ _ (by show g ≠ gc; omega)).trans h.r, ⟨gr, row_set (i := 3) _ hc⟩, nmap_block h.k1 (Below.heap_setCell _ _ _ _ (by show m1 ≠ gc; omega)), ⟨cur, (Below.heap_setCell _ _ _ _ (by show vb ≠ gc; omega)).trans ho, hr⟩, h.no⟩)
          have HR5 : Hid (TkR W1 gc m1 r (fun k => k = gc) (fun z => left z && !z.sameKey kl) cnt' (w4.setCell ⟨gc, 3, none⟩ (.slice (some ⟨vb, 0, none⟩) 1 cap))) := Lib.hid (HR1.out.then M4.out (fun e => by have := hno.out; omega) (fun e => by have := hsW.out; have := HRR.out; omega) HZ1.out (by have := hsW.out; have := HR1.out.md.size; omega))
          have HZ5 : Hid (r < (w4.setCell ⟨gc, 3, none⟩ (.slice (some ⟨vb, 0, none⟩) 1 cap)).heap.size) := Lib.hid (by have := M4.out.size; have := HZ1.out; omega)
          clear b4
          go_wp2_with fail
          go_roundw
          case rel => exact ⟨rfl, _, _, HR5, HQ5, HZ5⟩
          case measure =>
            have h1 := HRG.out.left_eq
            have h2 : World.rangeLeft _ m1 r = cnt' := HR5.out.rg.left_eq
            have h3 := HLT.out
            rw [h1]
            refine Nat.lt_of_le_of_lt (Nat.le_of_eq ?_) h3
            exact h2
end Go.Proofs.YtknpkifhkefikaaDoor
