/-
  The walk of PoolTimes.
-/
import Derived.Test.YtknpkifhkefikaaDoorPtM
import Derived.Test.YtknpkifhkefikaaDoorWpA
import Derived.BigQuiet
namespace Go.Proofs.YtknpkifhkefikaaDoor
open Go.RowKit Go.Maps
set_option linter.unusedVariables false
set_option maxRecDepth 100000
attribute [local go_sem ↓] exec_loadQu

theorem eqN1_any (A1 A2 : Option Addr) (c1 c2 : Nat) (x : Int) (w : World) (h1 : Nts w A1 [x]) (h2 : Nts w A2 [x]) :
    Calls Tryd.prog 25 #[.slice A1 1 c1, .slice A2 1 c2] w fun e w' => e = .returned (.bool true) ∧ Below w.heap.size w w' := by
  obtain ⟨g1, o1, rfl, hc1⟩ := h1 (by simp)
  obtain ⟨g2, o2, rfl, hc2⟩ := h2 (by simp)
  have p1 := hc1 0 (by simp)
  have p2 := hc2 0 (by simp)
  simp only [List.getElem_cons_zero, Nat.add_zero] at p1 p2
  clear h1 h2 hc1 hc2
  go_enter Tryd.func25, Tryd.ntmps25
  go_wp2_with fail
  go_loopw [13] (fun v wr => (v = .int .i64 0 ∧ wr = w) ∨ (v = .int .i64 1 ∧ Hid (Below w.heap.size w wr))) (fun v _ => 1 - (intOf v).toNat)
  case atStart => exact .inl ⟨rfl, rfl⟩
  case round =>
    rename World => wr
    obtain ⟨rfl, hw⟩ | ⟨rfl, HB⟩ := hrel
    · rw [hw]
      clear hw wr
      go_wp2_with fail
      go_quiet (fail)
      have HB := Lib.hid (below_drewN (Below.refl w.heap.size w) 1)
      go_wp2_with fail
      go_roundw
      case rel => exact .inr ⟨by go_num, Lib.hid (below_drewN (Below.refl _ _) _)⟩
      case measure => simp [intOf]
    · go_wp2_with fail
      go_ret
      exact ⟨rfl, HB.out⟩
theorem mod_of (i : Int) (m : Nat) (hm : 0 < m) (hm2 : m ≤ 1000000) : ∃ a : Nat, wrap64 ((IntKind.u64.wrap i).tmod m) = a ∧ a < m := by
  have h0 : 0 ≤ IntKind.u64.wrap i := by rw [IntKind.wrap_u64]; omega
  rw [Int.tmod_eq_emod_of_nonneg h0]
  generalize IntKind.u64.wrap i = u at *
  have h1 := Int.emod_nonneg u (b := (m : Int)) (by omega)
  have h2 := Int.emod_lt_of_pos u (b := (m : Int)) (by omega)
  generalize u % (m : Int) = r at *
  refine ⟨r.toNat, ?_, by omega⟩
  unfold wrap64
  omega
/-- The statement's question. -/
def q2 : Qu := ⟨[1, 97, 0], 1, 1⟩
theorem can_q2n : can [1, 97, 0] = true := by decide +kernel
theorem can_q2 (id : Int) (h0 : 0 ≤ id) (h1 : id ≤ 65535) : canM (qMsg id q2) = true := by
  have h2 : canQ q2 = true := by simp [canQ, q2, can_q2n]
  have h3 : canHd (qMsg id q2).h 1 0 0 0 = true := by simp [canHd, canH, qMsg]; omega
  show (canHd (qMsg id q2).h 1 0 0 0 && ([q2].all canQ && ([] : List Rr).all canR)) = true
  rw [h3]
  simp [h2]
theorem enc_q2 (id : Int) : ∃ X, encX (qMsg id q2) = some X ∧ X.b.length = 19 := by
  obtain ⟨X0, hX0⟩ : ∃ X0, X0 = headM (qMsg id q2) := ⟨_, rfl⟩
  have h0 : X0.b.length = 12 := by rw [hX0]; exact headB_len _ _ _ _ _
  have hP : ∀ m, X0.P m = none := by rw [hX0]; exact fun m => rfl
  have h1 : (quW q2 X0).b.length = 19 := by
    obtain ⟨e1, -⟩ := nmW_first can_q2n hP (by omega)
    unfold quW; rw [twW_len, twW_len]; show (nmW [1, 97, 0] X0).b.length + 2 + 2 = 19; rw [e1, h0]; rfl
  refine ⟨quW q2 X0, ?_, h1⟩
  unfold encX
  rw [← hX0]
  show ((partsW quW [q2] X0).bind (partsW rrW [])) = _
  rw [partsW, if_neg (by omega)]
  simp [partsW]
theorem PoQ.por {n g m1 m2 gc vb cap : Nat} {a : Int} {L : List Value} {w : World} (h : PoQ n g m1 m2 gc vb cap a L w) : PoR n g m1 m2 gc vb 1 cap a L w ∧ 1 ≤ cap ∧ cap ≤ maxLen := by
  obtain ⟨cur, h1, h2, h3, h4, h5⟩ := h.o
  exact ⟨⟨h.r, h.c, h.k1, ⟨cur, h1, h5⟩, h.no⟩, h2, h3⟩
set_option maxHeartbeats 4000000 in
theorem PoolTimes_any (x0 : Value) (x1 x2 draw nw gn : Int) (w : World) (hk : Masks w) : Calls Tryd.prog 7 #[.agg #[x0, .int .i64 x1, .int .i64 x2], .int .i64 draw, .int .i64 nw, .int .i64 gn] w fun e w' => e = .returned (.bool true) ∧ Below w.heap.size w w' := by
  obtain ⟨s, hs, hs1⟩ := mod_of nw 1000000 (by omega) (by omega)
  obtain ⟨d, hd, hd1⟩ := mod_of gn 30 (by omega) (by omega)
  obtain ⟨dr, hdr, hdr1⟩ := draw_of draw
  rw [show ((1000000 : Nat) : Int) = 1000000 from rfl] at hs
  rw [show ((30 : Nat) : Int) = 30 from rfl] at hd
  have NW := Lib.hid (fun W => NewN_any W)
  obtain ⟨W0, hW0⟩ : ∃ W0, W0 = w.alloc (.cells #[x0, .int .i64 x1, .int .i64 x2] 44) := ⟨_, rfl⟩
  have r0 : W0.heap[w.heap.size]? = some (.cells #[x0, .int .i64 x1, .int .i64 x2] 44 (0, 0)) := by rw [hW0]; exact row_new _ rfl
  have b0 : Below w.heap.size w W0 := by rw [hW0]; exact Below.alloc (Below.refl _ _) (Nat.le_refl _) _
  have HR0 := Lib.hid r0
  have HB0 := Lib.hid b0
  have HW0 := Lib.hid hW0
  have HK := Lib.hid hk
  have HDR := Lib.hid hdr
  have HS1 := Lib.hid hs1
  have HD1 := Lib.hid hd1
  have HDR1 := Lib.hid hdr1
  have hsd : IntKind.i64.wrap ((s : Int) + (d : Int)) = (s : Int) + (d : Int) := by rw [IntKind.wrap_i64]; omega
  clear hW0 r0 b0 hk hdr hs1 hd1 hdr1
  go_enter Tryd.func7, Tryd.ntmps7
  go_wp2_with fail
  rw [← HW0.out]
  refine (NW.out _).mono ?_
  rintro e w1 ⟨rfl, n1, b1, z1⟩
  have P := Lib.hid (NewP_any _ _ _ _ w1 n1)
  have HN1 := Lib.hid n1
  have HB1 := Lib.hid (Below.trans HB0.out (b1.mono HB0.out.size))
  have HR1 := Lib.hid ((b1.block _ (Array.getElem?_eq_some_iff.1 HR0.out).1).trans HR0.out)
  have HZ1 := Lib.hid z1
  clear n1 b1 z1 NW
  go_wp2_with fail
  refine P.out.mono ?_
  rintro e w2 ⟨rfl, p2, b2⟩
  have hMk : ∀ W, Mod (SP (W0.heap.size + 1) W0.heap.size w1.heap.size (w1.heap.size + 1)) w2 W → Masks W := fun W hM => HK.out.on (Below.trans (Below.trans HB1.out (b2.mono HB1.out.size)) (hM.toBelow (by have := b2.size; have := HB1.out.size; omega) (fun i hi => by have := HZ1.out; have := HB0.out.size; unfold SP at hi; omega)))
  have HB2 := Lib.hid (Below.trans HB1.out (b2.mono HB1.out.size))
  have r2 := (b2.block _ (Array.getElem?_eq_some_iff.1 HR1.out).1).trans HR1.out
  have hs2 := b2.size
  have hs0 : w.heap.size < W0.heap.size := (Array.getElem?_eq_some_iff.1 HR0.out).1
  obtain ⟨W3, hW3⟩ : ∃ W3, W3 = ((w2.setCell ⟨w.heap.size, 0, none⟩ (.string (bs [1, 97, 0]))).setCell ⟨w.heap.size, 1, none⟩ (.int .i64 1)).setCell ⟨w.heap.size, 2, none⟩ (.int .i64 1) := ⟨_, rfl⟩
  have r3 : W3.heap[w.heap.size]? = some (.cells #[.string (bs [1, 97, 0]), .int .i64 1, .int .i64 1] 44 (0, 0)) := by
    rw [hW3]
    exact row_set (i := 2) _ (row_set (i := 1) _ (row_set (i := 0) _ r2))
  have M3 : Mod (fun k => k = w.heap.size) w2 W3 := by
    rw [hW3]
    exact ⟨rfl, rfl, rfl, by simp, fun i _ hn => (Below.heap_setCell _ _ _ _ hn).trans ((Below.heap_setCell _ _ _ _ hn).trans (Below.heap_setCell _ _ _ _ hn))⟩
  have HM3 := Lib.hid M3
  have HR3 := Lib.hid r3
  have HW3 := Lib.hid hW3
  have HR2 := Lib.hid r2
  have z0 : w2.frozen? ⟨w.heap.size, 0, none⟩ = false := frozen_of_row _ _ _ _ _ r2
  have HB3 := Lib.hid (Below.trans HB2.out (M3.toBelow (B := w.heap.size) HB2.out.size (fun i e => by omega)))
  have HMK : Hid (∀ W, Mod (SP (W0.heap.size + 1) W0.heap.size w1.heap.size (w1.heap.size + 1)) W3 W → Masks W) := Lib.hid (fun W hM => HK.out.on (Below.trans HB3.out (hM.toBelow HB3.out.size (fun i hi => by have := HZ1.out; have := HB0.out.size; unfold SP at hi; omega))))
  have PF3 : PoF (w1.heap.size + 2) (W0.heap.size + 1) w1.heap.size (w1.heap.size + 1) W3 := ⟨M3.row p2.r (fun e => by have := HZ1.out; omega), nmap_block p2.k1 (M3.block _ p2.k1.lt (fun e => by have := HZ1.out; omega)), nmap_block p2.k2 (M3.block _ p2.k2.lt (fun e => by have := HZ1.out; omega))⟩
  have NS3 : NetS (W0.heap.size + 1) W0.heap.size 0 0 [] W3 := (HN1.out.below b2).mod M3 (fun k hk e => by
    rcases hk with e1 | e1 | ⟨c, hc, _⟩
    · omega
    · omega
    · cases hc)
  have AK := Lib.hid (askT_any (W0.heap.size + 1) W0.heap.size (w1.heap.size + 2) w1.heap.size (w1.heap.size + 1) 9 (by omega) q2 draw s dr HDR.out (by omega) (by have := HDR1.out; omega) (by simp [q2]) W3 NS3 PF3 (by have := HZ1.out; omega) (by have := HZ1.out; omega) (by omega) (by omega) (HMK.out W3 (Mod.refl _ _)) HMK.out can_q2 (fun id => (enc_q2 id).choose) (fun id => (enc_q2 id).choose_spec.1) (fun id => by rw [(enc_q2 id).choose_spec.2]; omega))
  simp only [quC, quL, asL, q2] at AK
  have F3 : loadQu (.pointer (some ⟨w.heap.size, 0, none⟩)) (((w2.setCell ⟨w.heap.size, 0, none⟩ (.string { data := #[1, 97, 0] })).setCell ⟨w.heap.size, 1, none⟩ (.int .i64 1)).setCell ⟨w.heap.size, 2, none⟩ (.int .i64 1)) = .ok (.value (.agg #[.string (bs [1, 97, 0]), .int .i64 1, .int .i64 1])) (((w2.setCell ⟨w.heap.size, 0, none⟩ (.string { data := #[1, 97, 0] })).setCell ⟨w.heap.size, 1, none⟩ (.int .i64 1)).setCell ⟨w.heap.size, 2, none⟩ (.int .i64 1)) := loadQu_row (row_set (i := 2) _ (row_set (i := 1) _ (row_set (i := 0) _ r2))) info_qu
  have HS0 := Lib.hid hs0
  have HS2 := Lib.hid hs2
  have HSW : Hid (w1.heap.size + 2 ≤ w2.heap.size) := Lib.hid (by have := (Array.getElem?_eq_some_iff.1 p2.r).1; omega)
  have d0 : w2.cell? ⟨w.heap.size, 0, none⟩ = some x0 := (cell_of_row _ _ 0 _ _ _ r2).trans rfl
  have d1 : w2.cell? ⟨w.heap.size, 1, none⟩ = some (.int .i64 x1) := (cell_of_row _ _ 1 _ _ _ r2).trans rfl
  have d2 : w2.cell? ⟨w.heap.size, 2, none⟩ = some (.int .i64 x2) := (cell_of_row _ _ 2 _ _ _ r2).trans rfl
  have z1 : w2.frozen? ⟨w.heap.size, 1, none⟩ = false := frozen_of_row _ _ _ _ _ r2
  have z2 : w2.frozen? ⟨w.heap.size, 2, none⟩ = false := frozen_of_row _ _ _ _ _ r2
  clear P p2 hMk b2 r2 r3 M3 hW3 PF3 NS3 hs0 hs2
  go_wp2_with fail
  rw [show ((w2.setCell ⟨w.heap.size, 0, none⟩ (.string { data := #[1, 97, 0] })).setCell ⟨w.heap.size, 1, none⟩ (.int .i64 1)).setCell ⟨w.heap.size, 2, none⟩ (.int .i64 1) = W3 from HW3.out.symm]
  refine AK.out.mono ?_
  rintro e w4 ⟨rfl, ⟨S, hS, M4⟩, QA, gx, v4, N4, FT4⟩
  obtain ⟨gc, vb, cap, ln, hln, hgc, hvb, hPQ⟩ := QA
  obtain ⟨hPR, hc1, hc2⟩ := hPQ.por
  clear hPQ N4 FT4 AK F3
  obtain ⟨w5, hw5⟩ : ∃ w5, w5 = w4.alloc (.cells #[.int .i64 1, .int .i64 1, .int .i64 dr, .int .i64 9, .string (bs [1, 97, 0]), .int .i64 1, .int .i64 1] 51) := ⟨_, rfl⟩
  have b45 : Below w4.heap.size w4 w5 := by rw [hw5]; exact Below.alloc (Below.refl _ _) (Nat.le_refl _) _
  have r5 : w5.heap[w4.heap.size]? = some (.cells #[.int .i64 1, .int .i64 1, .int .i64 dr, .int .i64 9, .string (bs [1, 97, 0]), .int .i64 1, .int .i64 1] 51 (0, 0)) := by rw [hw5]; exact row_new _ rfl
  have hsz3 : W3.heap.size = w2.heap.size := by rw [HW3.out]; simp
  have hs3 : w.heap.size < W3.heap.size := by have := HS0.out; have := HZ1.out; have := HSW.out; omega
  have rq4 : w4.heap[w.heap.size]? = some (.cells #[.string (bs [1, 97, 0]), .int .i64 1, .int .i64 1] 44 (0, 0)) := M4.row HR3.out (fun e => by have h9 := hS _ e; have := HS0.out; have := HZ1.out; unfold SP at h9; omega)
  have rq5 := (b45.block _ (Array.getElem?_eq_some_iff.1 rq4).1).trans rq4
  have L1 : loadQu (.pointer (some ⟨w.heap.size, 0, none⟩)) w5 = .ok (.value (.agg #[.string (bs [1, 97, 0]), .int .i64 1, .int .i64 1])) w5 := loadQu_row rq5 info_qu
  have L2 : loadQu (.pointer (some ⟨w4.heap.size, 4, none⟩)) w5 = .ok (.value (.agg #[.string (bs [1, 97, 0]), .int .i64 1, .int .i64 1])) w5 := loadQu_mid (l := quL ⟨[1, 97, 0], 1, 1⟩) (fun j v hv => by
    rw [cell_of_row _ _ (4 + j) _ _ _ r5]
    match j, hv with
    | 0, hv => exact hv
    | 1, hv => exact hv
    | 2, hv => exact hv
    | j + 3, hv => simp [quL] at hv) info_qu
  have c53 := (cell_of_row _ _ 3 _ _ _ r5).trans rfl
  have HP5 := Lib.hid (hPR.on b45)
  have B4 : Below w.heap.size w w4 := Below.trans HB3.out (M4.toBelow (by omega) (fun i hi => by have h9 := hS i hi; have := HZ1.out; have := HS0.out; unfold SP at h9; omega))
  have HB5 := Lib.hid (Below.trans B4 (b45.mono B4.size))
  have HGC := Lib.hid (show w.heap.size ≤ gc ∧ w.heap.size ≤ vb by omega)
  have HGV := Lib.hid (show gc ≠ w4.heap.size ∧ vb ≠ w4.heap.size by have := hPR.lt; omega)
  have HR5 := Lib.hid r5
  have HW5 := Lib.hid hw5
  have HC1 := Lib.hid hc1
  have HC2 := Lib.hid hc2
  clear hw5 b45 r5 hsz3 hs3 rq4 rq5 hPR hc1 hc2 hgc hvb M4 hS B4 d0 d1 d2 z0 z1 z2
  subst hln
  have h1 : ∀ v ∈ [Value.int .i64 1, .int .i64 1, .int .i64 dr, .int .i64 ((9 : Nat) : Int), .string (bs [1, 97, 0]), .int .i64 1, .int .i64 1, .int .i64 dr, .string (bs (lower [1, 97, 0])), .int .i64 1, .int .i64 1], v.oneCell' = true := by
    intro v hv
    simp at hv
    rcases hv with rfl | rfl | rfl | rfl | rfl | rfl | rfl | rfl | rfl | rfl | rfl <;> rfl
  by_cases h10 : 10 ≤ d
  · have h10' : ¬ (d : Int) < 10 := by omega
    have TK := Lib.hid (tickL_any (W0.heap.size + 1) (w1.heap.size + 2) w1.heap.size (w1.heap.size + 1) gc vb cap s d 9 (.int .i64 1) (.int .i64 dr) (.int .i64 ((9 : Nat) : Int)) (.string (bs [1, 97, 0])) (.int .i64 1) (.int .i64 1) (.int .i64 dr) (.string (bs (lower [1, 97, 0]))) (.int .i64 1) (.int .i64 1) w5 (by have := HS1.out; omega) (by have := HD1.out; omega) h10 HC1.out HC2.out h1 HP5.out)
    clear h10 h1
    go_upto_region 7 with fail
    rw [← HW5.out]
    go_wp2_with fail
    refine TK.out.mono ?_
    rintro e w6 ⟨⟨v6, rfl, o6⟩, p6, M6⟩
    have hs6 := M6.size
    have r6 := M6.row HR5.out (fun e => by have := HGV.out; omega)
    have B6 := Lib.hid (HB5.out.trans (M6.toBelow HB5.out.size (fun i e => by have := HGC.out; omega)))
    obtain ⟨A6, c6, hv6, o6n, -, -⟩ := o6.nts
    simp only [List.length_cons, List.length_nil, Nat.zero_add] at hv6
    subst hv6
    have c60 := (cell_of_row _ _ 0 _ _ _ r6).trans rfl
    obtain ⟨W7, hW7⟩ : ∃ W7, W7 = w6.alloc (.cells #[.int .i64 1] 3) := ⟨_, rfl⟩
    have b67 : Below w6.heap.size w6 W7 := by rw [hW7]; exact Below.alloc (Below.refl _ _) (Nat.le_refl _) _
    have n7 : Nts W7 (some ⟨w6.heap.size, 0, none⟩) [1] := fun _ => ⟨_, _, rfl, fun j hj => by
      have hj0 : j = 0 := by simpa using hj
      subst hj0
      rw [hW7]
      exact (cell_of_row _ _ 0 _ _ _ (row_new (w := w6) (.cells #[.int .i64 1] 3 (0, 0)) rfl)).trans rfl⟩
    have EQ := Lib.hid (eqN1_any A6 (some ⟨w6.heap.size, 0, none⟩) c6 1 1 W7 (o6n.on b67) n7)
    have HP7 := Lib.hid (p6.on b67)
    have HB7 := Lib.hid (Below.trans B6.out (b67.mono B6.out.size))
    have HW7 := Lib.hid hW7
    have OP := Lib.hid (fun W h => openZ_any (W0.heap.size + 1) (w1.heap.size + 2) w1.heap.size (w1.heap.size + 1) gc vb cap 9 W h HP5.out.no.2.2.1)
    clear hW7 b67 n7 o6 o6n p6 M6 r6 hs6 TK
    go_wp2_with fail
    rw [← HW7.out]
    refine EQ.out.mono ?_
    rintro e w8 ⟨rfl, b8⟩
    have OP8 := Lib.hid (OP.out w8 (HP7.out.on b8))
    have HB8 := Lib.hid (Below.trans HB7.out (b8.mono HB7.out.size))
    clear b8
    go_wp2_with fail
    refine OP8.out.mono ?_
    rintro e w9 ⟨rfl, b9⟩
    have HB9 := Lib.hid (Below.trans HB8.out (b9.mono HB8.out.size))
    clear b9
    go_wp2_with fail
    go_ret
    exact ⟨rfl, HB9.out⟩
  · have h10' : (d : Int) < 10 := by omega
    have TK := Lib.hid (tickN_any (W0.heap.size + 1) (w1.heap.size + 2) w1.heap.size (w1.heap.size + 1) gc vb cap s d 9 (.int .i64 1) (.int .i64 1) (.int .i64 dr) (.int .i64 ((9 : Nat) : Int)) (.string (bs [1, 97, 0])) (.int .i64 1) (.int .i64 1) (.int .i64 dr) (.string (bs (lower [1, 97, 0]))) (.int .i64 1) (.int .i64 1) w5 (by have := HS1.out; omega) (by have := HD1.out; omega) h10 h1 HP5.out)
    clear h10 h1
    go_upto_region 7 with fail
    rw [← HW5.out]
    go_wp2_with fail
    refine TK.out.mono ?_
    rintro e w6 ⟨rfl, p6, M6⟩
    have HP6 := Lib.hid p6
    have B6 := Lib.hid (HB5.out.trans (M6.toBelow HB5.out.size (fun i e => by have := HGC.out; omega)))
    have OP := Lib.hid (fun W h => openN_any (W0.heap.size + 1) (w1.heap.size + 2) w1.heap.size (w1.heap.size + 1) gc vb cap 9 1 1 dr 9 s ⟨[1, 97, 0], 1, 1⟩ (by simp) W h)
    clear p6 M6 TK
    go_wp2_with fail
    refine (OP.out _ HP6.out).mono ?_
    rintro e w7 ⟨⟨A, c, rfl⟩, b7⟩
    have HB7 := Lib.hid (Below.trans B6.out (b7.mono B6.out.size))
    clear b7
    go_wp2_with fail
    go_ret
    exact ⟨rfl, HB7.out⟩
end Go.Proofs.YtknpkifhkefikaaDoor
