/-
  The landed set of some records.
-/
import Derived.Test.YtbeggckkgaoacaaLg
import Derived.Test.YtbeggckkgaoacaaRrB
import Derived.Test.YtbeggckkgaoacaaOrD
import Derived.Deep.RegionHeld3
namespace Go.Proofs.Ytbeggckkgaoacaa
open Go.RowKit
set_option linter.unusedVariables false
set_option maxRecDepth 100000

noncomputable def storeSt (v u : Value) (w : World) : Result Next := ((Instr.storeAt 29 v u).run Try.prog w).andThen fun _ w' => .ok .skip w'
theorem exec_storeSt (ev : Operand → Value) (d : Option Tmp) (x y : Operand) (t : TypeId) (p : String) (f : Array Edge) (gd : Option (Nat × Bool)) (w : World) : (execOp ev { dst := d, op := .store 29 x y, type := t, pos := p, after := f, guard := gd }).run Try.prog w = storeSt (ev x) (ev y) w := by
  unfold execOp storeSt
  simp only [Sem.run_bind, Sem.run_pure]
theorem storeSt_row {w1 : World} {g : Nat} {C D : Array Value} (h : w1.heap[g]? = some (.cells C 29 (0, 0))) (hC : (Try.prog.info? 29).map (·.size) = some D.size) (hs : C.size = D.size) (h1 : D.all (·.oneCell') = true) : storeSt (.pointer (some ⟨g, 0, none⟩)) (.agg D) w1 = .ok .skip (w1.setRow g D) := by
  unfold storeSt
  simp only [Instr.storeAt, Instr.sureAddr, Sem.run_bind, Sem.run_pure, Result.andThen_ok, run_storeVar_row w1 g 29 29 C D h hC hs h1]

structure SoX (w0 : World) (b6 b11 B1 : Nat) (C : Array Value) (v : Value) (L : List Bs) (W : World) : Prop where
  r6 : ∃ C0 : Array Value, C0.size = 8 ∧ W.heap[b6]? = some (.cells C0 29 (0, 0))
  r11 : W.heap[b11]? = some (.cells C 39 (0, 0))
  nx : NxA w0 W B1 v L
  bel : Below w0.heap.size w0 W
  le : w0.heap.size ≤ b6
section
variable {w0 : World} {b6 b11 B1 : Nat} {C : Array Value} {v : Value} {L : List Bs} {W W' : World}
theorem SoX.on (h : SoX w0 b6 b11 B1 C v L W) (hB : Below W.heap.size W W') : SoX w0 b6 b11 B1 C v L W' := by
  obtain ⟨C0, h1, h2⟩ := h.r6
  exact ⟨⟨C0, h1, (hB.block _ (Array.getElem?_eq_some_iff.1 h2).1).trans h2⟩, (hB.block _ (Array.getElem?_eq_some_iff.1 h.r11).1).trans h.r11, h.nx.below hB, Below.trans h.bel (hB.mono h.bel.size), h.le⟩
theorem SoX.drew (h : SoX w0 b6 b11 B1 C v L W) : SoX w0 b6 b11 B1 C v L W.drew := h.on (Below.drew (Below.refl _ _))
theorem SoX.set (h : SoX w0 b6 b11 B1 C v L W) {D : Array Value} (hD : D.size = 8) : SoX w0 b6 b11 B1 C v L (W.setRow b6 D) := by
  obtain ⟨C0, h1, h2⟩ := h.r6
  have hne : b11 ≠ b6 := fun e => by
    have := h.r11
    rw [e, h2] at this
    injection this with this
    injection this with _ this _
    exact absurd this (by decide)
  have hg := grownBy_setRow (w := W) (g := b6) D
  obtain ⟨xs, o, r⟩ := h.nx
  refine ⟨⟨D, hD, setRow_heap _ _ _ D _ _ h2⟩, (setRow_other W b6 b11 D hne).trans h.r11, ⟨xs, own_keptE o hg (elsewhere_cells h2 (by decide)), r⟩, Below.setRow h.bel h.le _, h.le⟩
theorem SoX.store (h : SoX w0 b6 b11 B1 C v L W) {D : Array Value} (hD : D.size = 8) (h1 : D.all (·.oneCell') = true) : storeSt (.pointer (some ⟨b6, 0, none⟩)) (.agg D) W = .ok .skip (W.setRow b6 D) := by
  obtain ⟨C0, h2, h3⟩ := h.r6
  exact storeSt_row h3 (by rw [hD]; exact info_st) (by rw [h2, hD]) h1
end
theorem NxA.byss {w0 w : World} {B1 : Nat} {v : Value} {L : List Bs} (h : NxA w0 w B1 v L) (hB : Below w0.heap.size w0 w) : ∃ A c, v = .slice A L.length c ∧ Byss w A L ∧ L.length ≤ c ∧ c ≤ 9223372036854775807 ∧ (A = none → c = 0) := by
  obtain ⟨xs, a, b⟩ := h
  exact (RowsA.byss a b hB).2
attribute [local go_sem ↓] exec_storeSt
theorem lastN_le (r : Rr) : lastN r.ttl ≤ 86400 := (last_bdN r.ttl).2

set_option maxHeartbeats 4000000 in
set_option maxRecDepth 100000 in
theorem setOf_any (A : Option Addr) (G : List Rr) (c : Nat) (rank now : Int) (w : World) (hS : Rs w A G) (hg : 0 < G.length) (hl : (G.length + 1) * 64 ≤ 140737488351232) (hd : ∀ r ∈ G, r.d.length ≤ 140737488351232) :
    Calls Try.prog 34 #[.slice A G.length c, .int .i64 rank, .int .i64 now] w fun e w' => ∃ A' c', e = .returned (.agg (stC (setP rank now G) A' c')) ∧ OwnL w' w.heap.size (.slice A' (setP rank now G).ds.length c') (setP rank now G).ds ∧ Below w.heap.size w w' := by
  obtain ⟨n, hn⟩ : ∃ n, n = G.length := ⟨_, rfl⟩
  rw [← hn]
  rw [← hn] at hl hg
  have HN := Lib.hid hn
  have HS := Lib.hid hS
  have HD := Lib.hid hd
  have r6 := row_new (w := w) (k := w.heap.size) (.cells stZ 29 (0, 0)) rfl
  have b6 : Below w.heap.size w (w.alloc (.cells stZ 29)) := Below.alloc (Below.refl _ _) (Nat.le_refl _) _
  rw [stZ_lit] at r6 b6
  have R6 := Lib.hid r6
  have B6 := Lib.hid b6
  have HSW := Lib.hid (show (w.alloc (.cells #[.string ⟨#[]⟩, .int .i64 0, .int .i64 0, .int .i64 0, .int .i64 0, .int .i64 0, .string ⟨#[]⟩, .slice none 0 0] 29)).heap.size = w.heap.size + 1 by simp)
  clear hn hS hd r6 b6
  go_enter Try.func34, Try.ntmps34
  go_wp2_with fail
  generalize w.alloc (.cells #[.string ⟨#[]⟩, .int .i64 0, .int .i64 0, .int .i64 0, .int .i64 0, .int .i64 0, .string ⟨#[]⟩, .slice none 0 0] 29) = W0 at *
  go_loopw [7, 8, 14] (fun v7 v8 v14 wr => ∃ (k : Nat) (ls : Int), v7 = .int .i64 ls ∧ v14 = .int .i64 k ∧ k ≤ n ∧ Hid (ls = leastP 86400 (G.take k)) ∧ Hid (NxA w wr W0.heap.size v8 ((G.take k).map (·.d))) ∧ Below W0.heap.size W0 wr) (fun _ _ v14 _ => n - (intOf v14).toNat)
  case atStart => exact ⟨0, 86400, rfl, rfl, by omega, Lib.hid rfl, Lib.hid (NxA.nil _ _ _), Below.refl _ _⟩
  case round =>
    obtain ⟨k, ls, rfl, rfl, hk, HL, HX, hB⟩ := hrel
    rename World => wr
    by_cases hlt : k < n
    · have hlt' : (k : Int) < (n : Int) := by omega
      have kL : k < G.length := by have := HN.out; omega
      obtain ⟨g1, o1, rfl, hc1⟩ := id HS.out (by omega)
      obtain ⟨a1, d1, D1, R1⟩ := hc1 k kL
      have hBw : Below w.heap.size w wr := Below.trans B6.out (hB.mono B6.out.size)
      have R1' := range_on R1 hBw
      have htk : G.take (k + 1) = G.take k ++ [G[k]] := List.take_succ_eq_append_getElem kL
      have hls : leastP 86400 (G.take (k + 1)) = min ls (lastN (G[k]).ttl) := by rw [htk, least_snoc, ← HL.out]
      have hml : ((G.take k).map (·.d)).length = k := by rw [List.length_map, List.length_take]; omega
      have hmp : (G.take (k + 1)).map (·.d) = (G.take k).map (·.d) ++ [(G[k]).d] := by rw [htk, List.map_append]; rfl
      generalize (G.take k).map (·.d) = acc at *
      generalize G[k] = x at *
      have hsz := hB.size
      have i1 : Hid ((Try.prog.info? 39).map (·.size) = some (rrC x a1 d1).size) := Lib.hid info_rr
      have j1 : Hid ((Try.prog.info? 39).map (·.size) = some (rrL x a1 d1).length) := Lib.hid info_rr
      have one1 := Lib.hid (rr_one x a1 d1)
      have z1 : Hid ((rrZ).size = (rrC x a1 d1).size) := Lib.hid rfl
      have rZ := row_new (w := wr) (k := wr.heap.size) (.cells rrZ 39 (0, 0)) rfl
      have r5 := setRow_heap _ _ _ (rrC x a1 d1) _ _ rZ
      have q1 : Below wr.heap.size wr ((wr.alloc (.cells rrZ 39)).setRow wr.heap.size (rrC x a1 d1)) := Below.setRow (Below.alloc (Below.refl _ _) (Nat.le_refl _) _) (Nat.le_refl _) _
      rw [rrZ_lit] at rZ r5 q1 z1
      obtain ⟨W1, hW1⟩ : ∃ W1, W1 = (wr.alloc (.cells #[.string ⟨#[]⟩, .int .i64 0, .int .i64 0, .int .i64 0, .slice none 0 0] 39)).setRow wr.heap.size (rrC x a1 d1) := ⟨_, rfl⟩
      rw [← hW1] at r5 q1
      have HW1 := Lib.hid hW1
      obtain ⟨-, -, -, c3, c4⟩ := rr_cell r5
      have nx1 := HX.out.below q1
      have bW1 := Below.trans hB (q1.mono hsz)
      obtain ⟨xn, hxn⟩ : ∃ xn, xn = x.d.length := ⟨_, rfl⟩
      rw [← hxn] at c4
      have HXN := Lib.hid hxn
      have NX1 := Lib.hid nx1
      have BW1 := Lib.hid bW1
      have S1 : Hid (Sl w a1 d1 x.d) := Lib.hid ⟨D1.bys, D1.le, D1.max, D1.nil⟩
      have HMP := Lib.hid hmp
      have HLS := Lib.hid hls
      have HLB : Hid ((acc.length + 1) * 24 ≤ 140737488355328) := Lib.hid (by omega)
      have LS := Lib.hid (fun W => last_any x.ttl W)
      have HWB : Hid (W0.heap.size ≤ W1.heap.size) := Lib.hid bW1.size
      obtain ⟨C, hC⟩ : ∃ C, C = rrC x a1 d1 := ⟨_, rfl⟩
      obtain ⟨l1, hl1⟩ : ∃ l1, l1 = rrL x a1 d1 := ⟨_, rfl⟩
      have hCl : C = l1.toArray := by rw [hC, hl1]; rfl
      rw [← hl1] at R1' j1
      rw [← hC] at i1 one1 z1 HW1
      have HCL := Lib.hid hCl
      generalize x.ttl = tt at *
      clear hW1 hc1 D1 R1 htk hml hmp hls hxn nx1 bW1 q1 r5 hB hBw hC hl1 hCl HX HL
      go_wp2_with (first
        | (refine wpList_load_mid rfl 39 (.tmp 16) rfl g1 (o1 + k * 5) rfl l1 _ R1' Try.underlying39 rfl j1.out ?_; rw [← HCL.out])
        | (refine wpList_store_row rfl 39 (.tmp 10) (.tmp 17) rfl wr.heap.size C rfl rfl 39 _ rZ i1.out (by first | exact z1.out | exact z1.out.symm) one1.out ?_; rw [← HW1.out])
        | fail)
      refine (LS.out _).mono ?_
      rintro e w2 ⟨rfl, rfl⟩
      go_wp2_with (first
        | (at_builtin; refine wpList_snocA rfl _ _ rfl w W0.heap.size _ acc rfl NX1.out rfl a1 d1 xn x.d HXN.out S1.out HLB.out HWB.out ?_)
        | fail)
      intro v8' w3 nx3 b3
      have NX3 := Lib.hid nx3
      rw [← HMP.out] at NX3
      have bF : Below W0.heap.size W0 w3 := Below.trans BW1.out b3
      have BF := Lib.hid bF
      clear nx3 b3 bF NX1 BW1 HLB HWB c3 c4 HW1 rZ
      go_wp2_with fail
      go_roundw
      case rel => exact ⟨k + 1, _, rfl, by go_num, by omega, Lib.hid HLS.out.symm, NX3, BF.out⟩
      case measure => simp [intOf]; omega
    · have hlt' : ¬ (k : Int) < (n : Int) := by omega
      obtain rfl : k = n := by omega
      have hL := HL.out
      have hX := HX.out
      rw [HN.out, List.take_length] at hL hX
      have kL : 0 < G.length := by rw [← HN.out]; exact hg
      obtain ⟨g1, o1, rfl, hc1⟩ := id HS.out (by rw [← HN.out]; exact hg)
      obtain ⟨a1, d1, D1, R1⟩ := hc1 0 kL
      have hBw : Below w.heap.size w wr := Below.trans B6.out (hB.mono B6.out.size)
      have R1' := range_on R1 hBw
      rw [Nat.zero_mul, Nat.add_zero] at R1'
      have hsp : setP rank now G = ⟨(G[0]).n, (G[0]).t, (G[0]).c, rank, 0, clockN now + ls, [], orderP (G.map (·.d))⟩ := by
        rw [hL]
        exact set_head (f := G[0]) (by rw [List.head?_eq_getElem?, List.getElem?_eq_getElem kL])
      have hod : ∀ y ∈ G.map (·.d), y.length ≤ 140737488351232 := fun y hy => by
        obtain ⟨r, hr, rfl⟩ := List.mem_map.1 hy
        exact HD.out r hr
      have hon : ((G.map (·.d)).length + 1) * 24 ≤ 140737488351232 := by rw [List.length_map, ← HN.out]; omega
      generalize G[0] = x at *
      generalize G.map (·.d) = L at *
      have hsz := hB.size
      have i1 : Hid ((Try.prog.info? 39).map (·.size) = some (rrC x a1 d1).size) := Lib.hid info_rr
      have j1 : Hid ((Try.prog.info? 39).map (·.size) = some (rrL x a1 d1).length) := Lib.hid info_rr
      have one1 := Lib.hid (rr_one x a1 d1)
      have z1 : Hid ((rrZ).size = (rrC x a1 d1).size) := Lib.hid rfl
      have rZ := row_new (w := wr) (k := wr.heap.size) (.cells rrZ 39 (0, 0)) rfl
      have r5 := setRow_heap _ _ _ (rrC x a1 d1) _ _ rZ
      have q1 : Below wr.heap.size wr ((wr.alloc (.cells rrZ 39)).setRow wr.heap.size (rrC x a1 d1)) := Below.setRow (Below.alloc (Below.refl _ _) (Nat.le_refl _) _) (Nat.le_refl _) _
      rw [rrZ_lit] at rZ r5 q1 z1
      obtain ⟨W1, hW1⟩ : ∃ W1, W1 = (wr.alloc (.cells #[.string ⟨#[]⟩, .int .i64 0, .int .i64 0, .int .i64 0, .slice none 0 0] 39)).setRow wr.heap.size (rrC x a1 d1) := ⟨_, rfl⟩
      rw [← hW1] at r5 q1
      have HW1 := Lib.hid hW1
      have r61 := (q1.block _ (by have := HSW.out; omega)).trans ((hB.block _ (by have := HSW.out; omega)).trans R6.out)
      obtain ⟨m, hm⟩ : ∃ m, m = L.length := ⟨_, rfl⟩
      obtain ⟨A8, c8, rfl, -⟩ := hX.byss hBw
      have X1 : SoX w w.heap.size wr.heap.size W0.heap.size (rrC x a1 d1) (.slice A8 L.length c8) L W1 := ⟨⟨_, rfl, r61⟩, r5, hX.below q1, Below.trans hBw (q1.mono hBw.size), Nat.le_refl _⟩
      have FC := fun (W : World) (h : SoX w w.heap.size wr.heap.size W0.heap.size (rrC x a1 d1) (.slice A8 L.length c8) L W) => rr_cell h.r11
      have OR : Hid (∀ (W : World), SoX w w.heap.size wr.heap.size W0.heap.size (rrC x a1 d1) (.slice A8 L.length c8) L W → Calls Try.prog 24 #[.slice A8 L.length c8] W fun e w' => ∃ v, e = .returned v ∧ OwnL w' W.heap.size v (orderP L) ∧ Below W.heap.size W w') := Lib.hid (fun W h => by
        obtain ⟨A', c', e, hby, -⟩ := h.nx.byss h.bel
        injection e with e1 e2 e3
        subst e1 e3
        exact order_any A8 L c8 W hby hon hod)
      have CLK := Lib.hid (fun W => clock_any now W)
      have F1 := fun W h => (FC W h).1
      have F2 := fun W h => (FC W h).2.1
      have F3 := fun W h => (FC W h).2.2.1
      have hck := clock_bd now
      have hlb : 0 ≤ ls ∧ ls ≤ 86400 := by rw [hL]; exact least_bd G 86400 (by omega)
      have hwr : IntKind.i64.wrap (clockN now + ls) = clockN now + ls := IntWalk.i64_in _ (by omega)
      have HSP := Lib.hid hsp
      have HX1 := Lib.hid X1
      have HWW := Lib.hid (Nat.le_trans B6.out.size hsz)
      obtain ⟨C, hC⟩ : ∃ C, C = rrC x a1 d1 := ⟨_, rfl⟩
      obtain ⟨l1, hl1⟩ : ∃ l1, l1 = rrL x a1 d1 := ⟨_, rfl⟩
      have hCl : C = l1.toArray := by rw [hC, hl1]; rfl
      rw [← hl1] at R1' j1
      rw [← hC] at i1 one1 z1 HW1 X1 F1 F2 F3 OR HX1
      have HCL := Lib.hid hCl
      generalize clockN now = ck at *
      clear hX hL hc1 D1 R1 hBw hsp hod hon r5 q1 hW1 r61 FC hck hlb hC hl1 hCl HX HL hm hB
      go_wp2_with (first
        | (refine wpList_load_mid rfl 39 (.tmp 30) rfl g1 o1 rfl l1 _ R1' Try.underlying39 rfl j1.out ?_; rw [← HCL.out])
        | (refine wpList_store_row rfl 39 (.tmp 11) (.tmp 31) rfl wr.heap.size C rfl rfl 39 _ rZ i1.out (by first | exact z1.out | exact z1.out.symm) one1.out ?_; rw [← HW1.out])
        | fail)
      have ST := fun (W : World) (h : SoX w w.heap.size wr.heap.size W0.heap.size C (.slice A8 L.length c8) L W) (a : Option Addr) (n' c' : Nat) => h.store (D := #[.string (bs x.n), .int .i64 x.t, .int .i64 x.c, .int .i64 rank, .int .i64 0, .int .i64 (ck + ls), .string ⟨#[]⟩, .slice a n' c']) rfl (by simp [Value.oneCell'])
      go_region_held3 (fun w' => SoX w w.heap.size wr.heap.size W0.heap.size C (.slice A8 L.length c8) L w')
        (first | assumption | exact SoX.drew (by assumption) | exact SoX.on (by assumption) (by assumption) | exact SoX.on (SoX.drew (by assumption)) (by assumption) | exact SoX.set (by assumption) rfl)
        (first
          | (go_at_call 44; (with_reducible refine (CLK.out _).mono ?_); rintro e w4 ⟨rfl, rfl⟩)
          | (go_at_call 24; (with_reducible refine (OR.out _ (by assumption)).mono ?_); rintro e w5 ⟨v5, rfl, hOw, hBx⟩; obtain ⟨A5, c5, rfl, -, -⟩ := hOw.byss; have hX5 : SoX w w.heap.size wr.heap.size W0.heap.size C (.slice A8 L.length c8) L w5 := (by first | exact SoX.on X1 hBx | exact SoX.on (SoX.drew X1) hBx)))
      have hs1 : w.heap.size ≤ W1.drew.heap.size := HX1.out.bel.size
      obtain ⟨C0, hC0, hr6⟩ := hX5.r6
      obtain ⟨D, hD⟩ : ∃ D : Array Value, D = #[.string (bs x.n), .int .i64 x.t, .int .i64 x.c, .int .i64 rank, .int .i64 0, .int .i64 (ck + ls), .string ⟨#[]⟩, .slice A5 (orderP L).length c5] := ⟨_, rfl⟩
      rw [← hD]
      have rF := setRow_heap _ _ _ D _ _ hr6
      have I1 : (Try.prog.info? 29).map (·.size) = some D.size := by rw [hD]; exact info_st
      have oF := (hOw.mono hs1).keptE (grownBy_setRow (w := w5) (g := w.heap.size) D) (elsewhere_cells hr6 (by decide)) (elsewhere_cells hr6 (by decide))
      have bF : Below w.heap.size w (w5.setRow w.heap.size D) := Below.setRow hX5.bel (Nat.le_refl _) _
      have HF := Lib.hid oF
      have HB := Lib.hid bF
      have HDD := Lib.hid hD
      clear hOw hX5 hBx ST F1 F2 F3 oF bF hr6 hC0 X1 HX1 OR hD
      go_wp2_with fail
      refine bodyPost_ret (v := .agg D) (results_cell_row (fn := Try.f34) (p := 6) (ty := 29) (by kernel_rfl) _ _ w.heap.size 29 D (0, 0) _ rfl rF Try.underlying29 rfl I1) rfl ?_
      refine ⟨A5, c5, ?_, ?_, HB.out⟩
      · rw [HSP.out, HDD.out]; rfl
      · rw [HSP.out]; exact HF.out
end Go.Proofs.Ytbeggckkgaoacaa
