/-
  The document's Negative.
-/
import Derived.Test.YtbeggckkgaoacaaGn
namespace Go.Proofs.Ytbeggckkgaoacaa
open Go.RowKit
set_option linter.unusedVariables false
set_option maxRecDepth 100000

theorem results_ngr {c : Value} {tmps : Array Value} {W : World} {g : Nat} {cs : Array Value} (h2 : tmps.getD 8 undef = .pointer (some ⟨g, 0, none⟩)) (h3 : tmps.getD 9 undef = c)
    (r2 : W.heap[g]? = some (.cells cs 29 (0, 0))) (hs : (Try.prog.info? 29).map (·.size) = some cs.size) :
    (results Try.f23 tmps).run Try.prog W = .ok (.tuple #[.agg cs, c]) W := by
  have q0 : (loadVar 29 ⟨g, 0, none⟩).run Try.prog W = .ok (.agg cs) W := run_loadVar_row W g 29 29 cs (0, 0) _ r2 Try.underlying29 rfl hs
  subst h3
  have h2' : tmps[8]?.getD undef = .pointer (some ⟨g, 0, none⟩) := by simpa using h2
  simp [results, Try.results23, asAddr, h2', q0]


theorem wp_app {o : Oper} {a : Act} {w : World} {K : Act → World → Prop} {Q : Exit → Act → World → Prop} (hgd : o.guard = none) (x y : Operand) (ts : Array TypeId) (ho : o.op = .call { callee := .builtin .append, args := #[x, y], argTypes := ts }) (u v : Value) (hs : a.eval x = u) (hx : a.eval y = v) {v' : Value} {w' : World}
    (hr : (Builtin.append_ ts o.type #[u, v]).run Try.prog w = .ok v' w') (h : K (a.put o.dst v') w') : Oper.wp Try.prog o a w K Q := by
  unfold Oper.wp execOp
  simp only [ho, resolve, invoke, builtin, Sem.run_bind, Sem.run_pure, Result.andThen_ok, List.map_toArray, List.map_cons, List.map_nil, hs, hx, hr]
  exact h
/-- append of bytes onto a slice that has none, and no room. -/
theorem run_onto0 {W : World} {A : Option Addr} {m c g : Nat} {d : Bs} (hm : m = d.length) (hS : Bys W A d) (hA : A = none → c = 0) (hl : d.length ≤ 140737488351232) :
    ∃ A' c' w', (Builtin.append_ #[37, 37] 37 #[.slice (some ⟨g, 0, none⟩) 0 0, .slice A m c]).run Try.prog W = .ok (.slice A' d.length c') w' ∧ BysT w' A' d ∧ d.length ≤ c' ∧ c' ≤ 9223372036854775807 ∧ (A' = none → c' = 0) ∧ Below W.heap.size W w' := by
  obtain ⟨i0, hi, hz0, hz1, hz2⟩ := info_parts info_u8
  subst hm
  by_cases h0 : d.length = 0
  · obtain rfl : d = [] := List.length_eq_zero_iff.1 h0
    refine ⟨some ⟨g, 0, none⟩, 0, W, ?_, ⟨fun h => absurd h (by simp), fun h => absurd h (by simp)⟩, by simp, by omega, (fun h => by cases h), Below.refl _ _⟩
    cases A with
    | none =>
      obtain rfl := hA rfl
      simp [Builtin.append_, run_underlying Try.underlying37, sizeOf, typeInfo, hi, Builtin.lenOf, Builtin.firstCells, storeCells, Result.andThen]
    | some ad =>
      have hr := run_append_room_cells (P := Try.prog) W 37 37 5 i0 Try.underlying37 hi g 0 0 0 ad 0 c [] (by simp) (fun j u hj => by simp at hj) (fun u hu => by cases hu) (Nat.le_refl _) (fun j hj => absurd hj (by simp)) (fun j hj => absurd hj (by simp))
      exact hr
  · obtain ⟨g1, off, rfl, hc⟩ := hS (by omega)
    obtain ⟨v', w', hrun, hown, hg⟩ := run_append_arg_grows (P := Try.prog) W 37 37 5 i0 (.int .u8 0) 1 1 Try.underlying37 hi hz0 hz1 hz2 rfl (by decide) ⟨g, 0, none⟩ 0 0 [] rfl (fun j u hj => by simp at hj) ⟨g1, off, none⟩ d.length c (d.map byteV) (by simp) (news_bys (ad := ⟨g1, off, none⟩) hS) (by omega) (by unfold maxLen; omega) (by omega)
    have ho : OwnR w' W.heap.size v' d := by unfold OwnR; simpa using hown
    obtain ⟨A', c', rfl, hT, m1, m2, m3⟩ := ho.bysT
    exact ⟨A', c', w', hrun, hT, m1, by unfold maxLen at m2; omega, m3, (Below.refl W.heap.size W).grown hg (Nat.le_refl _) (fun k hk => by cases hk)⟩
def NDK (q rq B0 dn dc : Nat) (qn rn d : Bs) (qt qc kd : Int) (A : Option Addr) : Nat → Value → World → Prop
  | 0, v, _ => v = .pointer (some ⟨q, 0, none⟩)
  | 1, v, _ => v = .string (bs qn)
  | 2, v, _ => v = .pointer (some ⟨q, 1, none⟩)
  | 3, v, _ => v = .int .i64 qt
  | 4, v, _ => v = .pointer (some ⟨q, 2, none⟩)
  | 5, v, _ => v = .int .i64 qc
  | 6, v, _ => v = .int .i64 kd
  | 7, v, _ => v = .pointer (some ⟨rq, 0, none⟩)
  | 8, v, _ => v = .string (bs rn)
  | 9, v, w => ∃ g : Nat, v = .slice (some ⟨g, 0, none⟩) 0 0
  | 10, v, _ => v = .pointer (some ⟨rq, 4, none⟩)
  | 11, v, _ => v = .slice A dn dc
  | 12, v, w => ∃ (a : Option Addr) (c0 : Nat), v = .slice a d.length c0 ∧ BysT w a d ∧ d.length ≤ c0 ∧ c0 ≤ 9223372036854775807 ∧ (a = none → c0 = 0)
  | 13, v, w => ∃ gs : Nat, v = .slice (some ⟨gs, 0, none⟩) 1 1 ∧ ByssT w (some ⟨gs, 0, none⟩) [d]
  | 14, v, w => ∃ gs : Nat, v = .agg #[.string (bs qn), .int .i64 qt, .int .i64 qc, .int .i64 3, .int .i64 kd, .int .i64 0, .string (bs rn), .slice (some ⟨gs, 0, none⟩) 1 1] ∧ ByssT w (some ⟨gs, 0, none⟩) [d]
  | 15, v, w => ∃ gb : Nat, v = .pointer (some ⟨gb, 0, none⟩) ∧ B0 ≤ gb ∧ w.heap[gb]? = some (.cells #[.string ⟨#[]⟩, .int .i64 0, .int .i64 0, .int .i64 0, .int .i64 0, .int .i64 0, .string ⟨#[]⟩, .slice none 0 0] 29 (0, 0))
  | _, _, _ => True
theorem NDK_on {q rq B0 dn dc : Nat} {qn rn d : Bs} {qt qc kd : Int} {A : Option Addr} (i : Nat) (v : Value) (w w' : World) (h : NDK q rq B0 dn dc qn rn d qt qc kd A i v w) (hB : Below w.heap.size w w') : NDK q rq B0 dn dc qn rn d qt qc kd A i v w' := by
  match i, h with
  | 0, h => exact h
  | 1, h => exact h
  | 2, h => exact h
  | 3, h => exact h
  | 4, h => exact h
  | 5, h => exact h
  | 6, h => exact h
  | 7, h => exact h
  | 8, h => exact h
  | 9, h => exact h
  | 10, h => exact h
  | 11, h => exact h
  | 12, h => obtain ⟨a, c0, e, h1, h2⟩ := h; exact ⟨a, c0, e, h1.on hB, h2⟩
  | 13, h => obtain ⟨gs, e, h1⟩ := h; exact ⟨gs, e, h1.on hB⟩
  | 14, h => obtain ⟨gs, e, h1⟩ := h; exact ⟨gs, e, h1.on hB⟩
  | 15, h => obtain ⟨gb, e, h1, h2⟩ := h; exact ⟨gb, e, h1, (hB.block _ (Array.getElem?_eq_some_iff.1 h2).1).trans h2⟩
  | _ + 16, _ => trivial
def NTK (rq go gb : Nat) (now ck tt l1 mn l2 ex : Int) : Nat → Value → World → Prop
  | 0, v, _ => v = .int .i64 now
  | 1, v, _ => v = .int .i64 ck
  | 2, v, _ => v = .pointer (some ⟨rq, 3, none⟩)
  | 3, v, _ => v = .int .i64 tt
  | 4, v, _ => v = .int .i64 l1
  | 5, v, _ => v = .pointer (some ⟨go, 6, none⟩)
  | 6, v, _ => v = .int .i64 mn
  | 7, v, _ => v = .int .i64 l2
  | 8, v, _ => v = .int .i64 (min l1 l2)
  | 9, v, _ => v = .int .i64 ex
  | 10, v, _ => v = .pointer (some ⟨gb, 5, none⟩)
  | _, _, _ => True
theorem NTK_on {rq go gb : Nat} {now ck tt l1 mn l2 ex : Int} (i : Nat) (v : Value) (w w' : World) (h : NTK rq go gb now ck tt l1 mn l2 ex i v w) (hB : Below w.heap.size w w') : NTK rq go gb now ck tt l1 mn l2 ex i v w' := by
  match i, h with
  | 0, h => exact h
  | 1, h => exact h
  | 2, h => exact h
  | 3, h => exact h
  | 4, h => exact h
  | 5, h => exact h
  | 6, h => exact h
  | 7, h => exact h
  | 8, h => exact h
  | 9, h => exact h
  | 10, h => exact h
  | _ + 11, _ => trivial

attribute [local go_sem ↓] exec_storeSt exec_loadSt
set_option maxHeartbeats 4000000 in
set_option maxRecDepth 100000 in
theorem negative_ref (qn : Bs) (qt qc kind : Int) (r : Rr) (A : Option Addr) (c : Nat) (now : Int) (w : World) (hD : Dat w A c r.d) (hdl : r.d.length ≤ 140737488351232) (hnl : r.n.length ≤ 140737488351232) (hql : qn.length ≤ 140737488351232) :
    Calls Try.prog 23 #[.agg #[.string (bs qn), .int .i64 qt, .int .i64 qc], .int .i64 kind, .agg (rrC r A c), .int .i64 now] w (NegPost w qn qt qc kind r now) := by
  obtain ⟨C, hC⟩ : ∃ C, C = rrC r A c := ⟨_, rfl⟩
  have rQ := row_new (w := w) (k := w.heap.size) (.cells #[.string (bs qn), .int .i64 qt, .int .i64 qc] 42 (0, 0)) rfl
  have bQ : Below w.heap.size w (w.alloc (.cells #[.string (bs qn), .int .i64 qt, .int .i64 qc] 42 (0, 0))) := Below.alloc (Below.refl _ _) (Nat.le_refl _) _
  obtain ⟨WQ, hWQ⟩ : ∃ WQ, WQ = w.alloc (.cells #[.string (bs qn), .int .i64 qt, .int .i64 qc] 42 (0, 0)) := ⟨_, rfl⟩
  rw [← hWQ] at rQ bQ
  have hzQ : WQ.heap.size = w.heap.size + 1 := by rw [hWQ]; exact Array.size_push _
  have rR := row_new (w := WQ) (k := WQ.heap.size) (.cells (rrC r A c) 39 (0, 0)) rfl
  have bR : Below WQ.heap.size WQ (WQ.alloc (.cells (rrC r A c) 39 (0, 0))) := Below.alloc (Below.refl _ _) (Nat.le_refl _) _
  obtain ⟨WR, hWR⟩ : ∃ WR, WR = WQ.alloc (.cells (rrC r A c) 39 (0, 0)) := ⟨_, rfl⟩
  rw [← hWR] at rR bR
  have hzR : WR.heap.size = WQ.heap.size + 1 := by rw [hWR]; exact Array.size_push _
  have rS := row_new (w := WR) (k := WR.heap.size) (.cells stZ 29 (0, 0)) rfl
  have bS : Below WR.heap.size WR (WR.alloc (.cells stZ 29 (0, 0))) := Below.alloc (Below.refl _ _) (Nat.le_refl _) _
  rw [stZ_lit] at rS bS
  obtain ⟨WS, hWS⟩ : ∃ WS, WS = WR.alloc (.cells #[.string ⟨#[]⟩, .int .i64 0, .int .i64 0, .int .i64 0, .int .i64 0, .int .i64 0, .string ⟨#[]⟩, .slice none 0 0] 29 (0, 0)) := ⟨_, rfl⟩
  rw [← hWS] at rS bS
  rw [← hC] at hWR ⊢
  have HWQ := Lib.hid hWQ
  have HWR := Lib.hid hWR
  have HWS := Lib.hid hWS
  have bQS : Below WQ.heap.size WQ WS := Below.trans bR (bS.mono bR.size)
  have bwS : Below w.heap.size w WS := Below.trans bQ (bQS.mono bQ.size)
  have rQ' := (bQS.block _ (Array.getElem?_eq_some_iff.1 rQ).1).trans rQ
  have rR' := (bS.block _ (Array.getElem?_eq_some_iff.1 rR).1).trans rR
  have c4 := (rr_cell rR').2.2.2.2
  have SO := Lib.hid (rSOA_any A r.d c WS (hD.bys.on bwS) hD.le hD.max)
  obtain ⟨-, q1, q2⟩ := (⟨(cell_of_row _ w.heap.size 0 _ _ _ rQ').trans rfl, (cell_of_row _ w.heap.size 1 _ _ _ rQ').trans rfl, (cell_of_row _ w.heap.size 2 _ _ _ rQ').trans rfl⟩ : WS.cell? ⟨w.heap.size, 0, none⟩ = some (.string (bs qn)) ∧ WS.cell? ⟨w.heap.size, 1, none⟩ = some (.int .i64 qt) ∧ WS.cell? ⟨w.heap.size, 2, none⟩ = some (.int .i64 qc))
  have HC := Lib.hid hC
  have HBW := Lib.hid bwS
  have HRQ := Lib.hid rQ'
  have HRR := Lib.hid rR'
  have HRS := Lib.hid rS
  have hWR8 : w.heap.size ≤ WR.heap.size := by rw [hzR, hzQ]; omega
  have HSZ : Hid (WS.heap.size = w.heap.size + 3) := Lib.hid (by rw [hWS]; show (WR.heap.push _).size = _; rw [Array.size_push, hzR, hzQ])
  have HDA := Lib.hid hD
  have HZR : Hid (WR.heap.size = w.heap.size + 2) := Lib.hid (by rw [hzR, hzQ])
  clear hC hWQ hWR hWS rQ rR rS rQ' rR' bQ bR bS bQS bwS hzQ hzR hD q1 q2
  go_enter Try.func23, Try.ntmps23
  go_wp2_with (first | rw [← HWS.out] | rw [← HWR.out] | rw [← HWQ.out] | fail)
  refine SO.out.mono ?_
  rintro e w1 ⟨rfl, b1⟩
  have rO := row_new (w := w1) (k := w1.heap.size) (.cells (soaC none) 67 (0, 0)) rfl
  have r5 := setRow_heap _ _ _ (soaC (soa r.d)) _ _ rO
  have q1 : Below w1.heap.size w1 ((w1.alloc (.cells (soaC none) 67)).setRow w1.heap.size (soaC (soa r.d))) := Below.setRow (Below.alloc (Below.refl _ _) (Nat.le_refl _) _) (Nat.le_refl _) _
  have hZ0 : soaC none = #[.string ⟨#[]⟩, .string ⟨#[]⟩, .int .i64 0, .int .i64 0, .int .i64 0, .int .i64 0, .int .i64 0] := rfl
  rw [hZ0] at rO r5 q1
  obtain ⟨W2, hW2⟩ : ∃ W2, W2 = (w1.alloc (.cells #[.string ⟨#[]⟩, .string ⟨#[]⟩, .int .i64 0, .int .i64 0, .int .i64 0, .int .i64 0, .int .i64 0] 67)).setRow w1.heap.size (soaC (soa r.d)) := ⟨_, rfl⟩
  rw [← hW2] at r5 q1
  have HW2 := Lib.hid hW2
  have IO : Hid ((Try.prog.info? 67).map (·.size) = some (soaC (soa r.d)).size) := Lib.hid (soa_info (soaC_size _))
  have ZO : Hid ((#[.string ⟨#[]⟩, .string ⟨#[]⟩, .int .i64 0, .int .i64 0, .int .i64 0, .int .i64 0, .int .i64 0] : Array Value).size = (soaC (soa r.d)).size) := Lib.hid (soaC_size _).symm
  have OO := Lib.hid (soaC_one (soa r.d))
  have bS2 := Below.trans b1 (q1.mono b1.size)
  have rq2 := (bS2.block _ (Array.getElem?_eq_some_iff.1 HRQ.out).1).trans HRQ.out
  have rr2 := (bS2.block _ (Array.getElem?_eq_some_iff.1 HRR.out).1).trans HRR.out
  have rs2 := (bS2.block _ (Array.getElem?_eq_some_iff.1 HRS.out).1).trans HRS.out
  have cq0 : W2.cell? ⟨w.heap.size, 0, none⟩ = some (.string (bs qn)) := (cell_of_row _ _ 0 _ _ _ rq2).trans rfl
  have cq1 : W2.cell? ⟨w.heap.size, 1, none⟩ = some (.int .i64 qt) := (cell_of_row _ _ 1 _ _ _ rq2).trans rfl
  have cq2 : W2.cell? ⟨w.heap.size, 2, none⟩ = some (.int .i64 qc) := (cell_of_row _ _ 2 _ _ _ rq2).trans rfl
  obtain ⟨cr0, cr1, cr2, cr3, cr4⟩ := rr_cell rr2
  have co6 : W2.cell? ⟨w1.heap.size, 6, none⟩ = some (.int .i64 (minN r)) := (cell_of_row _ _ 6 _ _ _ r5).trans (by rw [← soaC_min r])
  have HB2 := Lib.hid (Below.trans HBW.out (bS2.mono HBW.out.size))
  have RQ2 := Lib.hid rq2
  have RR2 := Lib.hid rr2
  have RS2 := Lib.hid rs2
  have RO2 := Lib.hid r5
  obtain ⟨O, hO⟩ : ∃ O, O = soaC (soa r.d) := ⟨_, rfl⟩
  rw [← hO] at HW2 IO ZO OO
  have R8 : Hid (W2.heap[w.heap.size + 2]? = some (.cells #[.string ⟨#[]⟩, .int .i64 0, .int .i64 0, .int .i64 0, .int .i64 0, .int .i64 0, .string ⟨#[]⟩, .slice none 0 0] 29 (0, 0))) := Lib.hid (by rw [← HZR.out]; exact rs2)
  have HZ2 : Hid (w.heap.size + 3 ≤ W2.heap.size) := Lib.hid (by have := bS2.size; have := HSZ.out; omega)
  have HWR8 : Hid (w.heap.size ≤ WR.heap.size) := Lib.hid hWR8
  have NF : Hid (¬ ((kind = 1 ∨ kind = 2) ∧ can qn = true ∧ can r.n = true ∧ 1 ≤ qt ∧ qt ≤ 65535 ∧ 0 ≤ qc ∧ qc ≤ 65535 ∧ r.t = 6 ∧ (soa r.d).isSome = true) → negB qn qt qc kind r now = false) := Lib.hid (fun h => by
    rcases hb : negB qn qt qc kind r now with _ | _
    · rfl
    · exact absurd (negB_all hb) h)
  have CQ := Lib.hid (fun W => rCan_any qn W)
  have CR := Lib.hid (fun W => rCan_any r.n W)
  have ST0 := storeSt_row (D := #[.string ⟨#[]⟩, .int .i64 0, .int .i64 0, .int .i64 0, .int .i64 0, .int .i64 0, .string ⟨#[]⟩, .slice none 0 0]) RS2.out info_st rfl (by simp [Value.oneCell'])
  clear SO b1 r5 q1 hZ0 hW2 bS2 rq2 rr2 rs2 c4 hWR8
  rw [← hO]
  obtain ⟨ok, hoke⟩ : ∃ ok, ok = (soa r.d).isSome := ⟨_, rfl⟩
  have HOKE := Lib.hid hoke
  rw [← hoke] at NF ⊢
  obtain ⟨kq, hkq⟩ : ∃ kq, kq = can qn := ⟨_, rfl⟩
  rw [← hkq] at NF CQ
  obtain ⟨kr, hkr⟩ : ∃ kr, kr = can r.n := ⟨_, rfl⟩
  rw [← hkr] at NF CR
  clear hO hoke hkq hkr
  by_cases hk : kind = 1 ∨ kind = 2
  · rcases hk with rfl | rfl
    · skip
      cases kq with
      | false =>
        go_wp2_with (first
          | (refine wpList_store_row rfl 67 (.tmp 10) (.tmp 17) rfl w1.heap.size O rfl rfl 67 _ rO IO.out (by first | exact ZO.out | exact ZO.out.symm) OO.out ?_; rw [← HW2.out])
          | fail)
        refine (CQ.out _).mono ?_
        rintro e w5 ⟨rfl, rfl⟩
        go_wp2_with fail
        refine bodyPost_ret (v := .tuple #[.agg stZ, .int .i64 1]) (results_ngr (g := WR.heap.size) rfl rfl (setRow_heap _ _ _ _ _ _ RS2.out) info_st) rfl ?_
        exact ⟨Below.setRow HB2.out HWR8.out _, .inl ⟨NF.out (fun ⟨e1, e2, e3, e4, e5, e6, e7, e8, e9⟩ => by first | omega | (cases e2; done) | (cases e3; done) | (cases e9; done) | exact absurd e1 hk), rfl⟩⟩
      | true =>
        cases kr with
        | false =>
          go_wp2_with (first
            | (refine wpList_store_row rfl 67 (.tmp 10) (.tmp 17) rfl w1.heap.size O rfl rfl 67 _ rO IO.out (by first | exact ZO.out | exact ZO.out.symm) OO.out ?_; rw [← HW2.out])
            | fail)
          refine (CQ.out _).mono ?_
          rintro e w5 ⟨rfl, rfl⟩
          go_wp2_with fail
          refine (CR.out _).mono ?_
          rintro e w5 ⟨rfl, rfl⟩
          go_wp2_with fail
          refine bodyPost_ret (v := .tuple #[.agg stZ, .int .i64 1]) (results_ngr (g := WR.heap.size) rfl rfl (setRow_heap _ _ _ _ _ _ RS2.out) info_st) rfl ?_
          exact ⟨Below.setRow HB2.out HWR8.out _, .inl ⟨NF.out (fun ⟨e1, e2, e3, e4, e5, e6, e7, e8, e9⟩ => by first | omega | (cases e2; done) | (cases e3; done) | (cases e9; done) | exact absurd e1 hk), rfl⟩⟩
        | true =>
          by_cases a1 : qt < 1
          · go_wp2_with (first
              | (refine wpList_store_row rfl 67 (.tmp 10) (.tmp 17) rfl w1.heap.size O rfl rfl 67 _ rO IO.out (by first | exact ZO.out | exact ZO.out.symm) OO.out ?_; rw [← HW2.out])
              | fail)
            refine (CQ.out _).mono ?_
            rintro e w5 ⟨rfl, rfl⟩
            go_wp2_with fail
            refine (CR.out _).mono ?_
            rintro e w5 ⟨rfl, rfl⟩
            go_wp2_with fail
            refine bodyPost_ret (v := .tuple #[.agg stZ, .int .i64 1]) (results_ngr (g := WR.heap.size) rfl rfl (setRow_heap _ _ _ _ _ _ RS2.out) info_st) rfl ?_
            exact ⟨Below.setRow HB2.out HWR8.out _, .inl ⟨NF.out (fun ⟨e1, e2, e3, e4, e5, e6, e7, e8, e9⟩ => by first | omega | (cases e2; done) | (cases e3; done) | (cases e9; done) | exact absurd e1 hk), rfl⟩⟩
          by_cases a2 : 65535 < qt
          · go_wp2_with (first
              | (refine wpList_store_row rfl 67 (.tmp 10) (.tmp 17) rfl w1.heap.size O rfl rfl 67 _ rO IO.out (by first | exact ZO.out | exact ZO.out.symm) OO.out ?_; rw [← HW2.out])
              | fail)
            refine (CQ.out _).mono ?_
            rintro e w5 ⟨rfl, rfl⟩
            go_wp2_with fail
            refine (CR.out _).mono ?_
            rintro e w5 ⟨rfl, rfl⟩
            go_wp2_with fail
            refine bodyPost_ret (v := .tuple #[.agg stZ, .int .i64 1]) (results_ngr (g := WR.heap.size) rfl rfl (setRow_heap _ _ _ _ _ _ RS2.out) info_st) rfl ?_
            exact ⟨Below.setRow HB2.out HWR8.out _, .inl ⟨NF.out (fun ⟨e1, e2, e3, e4, e5, e6, e7, e8, e9⟩ => by first | omega | (cases e2; done) | (cases e3; done) | (cases e9; done) | exact absurd e1 hk), rfl⟩⟩
          by_cases a3 : qc < 0
          · go_wp2_with (first
              | (refine wpList_store_row rfl 67 (.tmp 10) (.tmp 17) rfl w1.heap.size O rfl rfl 67 _ rO IO.out (by first | exact ZO.out | exact ZO.out.symm) OO.out ?_; rw [← HW2.out])
              | fail)
            refine (CQ.out _).mono ?_
            rintro e w5 ⟨rfl, rfl⟩
            go_wp2_with fail
            refine (CR.out _).mono ?_
            rintro e w5 ⟨rfl, rfl⟩
            go_wp2_with fail
            refine bodyPost_ret (v := .tuple #[.agg stZ, .int .i64 1]) (results_ngr (g := WR.heap.size) rfl rfl (setRow_heap _ _ _ _ _ _ RS2.out) info_st) rfl ?_
            exact ⟨Below.setRow HB2.out HWR8.out _, .inl ⟨NF.out (fun ⟨e1, e2, e3, e4, e5, e6, e7, e8, e9⟩ => by first | omega | (cases e2; done) | (cases e3; done) | (cases e9; done) | exact absurd e1 hk), rfl⟩⟩
          by_cases a4 : 65535 < qc
          · go_wp2_with (first
              | (refine wpList_store_row rfl 67 (.tmp 10) (.tmp 17) rfl w1.heap.size O rfl rfl 67 _ rO IO.out (by first | exact ZO.out | exact ZO.out.symm) OO.out ?_; rw [← HW2.out])
              | fail)
            refine (CQ.out _).mono ?_
            rintro e w5 ⟨rfl, rfl⟩
            go_wp2_with fail
            refine (CR.out _).mono ?_
            rintro e w5 ⟨rfl, rfl⟩
            go_wp2_with fail
            refine bodyPost_ret (v := .tuple #[.agg stZ, .int .i64 1]) (results_ngr (g := WR.heap.size) rfl rfl (setRow_heap _ _ _ _ _ _ RS2.out) info_st) rfl ?_
            exact ⟨Below.setRow HB2.out HWR8.out _, .inl ⟨NF.out (fun ⟨e1, e2, e3, e4, e5, e6, e7, e8, e9⟩ => by first | omega | (cases e2; done) | (cases e3; done) | (cases e9; done) | exact absurd e1 hk), rfl⟩⟩
          by_cases h6 : r.t = 6
          case neg =>
            go_wp2_with (first
              | (refine wpList_store_row rfl 67 (.tmp 10) (.tmp 17) rfl w1.heap.size O rfl rfl 67 _ rO IO.out (by first | exact ZO.out | exact ZO.out.symm) OO.out ?_; rw [← HW2.out])
              | fail)
            refine (CQ.out _).mono ?_
            rintro e w5 ⟨rfl, rfl⟩
            go_wp2_with fail
            refine (CR.out _).mono ?_
            rintro e w5 ⟨rfl, rfl⟩
            go_wp2_with fail
            refine bodyPost_ret (v := .tuple #[.agg stZ, .int .i64 1]) (results_ngr (g := WR.heap.size) rfl rfl (setRow_heap _ _ _ _ _ _ RS2.out) info_st) rfl ?_
            exact ⟨Below.setRow HB2.out HWR8.out _, .inl ⟨NF.out (fun ⟨e1, e2, e3, e4, e5, e6, e7, e8, e9⟩ => by first | omega | (cases e2; done) | (cases e3; done) | (cases e9; done) | exact absurd e1 hk), rfl⟩⟩
          cases ok with
          | false =>
            go_wp2_with (first
              | (refine wpList_store_row rfl 67 (.tmp 10) (.tmp 17) rfl w1.heap.size O rfl rfl 67 _ rO IO.out (by first | exact ZO.out | exact ZO.out.symm) OO.out ?_; rw [← HW2.out])
              | fail)
            refine (CQ.out _).mono ?_
            rintro e w5 ⟨rfl, rfl⟩
            go_wp2_with fail
            refine (CR.out _).mono ?_
            rintro e w5 ⟨rfl, rfl⟩
            go_wp2_with fail
            refine bodyPost_ret (v := .tuple #[.agg stZ, .int .i64 1]) (results_ngr (g := WR.heap.size) rfl rfl (setRow_heap _ _ _ _ _ _ RS2.out) info_st) rfl ?_
            exact ⟨Below.setRow HB2.out HWR8.out _, .inl ⟨NF.out (fun ⟨e1, e2, e3, e4, e5, e6, e7, e8, e9⟩ => by first | omega | (cases e2; done) | (cases e3; done) | (cases e9; done) | exact absurd e1 hk), rfl⟩⟩
          | true =>
            have hokE : Hid ((soa r.d).isSome = true) := Lib.hid HOKE.out.symm
            go_wp2_with (first
              | (refine wpList_store_row rfl 67 (.tmp 10) (.tmp 17) rfl w1.heap.size O rfl rfl 67 _ rO IO.out (by first | exact ZO.out | exact ZO.out.symm) OO.out ?_; rw [← HW2.out])
              | fail)
            refine (CQ.out _).mono ?_
            rintro e w5 ⟨rfl, rfl⟩
            go_wp2_with fail
            refine (CR.out _).mono ?_
            rintro e w5 ⟨rfl, rfl⟩
            have CLK := Lib.hid (fun W => clock_ref now W)
            have LS1 := Lib.hid (fun W => last_ref r.ttl W)
            have LS2 := Lib.hid (fun W => last_ref (minN r) W)
            have hck := clock_bd now
            have hl1 := last_bdN r.ttl
            have hl2 := last_bdN (minN r)
            obtain ⟨ex, hex⟩ : ∃ ex, ex = clockN now + min (lastN r.ttl) (lastN (minN r)) := ⟨_, rfl⟩
            have hwr : IntKind.i64.wrap (clockN now + min (lastN r.ttl) (lastN (minN r))) = ex := by rw [hex]; exact IntWalk.i64_in _ (by omega)
            have hDA2 := (HDA.out.on HB2.out)
            have CP := Lib.hid (fun (W : World) (h : Below W2.heap.size W2 W) (g : Nat) => run_onto0 (W := W) (A := A) (m := r.d.length) (c := c) (g := g) (d := r.d) rfl (hDA2.bys.on h) hDA2.nil hdl)
            have F0 := fun (W : World) (h : Below W2.heap.size W2 W) => cell_on cq0 h
            have F1 := fun (W : World) (h : Below W2.heap.size W2 W) => cell_on cq1 h
            have F2 := fun (W : World) (h : Below W2.heap.size W2 W) => cell_on cq2 h
            have F3 := fun (W : World) (h : Below W2.heap.size W2 W) => cell_on cr0 h
            have F4 := fun (W : World) (h : Below W2.heap.size W2 W) => cell_on cr3 h
            have F5 := fun (W : World) (h : Below W2.heap.size W2 W) => cell_on cr4 h
            have F6 := fun (W : World) (h : Below W2.heap.size W2 W) => cell_on co6 h
            have HST : Hid (∀ A c, stC (negS qn qt qc 1 r now) A c = #[.string (bs qn), .int .i64 qt, .int .i64 qc, .int .i64 3, .int .i64 1, .int .i64 ex, .string (bs r.n), .slice A 1 c]) := Lib.hid (fun A c => by rw [hex]; rfl)
            have HNB : Hid (negB qn qt qc 1 r now = canS (negS qn qt qc 1 r now)) := Lib.hid (negB_live ⟨by omega, by omega, by omega, h6, hokE.out⟩)
            generalize lastN r.ttl = l1 at *
            generalize lastN (minN r) = l2 at *
            generalize clockN now = ck at *
            generalize minN r = mn at *
            generalize r.ttl = tt at *
            obtain ⟨dn, hdn⟩ : ∃ dn, dn = r.d.length := ⟨_, rfl⟩
            have HDN := Lib.hid hdn
            have F5' : ∀ (W : World), Below W2.heap.size W2 W → W.cell? ⟨WQ.heap.size, 4, none⟩ = some (.slice A dn c) := by rw [hdn]; exact F5
            have CP' : Hid (∀ (W : World) (h : Below W2.heap.size W2 W) (g : Nat), ∃ A' c' w', (Builtin.append_ #[37, 37] 37 #[.slice (some ⟨g, 0, none⟩) 0 0, .slice A dn c]).run Try.prog W = .ok (.slice A' r.d.length c') w' ∧ BysT w' A' r.d ∧ r.d.length ≤ c' ∧ c' ≤ 9223372036854775807 ∧ (A' = none → c' = 0) ∧ Below W.heap.size W w') := Lib.hid (by rw [hdn]; exact CP.out)
            clear hck hl1 hl2 hex hDA2 hdn ST0 CQ CR F5 CP
            go_wp2_with fail
            clear cq0 cq1 cq2 cr0 cr1 cr2 cr3 cr4 co6
            refine wp_region_under 16 (by kernel_rfl) (by kernel_rfl) (by kernel_rfl) rfl (d := fun i => (if i = 15 then 12 else 67 + i)) (R := NDK w.heap.size WQ.heap.size W2.heap.size dn c qn r.n r.d qt qc 1 A) (B := W2.heap.size) (Nat.le_refl _) (fun i j hi hj e => slot_inj (by omega) hi hj e) (fun i hi => by show (if i = 15 then 12 else 67 + i) < _; split <;> first | omega | (simp; omega) | simp) NDK_on (fun i hi b a' w' un hr => ?_) (fun V w' hV hB hs => ?_)
            · obtain ⟨_, o, ho, hall⟩ := mem_ready.1 hr
              have t1 : (a'.tmps[1]?).getD undef = .int .i64 1 := slot_of ((un.old 1 (fun i _ => by show (if i = 15 then 12 else 67 + i) ≠ 1; split <;> omega)).trans rfl)
              have t4 : (a'.tmps[4]?).getD undef = .pointer (some ⟨w.heap.size, 0, none⟩) := slot_of ((un.old 4 (fun i _ => by show (if i = 15 then 12 else 67 + i) ≠ 4; split <;> omega)).trans rfl)
              have t6 : (a'.tmps[6]?).getD undef = .pointer (some ⟨WQ.heap.size, 0, none⟩) := slot_of ((un.old 6 (fun i _ => by show (if i = 15 then 12 else 67 + i) ≠ 6; split <;> omega)).trans rfl)
              have cc0 := F0 _ un.bel
              have cc1 := F1 _ un.bel
              have cc2 := F2 _ un.bel
              have cc3 := F3 _ un.bel
              have cc4 := F5' _ un.bel
              match i, hi with
              | 0, _ =>
                obtain rfl := Option.some.inj ho
                refine ⟨_, rfl, rfl, ?_⟩
                clear ho hall hr  un
                unfold Oper.wp
                go_simp
                exact ⟨_, rfl, rfl, Below.refl _ _⟩
              | 1, _ =>
                obtain rfl := Option.some.inj ho
                have h0 := getD_both_true (hall ⟨0, .data⟩ (by simp) rfl)
                obtain ⟨v0, hv0, hr0⟩ := un.got 0 (by simp) h0
                obtain rfl := hr0
                have s0 := slot_of (j := 67) hv0
                refine ⟨_, rfl, rfl, ?_⟩
                clear ho hall hr hv0 un
                unfold Oper.wp
                go_simp
                exact ⟨_, rfl, rfl, Below.refl _ _⟩
              | 2, _ =>
                obtain rfl := Option.some.inj ho
                refine ⟨_, rfl, rfl, ?_⟩
                clear ho hall hr  un
                unfold Oper.wp
                go_simp
                exact ⟨_, rfl, rfl, Below.refl _ _⟩
              | 3, _ =>
                obtain rfl := Option.some.inj ho
                have h2 := getD_both_true (hall ⟨2, .data⟩ (by simp) rfl)
                obtain ⟨v2, hv2, hr2⟩ := un.got 2 (by simp) h2
                obtain rfl := hr2
                have s2 := slot_of (j := 69) hv2
                refine ⟨_, rfl, rfl, ?_⟩
                clear ho hall hr hv2 un
                unfold Oper.wp
                go_simp
                exact ⟨_, rfl, rfl, Below.refl _ _⟩
              | 4, _ =>
                obtain rfl := Option.some.inj ho
                refine ⟨_, rfl, rfl, ?_⟩
                clear ho hall hr  un
                unfold Oper.wp
                go_simp
                exact ⟨_, rfl, rfl, Below.refl _ _⟩
              | 5, _ =>
                obtain rfl := Option.some.inj ho
                have h4 := getD_both_true (hall ⟨4, .data⟩ (by simp) rfl)
                obtain ⟨v4, hv4, hr4⟩ := un.got 4 (by simp) h4
                obtain rfl := hr4
                have s4 := slot_of (j := 71) hv4
                refine ⟨_, rfl, rfl, ?_⟩
                clear ho hall hr hv4 un
                unfold Oper.wp
                go_simp
                exact ⟨_, rfl, rfl, Below.refl _ _⟩
              | 6, _ =>
                obtain rfl := Option.some.inj ho
                refine ⟨_, rfl, rfl, ?_⟩
                clear ho hall hr  un
                unfold Oper.wp
                go_simp
                exact ⟨_, rfl, rfl, Below.refl _ _⟩
              | 7, _ =>
                obtain rfl := Option.some.inj ho
                refine ⟨_, rfl, rfl, ?_⟩
                clear ho hall hr  un
                unfold Oper.wp
                go_simp
                exact ⟨_, rfl, rfl, Below.refl _ _⟩
              | 8, _ =>
                obtain rfl := Option.some.inj ho
                have h7 := getD_both_true (hall ⟨7, .data⟩ (by simp) rfl)
                obtain ⟨v7, hv7, hr7⟩ := un.got 7 (by simp) h7
                obtain rfl := hr7
                have s7 := slot_of (j := 74) hv7
                refine ⟨_, rfl, rfl, ?_⟩
                clear ho hall hr hv7 un
                unfold Oper.wp
                go_simp
                exact ⟨_, rfl, rfl, Below.refl _ _⟩
              | 9, _ =>
                obtain rfl := Option.some.inj ho
                refine ⟨_, rfl, rfl, ?_⟩
                clear ho hall hr  un
                unfold Oper.wp
                go_simp
                exact ⟨_, rfl, ⟨_, rfl⟩, Below.alloc (Below.refl _ _) (Nat.le_refl _) _⟩
              | 10, _ =>
                obtain rfl := Option.some.inj ho
                refine ⟨_, rfl, rfl, ?_⟩
                clear ho hall hr  un
                unfold Oper.wp
                go_simp
                exact ⟨_, rfl, rfl, Below.refl _ _⟩
              | 11, _ =>
                obtain rfl := Option.some.inj ho
                have h10 := getD_both_true (hall ⟨10, .data⟩ (by simp) rfl)
                obtain ⟨v10, hv10, hr10⟩ := un.got 10 (by simp) h10
                obtain rfl := hr10
                have s10 := slot_of (j := 77) hv10
                refine ⟨_, rfl, rfl, ?_⟩
                clear ho hall hr hv10 un
                unfold Oper.wp
                go_simp
                exact ⟨_, rfl, rfl, Below.refl _ _⟩
              | 12, _ =>
                obtain rfl := Option.some.inj ho
                have h9 := getD_both_true (hall ⟨9, .data⟩ (by simp) rfl)
                obtain ⟨v9, hv9, hr9⟩ := un.got 9 (by simp) h9
                have s9 := slot_of (j := 76) hv9
                have h11 := getD_both_true (hall ⟨11, .data⟩ (by simp) rfl)
                obtain ⟨v11, hv11, hr11⟩ := un.got 11 (by simp) h11
                obtain rfl := hr11
                have s11 := slot_of (j := 78) hv11
                obtain ⟨g9, rfl⟩ := hr9
                obtain ⟨A5, c5, w5, hrun, hT, m1, m2, m3, hb5⟩ := CP'.out _ un.bel g9
                refine ⟨_, rfl, rfl, ?_⟩
                clear ho hall hr hv9 hv11
                exact wp_app rfl (.tmp 76) (.tmp 78) _ rfl _ _ (by simpa [Act.eval] using s9) (by simpa [Act.eval] using s11) hrun ⟨_, rfl, ⟨A5, c5, rfl, hT, m1, m2, m3⟩, hb5⟩
              | 13, _ =>
                obtain rfl := Option.some.inj ho
                have h12 := getD_both_true (hall ⟨12, .data⟩ (by simp) rfl)
                obtain ⟨v12, hv12, hr12⟩ := un.got 12 (by simp) h12
                have s12 := slot_of (j := 79) hv12
                obtain ⟨a5, c5, rfl, hT, m1, m2, m3⟩ := hr12
                refine ⟨_, rfl, rfl, ?_⟩
                clear ho hall hr hv12 un
                unfold Oper.wp
                go_simp
                exact ⟨_, rfl, ⟨_, rfl, list_one (row_new _ rfl) (hT.on (Below.alloc (Below.refl _ _) (Nat.le_refl _) _)) m1 m2 m3⟩, Below.alloc (Below.refl _ _) (Nat.le_refl _) _⟩
              | 14, _ =>
                obtain rfl := Option.some.inj ho
                have h1 := getD_both_true (hall ⟨1, .data⟩ (by simp) rfl)
                obtain ⟨v1, hv1, hr1⟩ := un.got 1 (by simp) h1
                obtain rfl := hr1
                have s1 := slot_of (j := 68) hv1
                have h3 := getD_both_true (hall ⟨3, .data⟩ (by simp) rfl)
                obtain ⟨v3, hv3, hr3⟩ := un.got 3 (by simp) h3
                obtain rfl := hr3
                have s3 := slot_of (j := 70) hv3
                have h5 := getD_both_true (hall ⟨5, .data⟩ (by simp) rfl)
                obtain ⟨v5, hv5, hr5⟩ := un.got 5 (by simp) h5
                obtain rfl := hr5
                have s5 := slot_of (j := 72) hv5
                have h6 := getD_both_true (hall ⟨6, .data⟩ (by simp) rfl)
                obtain ⟨v6, hv6, hr6⟩ := un.got 6 (by simp) h6
                obtain rfl := hr6
                have s6 := slot_of (j := 73) hv6
                have h8 := getD_both_true (hall ⟨8, .data⟩ (by simp) rfl)
                obtain ⟨v8, hv8, hr8⟩ := un.got 8 (by simp) h8
                obtain rfl := hr8
                have s8 := slot_of (j := 75) hv8
                have h13 := getD_both_true (hall ⟨13, .data⟩ (by simp) rfl)
                obtain ⟨v13, hv13, hr13⟩ := un.got 13 (by simp) h13
                have s13 := slot_of (j := 80) hv13
                obtain ⟨gs, rfl, hL⟩ := hr13
                refine ⟨_, rfl, rfl, ?_⟩
                clear ho hall hr hv1 hv3 hv5 hv6 hv8 hv13 un
                unfold Oper.wp
                go_simp
                exact ⟨_, rfl, ⟨gs, rfl, hL⟩, Below.refl _ _⟩
              | 15, _ =>
                obtain rfl := Option.some.inj ho
                refine ⟨_, rfl, rfl, ?_⟩
                clear ho hall hr 
                unfold Oper.wp
                go_simp
                exact ⟨_, rfl, ⟨_, rfl, un.big, row_new _ rfl⟩, Below.alloc (Below.refl _ _) (Nat.le_refl _) _⟩
            · have h14 : ∃ gs : Nat, V 14 = .agg #[.string (bs qn), .int .i64 qt, .int .i64 qc, .int .i64 3, .int .i64 1, .int .i64 0, .string (bs r.n), .slice (some ⟨gs, 0, none⟩) 1 1] ∧ ByssT w' (some ⟨gs, 0, none⟩) [r.d] := hV 14 (by omega)
              have h15 : ∃ gb : Nat, V 15 = .pointer (some ⟨gb, 0, none⟩) ∧ W2.heap.size ≤ gb ∧ w'.heap[gb]? = some (.cells #[.string ⟨#[]⟩, .int .i64 0, .int .i64 0, .int .i64 0, .int .i64 0, .int .i64 0, .string ⟨#[]⟩, .slice none 0 0] 29 (0, 0)) := hV 15 (by omega)
              obtain ⟨gs, u14, hL⟩ := h14
              obtain ⟨gb, u15, hgb, hrb⟩ := h15
              simp only [putAll, Act.put, u14, u15, reduceIte, Nat.reduceEqDiff, Nat.reduceAdd, List.setIfInBounds_toArray, List.set_cons_succ, List.set_cons_zero, List.drop_succ_cons, List.drop_zero]
              generalize V 0 = y0, V 1 = y1, V 2 = y2, V 3 = y3, V 4 = y4, V 5 = y5, V 6 = y6, V 7 = y7, V 8 = y8, V 9 = y9, V 10 = y10, V 11 = y11, V 12 = y12, V 13 = y13
              clear hV u14 u15
              have N : NZ w (w'.setRow gb #[.string (bs qn), .int .i64 qt, .int .i64 qc, .int .i64 3, .int .i64 1, .int .i64 0, .string (bs r.n), .slice (some ⟨gs, 0, none⟩) 1 1]) gb gs #[.string (bs qn), .int .i64 qt, .int .i64 qc, .int .i64 3, .int .i64 1, .int .i64 0, .string (bs r.n), .slice (some ⟨gs, 0, none⟩) 1 1] r.d := nz_made HB2.out HZ2.out R8.out hB hgb hrb hL _
              have STF := storeSt_row (D := #[.string (bs qn), .int .i64 qt, .int .i64 qc, .int .i64 3, .int .i64 1, .int .i64 0, .string (bs r.n), .slice (some ⟨gs, 0, none⟩) 1 1]) hrb info_st rfl (by simp [Value.oneCell'])
              have bS5 : Below W2.heap.size W2 (w'.setRow gb #[.string (bs qn), .int .i64 qt, .int .i64 qc, .int .i64 3, .int .i64 1, .int .i64 0, .string (bs r.n), .slice (some ⟨gs, 0, none⟩) 1 1]) := Below.setRow hB hgb _
              obtain ⟨D, hD⟩ : ∃ D : Array Value, D = #[.string (bs qn), .int .i64 qt, .int .i64 qc, .int .i64 3, .int .i64 1, .int .i64 0, .string (bs r.n), .slice (some ⟨gs, 0, none⟩) 1 1] := ⟨_, rfl⟩
              rw [← hD] at N STF bS5 ⊢
              generalize w'.setRow gb D = W5 at *
              have N1 := N
              rw [hD] at N1
              clear N hD
              have FF4 := fun (W : World) (h : Below W5.heap.size W5 W) => F4 W (Below.trans bS5 (h.mono bS5.size))
              have FF6 := fun (W : World) (h : Below W5.heap.size W5 W) => F6 W (Below.trans bS5 (h.mono bS5.size))
              clear F0 F1 F2 F3 F4 F5' F6 hL hgb hrb hB hs bS5
              go_wp2_with fail
              refine wp_region_under 11 (by kernel_rfl) (by kernel_rfl) (by kernel_rfl) rfl (d := (fun i => 85 + i)) (R := NTK WQ.heap.size w1.heap.size gb now ck tt l1 mn l2 ex) (B := W5.heap.size) (Nat.le_refl _) (fun i j hi hj e => by omega) (fun i hi => by simp; omega) NTK_on (fun i hi b a' w' un hr => ?_) (fun V w' hV hB hs => ?_)
              · obtain ⟨_, o, ho, hall⟩ := mem_ready.1 hr
                have t3 : (a'.tmps[3]?).getD undef = .int .i64 now := slot_of ((un.old 3 (fun i _ => by omega)).trans rfl)
                have t6 : (a'.tmps[6]?).getD undef = .pointer (some ⟨WQ.heap.size, 0, none⟩) := slot_of ((un.old 6 (fun i _ => by omega)).trans rfl)
                have t10 : (a'.tmps[10]?).getD undef = .pointer (some ⟨w1.heap.size, 0, none⟩) := slot_of ((un.old 10 (fun i _ => by omega)).trans rfl)
                have t12 : (a'.tmps[12]?).getD undef = .pointer (some ⟨gb, 0, none⟩) := slot_of ((un.old 12 (fun i _ => by omega)).trans rfl)
                have cc4 := FF4 _ un.bel
                have cc6 := FF6 _ un.bel
                match i, hi with
                | 0, _ =>
                  obtain rfl := Option.some.inj ho
                  refine ⟨_, rfl, rfl, ?_⟩
                  clear ho hall hr  un
                  unfold Oper.wp
                  go_simp
                  exact ⟨_, rfl, rfl, Below.refl _ _⟩
                | 1, _ =>
                  obtain rfl := Option.some.inj ho
                  have h0 := getD_both_true (hall ⟨0, .data⟩ (by simp) rfl)
                  obtain ⟨v0, hv0, hr0⟩ := un.got 0 (by simp) h0
                  obtain rfl := hr0
                  have s0 := slot_of (j := 85) hv0
                  refine ⟨_, rfl, rfl, ?_⟩
                  clear ho hall hr hv0 un
                  unfold Oper.wp
                  go_simp
                  refine (CLK.out _).mono ?_
                  rintro e w2 ⟨rfl, rfl⟩
                  exact ⟨_, rfl, rfl, Below.refl _ _⟩
                | 2, _ =>
                  obtain rfl := Option.some.inj ho
                  refine ⟨_, rfl, rfl, ?_⟩
                  clear ho hall hr  un
                  unfold Oper.wp
                  go_simp
                  exact ⟨_, rfl, rfl, Below.refl _ _⟩
                | 3, _ =>
                  obtain rfl := Option.some.inj ho
                  have h2 := getD_both_true (hall ⟨2, .data⟩ (by simp) rfl)
                  obtain ⟨v2, hv2, hr2⟩ := un.got 2 (by simp) h2
                  obtain rfl := hr2
                  have s2 := slot_of (j := 87) hv2
                  refine ⟨_, rfl, rfl, ?_⟩
                  clear ho hall hr hv2 un
                  unfold Oper.wp
                  go_simp
                  exact ⟨_, rfl, rfl, Below.refl _ _⟩
                | 4, _ =>
                  obtain rfl := Option.some.inj ho
                  have h3 := getD_both_true (hall ⟨3, .data⟩ (by simp) rfl)
                  obtain ⟨v3, hv3, hr3⟩ := un.got 3 (by simp) h3
                  obtain rfl := hr3
                  have s3 := slot_of (j := 88) hv3
                  refine ⟨_, rfl, rfl, ?_⟩
                  clear ho hall hr hv3 un
                  unfold Oper.wp
                  go_simp
                  refine (LS1.out _).mono ?_
                  rintro e w2 ⟨rfl, rfl⟩
                  exact ⟨_, rfl, rfl, Below.refl _ _⟩
                | 5, _ =>
                  obtain rfl := Option.some.inj ho
                  refine ⟨_, rfl, rfl, ?_⟩
                  clear ho hall hr  un
                  unfold Oper.wp
                  go_simp
                  exact ⟨_, rfl, rfl, Below.refl _ _⟩
                | 6, _ =>
                  obtain rfl := Option.some.inj ho
                  have h5 := getD_both_true (hall ⟨5, .data⟩ (by simp) rfl)
                  obtain ⟨v5, hv5, hr5⟩ := un.got 5 (by simp) h5
                  obtain rfl := hr5
                  have s5 := slot_of (j := 90) hv5
                  refine ⟨_, rfl, rfl, ?_⟩
                  clear ho hall hr hv5 un
                  unfold Oper.wp
                  go_simp
                  exact ⟨_, rfl, rfl, Below.refl _ _⟩
                | 7, _ =>
                  obtain rfl := Option.some.inj ho
                  have h6 := getD_both_true (hall ⟨6, .data⟩ (by simp) rfl)
                  obtain ⟨v6, hv6, hr6⟩ := un.got 6 (by simp) h6
                  obtain rfl := hr6
                  have s6 := slot_of (j := 91) hv6
                  refine ⟨_, rfl, rfl, ?_⟩
                  clear ho hall hr hv6 un
                  unfold Oper.wp
                  go_simp
                  refine (LS2.out _).mono ?_
                  rintro e w2 ⟨rfl, rfl⟩
                  exact ⟨_, rfl, rfl, Below.refl _ _⟩
                | 8, _ =>
                  obtain rfl := Option.some.inj ho
                  have h4 := getD_both_true (hall ⟨4, .data⟩ (by simp) rfl)
                  obtain ⟨v4, hv4, hr4⟩ := un.got 4 (by simp) h4
                  obtain rfl := hr4
                  have s4 := slot_of (j := 89) hv4
                  have h7 := getD_both_true (hall ⟨7, .data⟩ (by simp) rfl)
                  obtain ⟨v7, hv7, hr7⟩ := un.got 7 (by simp) h7
                  obtain rfl := hr7
                  have s7 := slot_of (j := 92) hv7
                  refine ⟨_, rfl, rfl, ?_⟩
                  clear ho hall hr hv4 hv7 un
                  unfold Oper.wp
                  go_simp
                  exact ⟨_, rfl, rfl, Below.refl _ _⟩
                | 9, _ =>
                  obtain rfl := Option.some.inj ho
                  have h1 := getD_both_true (hall ⟨1, .data⟩ (by simp) rfl)
                  obtain ⟨v1, hv1, hr1⟩ := un.got 1 (by simp) h1
                  obtain rfl := hr1
                  have s1 := slot_of (j := 86) hv1
                  have h8 := getD_both_true (hall ⟨8, .data⟩ (by simp) rfl)
                  obtain ⟨v8, hv8, hr8⟩ := un.got 8 (by simp) h8
                  obtain rfl := hr8
                  have s8 := slot_of (j := 93) hv8
                  refine ⟨_, rfl, rfl, ?_⟩
                  clear ho hall hr hv1 hv8 un
                  unfold Oper.wp
                  go_simp
                  exact ⟨_, rfl, rfl, Below.refl _ _⟩
                | 10, _ =>
                  obtain rfl := Option.some.inj ho
                  refine ⟨_, rfl, rfl, ?_⟩
                  clear ho hall hr  un
                  unfold Oper.wp
                  go_simp
                  exact ⟨_, rfl, rfl, Below.refl _ _⟩
              · have u9 : V 9 = .int .i64 ex := hV 9 (by omega)
                have u10 : V 10 = .pointer (some ⟨gb, 5, none⟩) := hV 10 (by omega)
                simp only [putAll, Act.put, u9, u10, Nat.reduceAdd, List.setIfInBounds_toArray, List.set_cons_succ, List.set_cons_zero, List.drop_succ_cons, List.drop_zero]
                generalize V 0 = z0', V 1 = z1', V 2 = z2', V 3 = z3', V 4 = z4', V 5 = z5', V 6 = z6', V 7 = z7', V 8 = z8'
                clear hV u9 u10
                have N3 := N1.on hB
                obtain ⟨z3, z4⟩ := N3.cell (i := 5) (v := .int .i64 0) rfl
                have N4 := N3.set 5 (.int .i64 ex)
                obtain ⟨W7, hW7⟩ : ∃ W7, W7 = w'.setCell ⟨gb, 5, none⟩ (.int .i64 ex) := ⟨_, rfl⟩
                rw [← hW7] at N4
                have HW7 := Lib.hid hW7
                have hE0 : (#[.string (bs qn), .int .i64 qt, .int .i64 qc, .int .i64 3, .int .i64 1, .int .i64 0, .string (bs r.n), .slice (some ⟨gs, 0, none⟩) 1 1] : Array Value).setIfInBounds 5 (.int .i64 ex) = #[.string (bs qn), .int .i64 qt, .int .i64 qc, .int .i64 3, .int .i64 1, .int .i64 ex, .string (bs r.n), .slice (some ⟨gs, 0, none⟩) 1 1] := rfl
                rw [hE0] at N4
                obtain ⟨E, hE⟩ : ∃ E : Array Value, E = #[.string (bs qn), .int .i64 qt, .int .i64 qc, .int .i64 3, .int .i64 1, .int .i64 ex, .string (bs r.n), .slice (some ⟨gs, 0, none⟩) 1 1] := ⟨_, rfl⟩
                have hST : stC (negS qn qt qc 1 r now) (some ⟨gs, 0, none⟩) 1 = E := (HST.out _ _).trans hE.symm
                rw [← hE] at N4
                have CN := Lib.hid (dCan8_any (negS qn qt qc 1 r now) (some ⟨gs, 0, none⟩) 1 W7 N4.own.byss (by show 1 ≤ 9223372036854775806; omega))
                rw [hST] at CN
                have hEs : E.size = 8 := by rw [hE]; rfl
                have hE1 : E.all (·.oneCell') = true := by rw [hE]; simp [Value.oneCell']
                have LD := loadSt_row N4.rb (by rw [hEs]; exact info_st)
                have HN2 := Lib.hid N4
                have HSTE := Lib.hid hST
                have HES := Lib.hid hEs
                have HE1 := Lib.hid hE1
                clear N1 N3 N4 hST hE hEs hE1 hE0 hW7 hB hs FF4 FF6 CLK LS1 LS2 hwr
                go_wp2_with (first | rw [← HW7.out] | fail)
                refine CN.out.mono ?_
                rintro e w8 ⟨rfl, b8⟩
                have N8 := HN2.out.on b8
                have r8 := N8.r8
                rw [← HZR.out] at r8
                have LD8 := loadSt_row N8.rb (by rw [HES.out]; exact info_st)
                have HN8 := Lib.hid N8
                have HR8 := Lib.hid r8
                clear HN2 b8 LD CN
                cases hcs : canS (negS qn qt qc 1 r now) with
                | false =>
                  have ST8 := storeSt_row (D := #[.string ⟨#[]⟩, .int .i64 0, .int .i64 0, .int .i64 0, .int .i64 0, .int .i64 0, .string ⟨#[]⟩, .slice none 0 0]) r8 info_st rfl (by simp [Value.oneCell'])
                  have HNF := Lib.hid (HNB.out.trans hcs)
                  clear N8 r8 LD8
                  go_wp2_with fail
                  refine bodyPost_ret (v := .tuple #[.agg stZ, .int .i64 1]) (results_ngr (g := WR.heap.size) rfl rfl (setRow_heap _ _ _ _ _ _ HR8.out) info_st) rfl ?_
                  exact ⟨Below.setRow HN8.out.bel HWR8.out _, .inl ⟨HNF.out, rfl⟩⟩
                | true =>
                  have ST8 := storeSt_row (D := E) r8 (by rw [HES.out]; exact info_st) HES.out.symm HE1.out
                  have HNF := Lib.hid (HNB.out.trans hcs)
                  clear N8 r8
                  go_wp2_with fail
                  refine bodyPost_ret (v := .tuple #[.agg E, .int .i64 0]) (results_ngr (g := WR.heap.size) rfl rfl (setRow_heap _ _ _ _ _ _ HR8.out) (by rw [HES.out]; exact info_st)) rfl ?_
                  exact ⟨Below.setRow HN8.out.bel HWR8.out _, .inr ⟨HNF.out, some ⟨gs, 0, none⟩, 1, by rw [HSTE.out], (stT_setRow HN8.out.own HR8.out).byss⟩⟩
    · skip
      cases kq with
      | false =>
        go_wp2_with (first
          | (refine wpList_store_row rfl 67 (.tmp 10) (.tmp 17) rfl w1.heap.size O rfl rfl 67 _ rO IO.out (by first | exact ZO.out | exact ZO.out.symm) OO.out ?_; rw [← HW2.out])
          | fail)
        refine (CQ.out _).mono ?_
        rintro e w5 ⟨rfl, rfl⟩
        go_wp2_with fail
        refine bodyPost_ret (v := .tuple #[.agg stZ, .int .i64 1]) (results_ngr (g := WR.heap.size) rfl rfl (setRow_heap _ _ _ _ _ _ RS2.out) info_st) rfl ?_
        exact ⟨Below.setRow HB2.out HWR8.out _, .inl ⟨NF.out (fun ⟨e1, e2, e3, e4, e5, e6, e7, e8, e9⟩ => by first | omega | (cases e2; done) | (cases e3; done) | (cases e9; done) | exact absurd e1 hk), rfl⟩⟩
      | true =>
        cases kr with
        | false =>
          go_wp2_with (first
            | (refine wpList_store_row rfl 67 (.tmp 10) (.tmp 17) rfl w1.heap.size O rfl rfl 67 _ rO IO.out (by first | exact ZO.out | exact ZO.out.symm) OO.out ?_; rw [← HW2.out])
            | fail)
          refine (CQ.out _).mono ?_
          rintro e w5 ⟨rfl, rfl⟩
          go_wp2_with fail
          refine (CR.out _).mono ?_
          rintro e w5 ⟨rfl, rfl⟩
          go_wp2_with fail
          refine bodyPost_ret (v := .tuple #[.agg stZ, .int .i64 1]) (results_ngr (g := WR.heap.size) rfl rfl (setRow_heap _ _ _ _ _ _ RS2.out) info_st) rfl ?_
          exact ⟨Below.setRow HB2.out HWR8.out _, .inl ⟨NF.out (fun ⟨e1, e2, e3, e4, e5, e6, e7, e8, e9⟩ => by first | omega | (cases e2; done) | (cases e3; done) | (cases e9; done) | exact absurd e1 hk), rfl⟩⟩
        | true =>
          by_cases a1 : qt < 1
          · go_wp2_with (first
              | (refine wpList_store_row rfl 67 (.tmp 10) (.tmp 17) rfl w1.heap.size O rfl rfl 67 _ rO IO.out (by first | exact ZO.out | exact ZO.out.symm) OO.out ?_; rw [← HW2.out])
              | fail)
            refine (CQ.out _).mono ?_
            rintro e w5 ⟨rfl, rfl⟩
            go_wp2_with fail
            refine (CR.out _).mono ?_
            rintro e w5 ⟨rfl, rfl⟩
            go_wp2_with fail
            refine bodyPost_ret (v := .tuple #[.agg stZ, .int .i64 1]) (results_ngr (g := WR.heap.size) rfl rfl (setRow_heap _ _ _ _ _ _ RS2.out) info_st) rfl ?_
            exact ⟨Below.setRow HB2.out HWR8.out _, .inl ⟨NF.out (fun ⟨e1, e2, e3, e4, e5, e6, e7, e8, e9⟩ => by first | omega | (cases e2; done) | (cases e3; done) | (cases e9; done) | exact absurd e1 hk), rfl⟩⟩
          by_cases a2 : 65535 < qt
          · go_wp2_with (first
              | (refine wpList_store_row rfl 67 (.tmp 10) (.tmp 17) rfl w1.heap.size O rfl rfl 67 _ rO IO.out (by first | exact ZO.out | exact ZO.out.symm) OO.out ?_; rw [← HW2.out])
              | fail)
            refine (CQ.out _).mono ?_
            rintro e w5 ⟨rfl, rfl⟩
            go_wp2_with fail
            refine (CR.out _).mono ?_
            rintro e w5 ⟨rfl, rfl⟩
            go_wp2_with fail
            refine bodyPost_ret (v := .tuple #[.agg stZ, .int .i64 1]) (results_ngr (g := WR.heap.size) rfl rfl (setRow_heap _ _ _ _ _ _ RS2.out) info_st) rfl ?_
            exact ⟨Below.setRow HB2.out HWR8.out _, .inl ⟨NF.out (fun ⟨e1, e2, e3, e4, e5, e6, e7, e8, e9⟩ => by first | omega | (cases e2; done) | (cases e3; done) | (cases e9; done) | exact absurd e1 hk), rfl⟩⟩
          by_cases a3 : qc < 0
          · go_wp2_with (first
              | (refine wpList_store_row rfl 67 (.tmp 10) (.tmp 17) rfl w1.heap.size O rfl rfl 67 _ rO IO.out (by first | exact ZO.out | exact ZO.out.symm) OO.out ?_; rw [← HW2.out])
              | fail)
            refine (CQ.out _).mono ?_
            rintro e w5 ⟨rfl, rfl⟩
            go_wp2_with fail
            refine (CR.out _).mono ?_
            rintro e w5 ⟨rfl, rfl⟩
            go_wp2_with fail
            refine bodyPost_ret (v := .tuple #[.agg stZ, .int .i64 1]) (results_ngr (g := WR.heap.size) rfl rfl (setRow_heap _ _ _ _ _ _ RS2.out) info_st) rfl ?_
            exact ⟨Below.setRow HB2.out HWR8.out _, .inl ⟨NF.out (fun ⟨e1, e2, e3, e4, e5, e6, e7, e8, e9⟩ => by first | omega | (cases e2; done) | (cases e3; done) | (cases e9; done) | exact absurd e1 hk), rfl⟩⟩
          by_cases a4 : 65535 < qc
          · go_wp2_with (first
              | (refine wpList_store_row rfl 67 (.tmp 10) (.tmp 17) rfl w1.heap.size O rfl rfl 67 _ rO IO.out (by first | exact ZO.out | exact ZO.out.symm) OO.out ?_; rw [← HW2.out])
              | fail)
            refine (CQ.out _).mono ?_
            rintro e w5 ⟨rfl, rfl⟩
            go_wp2_with fail
            refine (CR.out _).mono ?_
            rintro e w5 ⟨rfl, rfl⟩
            go_wp2_with fail
            refine bodyPost_ret (v := .tuple #[.agg stZ, .int .i64 1]) (results_ngr (g := WR.heap.size) rfl rfl (setRow_heap _ _ _ _ _ _ RS2.out) info_st) rfl ?_
            exact ⟨Below.setRow HB2.out HWR8.out _, .inl ⟨NF.out (fun ⟨e1, e2, e3, e4, e5, e6, e7, e8, e9⟩ => by first | omega | (cases e2; done) | (cases e3; done) | (cases e9; done) | exact absurd e1 hk), rfl⟩⟩
          by_cases h6 : r.t = 6
          case neg =>
            go_wp2_with (first
              | (refine wpList_store_row rfl 67 (.tmp 10) (.tmp 17) rfl w1.heap.size O rfl rfl 67 _ rO IO.out (by first | exact ZO.out | exact ZO.out.symm) OO.out ?_; rw [← HW2.out])
              | fail)
            refine (CQ.out _).mono ?_
            rintro e w5 ⟨rfl, rfl⟩
            go_wp2_with fail
            refine (CR.out _).mono ?_
            rintro e w5 ⟨rfl, rfl⟩
            go_wp2_with fail
            refine bodyPost_ret (v := .tuple #[.agg stZ, .int .i64 1]) (results_ngr (g := WR.heap.size) rfl rfl (setRow_heap _ _ _ _ _ _ RS2.out) info_st) rfl ?_
            exact ⟨Below.setRow HB2.out HWR8.out _, .inl ⟨NF.out (fun ⟨e1, e2, e3, e4, e5, e6, e7, e8, e9⟩ => by first | omega | (cases e2; done) | (cases e3; done) | (cases e9; done) | exact absurd e1 hk), rfl⟩⟩
          cases ok with
          | false =>
            go_wp2_with (first
              | (refine wpList_store_row rfl 67 (.tmp 10) (.tmp 17) rfl w1.heap.size O rfl rfl 67 _ rO IO.out (by first | exact ZO.out | exact ZO.out.symm) OO.out ?_; rw [← HW2.out])
              | fail)
            refine (CQ.out _).mono ?_
            rintro e w5 ⟨rfl, rfl⟩
            go_wp2_with fail
            refine (CR.out _).mono ?_
            rintro e w5 ⟨rfl, rfl⟩
            go_wp2_with fail
            refine bodyPost_ret (v := .tuple #[.agg stZ, .int .i64 1]) (results_ngr (g := WR.heap.size) rfl rfl (setRow_heap _ _ _ _ _ _ RS2.out) info_st) rfl ?_
            exact ⟨Below.setRow HB2.out HWR8.out _, .inl ⟨NF.out (fun ⟨e1, e2, e3, e4, e5, e6, e7, e8, e9⟩ => by first | omega | (cases e2; done) | (cases e3; done) | (cases e9; done) | exact absurd e1 hk), rfl⟩⟩
          | true =>
            have hokE : Hid ((soa r.d).isSome = true) := Lib.hid HOKE.out.symm
            go_wp2_with (first
              | (refine wpList_store_row rfl 67 (.tmp 10) (.tmp 17) rfl w1.heap.size O rfl rfl 67 _ rO IO.out (by first | exact ZO.out | exact ZO.out.symm) OO.out ?_; rw [← HW2.out])
              | fail)
            refine (CQ.out _).mono ?_
            rintro e w5 ⟨rfl, rfl⟩
            go_wp2_with fail
            refine (CR.out _).mono ?_
            rintro e w5 ⟨rfl, rfl⟩
            have CLK := Lib.hid (fun W => clock_ref now W)
            have LS1 := Lib.hid (fun W => last_ref r.ttl W)
            have LS2 := Lib.hid (fun W => last_ref (minN r) W)
            have hck := clock_bd now
            have hl1 := last_bdN r.ttl
            have hl2 := last_bdN (minN r)
            obtain ⟨ex, hex⟩ : ∃ ex, ex = clockN now + min (lastN r.ttl) (lastN (minN r)) := ⟨_, rfl⟩
            have hwr : IntKind.i64.wrap (clockN now + min (lastN r.ttl) (lastN (minN r))) = ex := by rw [hex]; exact IntWalk.i64_in _ (by omega)
            have hDA2 := (HDA.out.on HB2.out)
            have CP := Lib.hid (fun (W : World) (h : Below W2.heap.size W2 W) (g : Nat) => run_onto0 (W := W) (A := A) (m := r.d.length) (c := c) (g := g) (d := r.d) rfl (hDA2.bys.on h) hDA2.nil hdl)
            have F0 := fun (W : World) (h : Below W2.heap.size W2 W) => cell_on cq0 h
            have F1 := fun (W : World) (h : Below W2.heap.size W2 W) => cell_on cq1 h
            have F2 := fun (W : World) (h : Below W2.heap.size W2 W) => cell_on cq2 h
            have F3 := fun (W : World) (h : Below W2.heap.size W2 W) => cell_on cr0 h
            have F4 := fun (W : World) (h : Below W2.heap.size W2 W) => cell_on cr3 h
            have F5 := fun (W : World) (h : Below W2.heap.size W2 W) => cell_on cr4 h
            have F6 := fun (W : World) (h : Below W2.heap.size W2 W) => cell_on co6 h
            have HST : Hid (∀ A c, stC (negS qn qt qc 2 r now) A c = #[.string (bs qn), .int .i64 0, .int .i64 qc, .int .i64 3, .int .i64 2, .int .i64 ex, .string (bs r.n), .slice A 1 c]) := Lib.hid (fun A c => by rw [hex]; rfl)
            have HNB : Hid (negB qn qt qc 2 r now = canS (negS qn qt qc 2 r now)) := Lib.hid (negB_live ⟨by omega, by omega, by omega, h6, hokE.out⟩)
            generalize lastN r.ttl = l1 at *
            generalize lastN (minN r) = l2 at *
            generalize clockN now = ck at *
            generalize minN r = mn at *
            generalize r.ttl = tt at *
            obtain ⟨dn, hdn⟩ : ∃ dn, dn = r.d.length := ⟨_, rfl⟩
            have HDN := Lib.hid hdn
            have F5' : ∀ (W : World), Below W2.heap.size W2 W → W.cell? ⟨WQ.heap.size, 4, none⟩ = some (.slice A dn c) := by rw [hdn]; exact F5
            have CP' : Hid (∀ (W : World) (h : Below W2.heap.size W2 W) (g : Nat), ∃ A' c' w', (Builtin.append_ #[37, 37] 37 #[.slice (some ⟨g, 0, none⟩) 0 0, .slice A dn c]).run Try.prog W = .ok (.slice A' r.d.length c') w' ∧ BysT w' A' r.d ∧ r.d.length ≤ c' ∧ c' ≤ 9223372036854775807 ∧ (A' = none → c' = 0) ∧ Below W.heap.size W w') := Lib.hid (by rw [hdn]; exact CP.out)
            clear hck hl1 hl2 hex hDA2 hdn ST0 CQ CR F5 CP
            go_wp2_with fail
            clear cq0 cq1 cq2 cr0 cr1 cr2 cr3 cr4 co6
            refine wp_region_under 16 (by kernel_rfl) (by kernel_rfl) (by kernel_rfl) rfl (d := fun i => (if i = 15 then 12 else 67 + i)) (R := NDK w.heap.size WQ.heap.size W2.heap.size dn c qn r.n r.d qt qc 2 A) (B := W2.heap.size) (Nat.le_refl _) (fun i j hi hj e => slot_inj (by omega) hi hj e) (fun i hi => by show (if i = 15 then 12 else 67 + i) < _; split <;> first | omega | (simp; omega) | simp) NDK_on (fun i hi b a' w' un hr => ?_) (fun V w' hV hB hs => ?_)
            · obtain ⟨_, o, ho, hall⟩ := mem_ready.1 hr
              have t1 : (a'.tmps[1]?).getD undef = .int .i64 2 := slot_of ((un.old 1 (fun i _ => by show (if i = 15 then 12 else 67 + i) ≠ 1; split <;> omega)).trans rfl)
              have t4 : (a'.tmps[4]?).getD undef = .pointer (some ⟨w.heap.size, 0, none⟩) := slot_of ((un.old 4 (fun i _ => by show (if i = 15 then 12 else 67 + i) ≠ 4; split <;> omega)).trans rfl)
              have t6 : (a'.tmps[6]?).getD undef = .pointer (some ⟨WQ.heap.size, 0, none⟩) := slot_of ((un.old 6 (fun i _ => by show (if i = 15 then 12 else 67 + i) ≠ 6; split <;> omega)).trans rfl)
              have cc0 := F0 _ un.bel
              have cc1 := F1 _ un.bel
              have cc2 := F2 _ un.bel
              have cc3 := F3 _ un.bel
              have cc4 := F5' _ un.bel
              match i, hi with
              | 0, _ =>
                obtain rfl := Option.some.inj ho
                refine ⟨_, rfl, rfl, ?_⟩
                clear ho hall hr  un
                unfold Oper.wp
                go_simp
                exact ⟨_, rfl, rfl, Below.refl _ _⟩
              | 1, _ =>
                obtain rfl := Option.some.inj ho
                have h0 := getD_both_true (hall ⟨0, .data⟩ (by simp) rfl)
                obtain ⟨v0, hv0, hr0⟩ := un.got 0 (by simp) h0
                obtain rfl := hr0
                have s0 := slot_of (j := 67) hv0
                refine ⟨_, rfl, rfl, ?_⟩
                clear ho hall hr hv0 un
                unfold Oper.wp
                go_simp
                exact ⟨_, rfl, rfl, Below.refl _ _⟩
              | 2, _ =>
                obtain rfl := Option.some.inj ho
                refine ⟨_, rfl, rfl, ?_⟩
                clear ho hall hr  un
                unfold Oper.wp
                go_simp
                exact ⟨_, rfl, rfl, Below.refl _ _⟩
              | 3, _ =>
                obtain rfl := Option.some.inj ho
                have h2 := getD_both_true (hall ⟨2, .data⟩ (by simp) rfl)
                obtain ⟨v2, hv2, hr2⟩ := un.got 2 (by simp) h2
                obtain rfl := hr2
                have s2 := slot_of (j := 69) hv2
                refine ⟨_, rfl, rfl, ?_⟩
                clear ho hall hr hv2 un
                unfold Oper.wp
                go_simp
                exact ⟨_, rfl, rfl, Below.refl _ _⟩
              | 4, _ =>
                obtain rfl := Option.some.inj ho
                refine ⟨_, rfl, rfl, ?_⟩
                clear ho hall hr  un
                unfold Oper.wp
                go_simp
                exact ⟨_, rfl, rfl, Below.refl _ _⟩
              | 5, _ =>
                obtain rfl := Option.some.inj ho
                have h4 := getD_both_true (hall ⟨4, .data⟩ (by simp) rfl)
                obtain ⟨v4, hv4, hr4⟩ := un.got 4 (by simp) h4
                obtain rfl := hr4
                have s4 := slot_of (j := 71) hv4
                refine ⟨_, rfl, rfl, ?_⟩
                clear ho hall hr hv4 un
                unfold Oper.wp
                go_simp
                exact ⟨_, rfl, rfl, Below.refl _ _⟩
              | 6, _ =>
                obtain rfl := Option.some.inj ho
                refine ⟨_, rfl, rfl, ?_⟩
                clear ho hall hr  un
                unfold Oper.wp
                go_simp
                exact ⟨_, rfl, rfl, Below.refl _ _⟩
              | 7, _ =>
                obtain rfl := Option.some.inj ho
                refine ⟨_, rfl, rfl, ?_⟩
                clear ho hall hr  un
                unfold Oper.wp
                go_simp
                exact ⟨_, rfl, rfl, Below.refl _ _⟩
              | 8, _ =>
                obtain rfl := Option.some.inj ho
                have h7 := getD_both_true (hall ⟨7, .data⟩ (by simp) rfl)
                obtain ⟨v7, hv7, hr7⟩ := un.got 7 (by simp) h7
                obtain rfl := hr7
                have s7 := slot_of (j := 74) hv7
                refine ⟨_, rfl, rfl, ?_⟩
                clear ho hall hr hv7 un
                unfold Oper.wp
                go_simp
                exact ⟨_, rfl, rfl, Below.refl _ _⟩
              | 9, _ =>
                obtain rfl := Option.some.inj ho
                refine ⟨_, rfl, rfl, ?_⟩
                clear ho hall hr  un
                unfold Oper.wp
                go_simp
                exact ⟨_, rfl, ⟨_, rfl⟩, Below.alloc (Below.refl _ _) (Nat.le_refl _) _⟩
              | 10, _ =>
                obtain rfl := Option.some.inj ho
                refine ⟨_, rfl, rfl, ?_⟩
                clear ho hall hr  un
                unfold Oper.wp
                go_simp
                exact ⟨_, rfl, rfl, Below.refl _ _⟩
              | 11, _ =>
                obtain rfl := Option.some.inj ho
                have h10 := getD_both_true (hall ⟨10, .data⟩ (by simp) rfl)
                obtain ⟨v10, hv10, hr10⟩ := un.got 10 (by simp) h10
                obtain rfl := hr10
                have s10 := slot_of (j := 77) hv10
                refine ⟨_, rfl, rfl, ?_⟩
                clear ho hall hr hv10 un
                unfold Oper.wp
                go_simp
                exact ⟨_, rfl, rfl, Below.refl _ _⟩
              | 12, _ =>
                obtain rfl := Option.some.inj ho
                have h9 := getD_both_true (hall ⟨9, .data⟩ (by simp) rfl)
                obtain ⟨v9, hv9, hr9⟩ := un.got 9 (by simp) h9
                have s9 := slot_of (j := 76) hv9
                have h11 := getD_both_true (hall ⟨11, .data⟩ (by simp) rfl)
                obtain ⟨v11, hv11, hr11⟩ := un.got 11 (by simp) h11
                obtain rfl := hr11
                have s11 := slot_of (j := 78) hv11
                obtain ⟨g9, rfl⟩ := hr9
                obtain ⟨A5, c5, w5, hrun, hT, m1, m2, m3, hb5⟩ := CP'.out _ un.bel g9
                refine ⟨_, rfl, rfl, ?_⟩
                clear ho hall hr hv9 hv11
                exact wp_app rfl (.tmp 76) (.tmp 78) _ rfl _ _ (by simpa [Act.eval] using s9) (by simpa [Act.eval] using s11) hrun ⟨_, rfl, ⟨A5, c5, rfl, hT, m1, m2, m3⟩, hb5⟩
              | 13, _ =>
                obtain rfl := Option.some.inj ho
                have h12 := getD_both_true (hall ⟨12, .data⟩ (by simp) rfl)
                obtain ⟨v12, hv12, hr12⟩ := un.got 12 (by simp) h12
                have s12 := slot_of (j := 79) hv12
                obtain ⟨a5, c5, rfl, hT, m1, m2, m3⟩ := hr12
                refine ⟨_, rfl, rfl, ?_⟩
                clear ho hall hr hv12 un
                unfold Oper.wp
                go_simp
                exact ⟨_, rfl, ⟨_, rfl, list_one (row_new _ rfl) (hT.on (Below.alloc (Below.refl _ _) (Nat.le_refl _) _)) m1 m2 m3⟩, Below.alloc (Below.refl _ _) (Nat.le_refl _) _⟩
              | 14, _ =>
                obtain rfl := Option.some.inj ho
                have h1 := getD_both_true (hall ⟨1, .data⟩ (by simp) rfl)
                obtain ⟨v1, hv1, hr1⟩ := un.got 1 (by simp) h1
                obtain rfl := hr1
                have s1 := slot_of (j := 68) hv1
                have h3 := getD_both_true (hall ⟨3, .data⟩ (by simp) rfl)
                obtain ⟨v3, hv3, hr3⟩ := un.got 3 (by simp) h3
                obtain rfl := hr3
                have s3 := slot_of (j := 70) hv3
                have h5 := getD_both_true (hall ⟨5, .data⟩ (by simp) rfl)
                obtain ⟨v5, hv5, hr5⟩ := un.got 5 (by simp) h5
                obtain rfl := hr5
                have s5 := slot_of (j := 72) hv5
                have h6 := getD_both_true (hall ⟨6, .data⟩ (by simp) rfl)
                obtain ⟨v6, hv6, hr6⟩ := un.got 6 (by simp) h6
                obtain rfl := hr6
                have s6 := slot_of (j := 73) hv6
                have h8 := getD_both_true (hall ⟨8, .data⟩ (by simp) rfl)
                obtain ⟨v8, hv8, hr8⟩ := un.got 8 (by simp) h8
                obtain rfl := hr8
                have s8 := slot_of (j := 75) hv8
                have h13 := getD_both_true (hall ⟨13, .data⟩ (by simp) rfl)
                obtain ⟨v13, hv13, hr13⟩ := un.got 13 (by simp) h13
                have s13 := slot_of (j := 80) hv13
                obtain ⟨gs, rfl, hL⟩ := hr13
                refine ⟨_, rfl, rfl, ?_⟩
                clear ho hall hr hv1 hv3 hv5 hv6 hv8 hv13 un
                unfold Oper.wp
                go_simp
                exact ⟨_, rfl, ⟨gs, rfl, hL⟩, Below.refl _ _⟩
              | 15, _ =>
                obtain rfl := Option.some.inj ho
                refine ⟨_, rfl, rfl, ?_⟩
                clear ho hall hr 
                unfold Oper.wp
                go_simp
                exact ⟨_, rfl, ⟨_, rfl, un.big, row_new _ rfl⟩, Below.alloc (Below.refl _ _) (Nat.le_refl _) _⟩
            · have h14 : ∃ gs : Nat, V 14 = .agg #[.string (bs qn), .int .i64 qt, .int .i64 qc, .int .i64 3, .int .i64 2, .int .i64 0, .string (bs r.n), .slice (some ⟨gs, 0, none⟩) 1 1] ∧ ByssT w' (some ⟨gs, 0, none⟩) [r.d] := hV 14 (by omega)
              have h15 : ∃ gb : Nat, V 15 = .pointer (some ⟨gb, 0, none⟩) ∧ W2.heap.size ≤ gb ∧ w'.heap[gb]? = some (.cells #[.string ⟨#[]⟩, .int .i64 0, .int .i64 0, .int .i64 0, .int .i64 0, .int .i64 0, .string ⟨#[]⟩, .slice none 0 0] 29 (0, 0)) := hV 15 (by omega)
              obtain ⟨gs, u14, hL⟩ := h14
              obtain ⟨gb, u15, hgb, hrb⟩ := h15
              simp only [putAll, Act.put, u14, u15, reduceIte, Nat.reduceEqDiff, Nat.reduceAdd, List.setIfInBounds_toArray, List.set_cons_succ, List.set_cons_zero, List.drop_succ_cons, List.drop_zero]
              generalize V 0 = y0, V 1 = y1, V 2 = y2, V 3 = y3, V 4 = y4, V 5 = y5, V 6 = y6, V 7 = y7, V 8 = y8, V 9 = y9, V 10 = y10, V 11 = y11, V 12 = y12, V 13 = y13
              clear hV u14 u15
              have N : NZ w (w'.setRow gb #[.string (bs qn), .int .i64 qt, .int .i64 qc, .int .i64 3, .int .i64 2, .int .i64 0, .string (bs r.n), .slice (some ⟨gs, 0, none⟩) 1 1]) gb gs #[.string (bs qn), .int .i64 qt, .int .i64 qc, .int .i64 3, .int .i64 2, .int .i64 0, .string (bs r.n), .slice (some ⟨gs, 0, none⟩) 1 1] r.d := nz_made HB2.out HZ2.out R8.out hB hgb hrb hL _
              have STF := storeSt_row (D := #[.string (bs qn), .int .i64 qt, .int .i64 qc, .int .i64 3, .int .i64 2, .int .i64 0, .string (bs r.n), .slice (some ⟨gs, 0, none⟩) 1 1]) hrb info_st rfl (by simp [Value.oneCell'])
              have bS5 : Below W2.heap.size W2 (w'.setRow gb #[.string (bs qn), .int .i64 qt, .int .i64 qc, .int .i64 3, .int .i64 2, .int .i64 0, .string (bs r.n), .slice (some ⟨gs, 0, none⟩) 1 1]) := Below.setRow hB hgb _
              obtain ⟨D, hD⟩ : ∃ D : Array Value, D = #[.string (bs qn), .int .i64 qt, .int .i64 qc, .int .i64 3, .int .i64 2, .int .i64 0, .string (bs r.n), .slice (some ⟨gs, 0, none⟩) 1 1] := ⟨_, rfl⟩
              rw [← hD] at N STF bS5 ⊢
              generalize w'.setRow gb D = W5 at *
              obtain ⟨z1, z2⟩ := N.cell (i := 1) (v := .int .i64 qt) (by rw [hD]; rfl)
              have N1 := N.set 1 (.int .i64 0)
              have bS6 : Below W2.heap.size W2 (W5.setCell ⟨gb, 1, none⟩ (.int .i64 0)) := Below.setCell bS5 hgb _
              obtain ⟨W6, hW6⟩ : ∃ W6, W6 = W5.setCell ⟨gb, 1, none⟩ (.int .i64 0) := ⟨_, rfl⟩
              rw [← hW6] at N1 bS6
              have hD1 : D.setIfInBounds 1 (.int .i64 0) = #[.string (bs qn), .int .i64 0, .int .i64 qc, .int .i64 3, .int .i64 2, .int .i64 0, .string (bs r.n), .slice (some ⟨gs, 0, none⟩) 1 1] := by rw [hD]; rfl
              rw [hD1] at N1
              have HW6 := Lib.hid hW6
              clear hW6 N hD hD1
              have FF4 := fun (W : World) (h : Below W6.heap.size W6 W) => F4 W (Below.trans bS6 (h.mono bS6.size))
              have FF6 := fun (W : World) (h : Below W6.heap.size W6 W) => F6 W (Below.trans bS6 (h.mono bS6.size))
              clear F0 F1 F2 F3 F4 F5' F6 hL hgb hrb hB hs bS5 bS6
              go_wp2_with (first | rw [← HW6.out] | fail)
              refine wp_region_under 11 (by kernel_rfl) (by kernel_rfl) (by kernel_rfl) rfl (d := (fun i => 85 + i)) (R := NTK WQ.heap.size w1.heap.size gb now ck tt l1 mn l2 ex) (B := W6.heap.size) (Nat.le_refl _) (fun i j hi hj e => by omega) (fun i hi => by simp; omega) NTK_on (fun i hi b a' w' un hr => ?_) (fun V w' hV hB hs => ?_)
              · obtain ⟨_, o, ho, hall⟩ := mem_ready.1 hr
                have t3 : (a'.tmps[3]?).getD undef = .int .i64 now := slot_of ((un.old 3 (fun i _ => by omega)).trans rfl)
                have t6 : (a'.tmps[6]?).getD undef = .pointer (some ⟨WQ.heap.size, 0, none⟩) := slot_of ((un.old 6 (fun i _ => by omega)).trans rfl)
                have t10 : (a'.tmps[10]?).getD undef = .pointer (some ⟨w1.heap.size, 0, none⟩) := slot_of ((un.old 10 (fun i _ => by omega)).trans rfl)
                have t12 : (a'.tmps[12]?).getD undef = .pointer (some ⟨gb, 0, none⟩) := slot_of ((un.old 12 (fun i _ => by omega)).trans rfl)
                have cc4 := FF4 _ un.bel
                have cc6 := FF6 _ un.bel
                match i, hi with
                | 0, _ =>
                  obtain rfl := Option.some.inj ho
                  refine ⟨_, rfl, rfl, ?_⟩
                  clear ho hall hr  un
                  unfold Oper.wp
                  go_simp
                  exact ⟨_, rfl, rfl, Below.refl _ _⟩
                | 1, _ =>
                  obtain rfl := Option.some.inj ho
                  have h0 := getD_both_true (hall ⟨0, .data⟩ (by simp) rfl)
                  obtain ⟨v0, hv0, hr0⟩ := un.got 0 (by simp) h0
                  obtain rfl := hr0
                  have s0 := slot_of (j := 85) hv0
                  refine ⟨_, rfl, rfl, ?_⟩
                  clear ho hall hr hv0 un
                  unfold Oper.wp
                  go_simp
                  refine (CLK.out _).mono ?_
                  rintro e w2 ⟨rfl, rfl⟩
                  exact ⟨_, rfl, rfl, Below.refl _ _⟩
                | 2, _ =>
                  obtain rfl := Option.some.inj ho
                  refine ⟨_, rfl, rfl, ?_⟩
                  clear ho hall hr  un
                  unfold Oper.wp
                  go_simp
                  exact ⟨_, rfl, rfl, Below.refl _ _⟩
                | 3, _ =>
                  obtain rfl := Option.some.inj ho
                  have h2 := getD_both_true (hall ⟨2, .data⟩ (by simp) rfl)
                  obtain ⟨v2, hv2, hr2⟩ := un.got 2 (by simp) h2
                  obtain rfl := hr2
                  have s2 := slot_of (j := 87) hv2
                  refine ⟨_, rfl, rfl, ?_⟩
                  clear ho hall hr hv2 un
                  unfold Oper.wp
                  go_simp
                  exact ⟨_, rfl, rfl, Below.refl _ _⟩
                | 4, _ =>
                  obtain rfl := Option.some.inj ho
                  have h3 := getD_both_true (hall ⟨3, .data⟩ (by simp) rfl)
                  obtain ⟨v3, hv3, hr3⟩ := un.got 3 (by simp) h3
                  obtain rfl := hr3
                  have s3 := slot_of (j := 88) hv3
                  refine ⟨_, rfl, rfl, ?_⟩
                  clear ho hall hr hv3 un
                  unfold Oper.wp
                  go_simp
                  refine (LS1.out _).mono ?_
                  rintro e w2 ⟨rfl, rfl⟩
                  exact ⟨_, rfl, rfl, Below.refl _ _⟩
                | 5, _ =>
                  obtain rfl := Option.some.inj ho
                  refine ⟨_, rfl, rfl, ?_⟩
                  clear ho hall hr  un
                  unfold Oper.wp
                  go_simp
                  exact ⟨_, rfl, rfl, Below.refl _ _⟩
                | 6, _ =>
                  obtain rfl := Option.some.inj ho
                  have h5 := getD_both_true (hall ⟨5, .data⟩ (by simp) rfl)
                  obtain ⟨v5, hv5, hr5⟩ := un.got 5 (by simp) h5
                  obtain rfl := hr5
                  have s5 := slot_of (j := 90) hv5
                  refine ⟨_, rfl, rfl, ?_⟩
                  clear ho hall hr hv5 un
                  unfold Oper.wp
                  go_simp
                  exact ⟨_, rfl, rfl, Below.refl _ _⟩
                | 7, _ =>
                  obtain rfl := Option.some.inj ho
                  have h6 := getD_both_true (hall ⟨6, .data⟩ (by simp) rfl)
                  obtain ⟨v6, hv6, hr6⟩ := un.got 6 (by simp) h6
                  obtain rfl := hr6
                  have s6 := slot_of (j := 91) hv6
                  refine ⟨_, rfl, rfl, ?_⟩
                  clear ho hall hr hv6 un
                  unfold Oper.wp
                  go_simp
                  refine (LS2.out _).mono ?_
                  rintro e w2 ⟨rfl, rfl⟩
                  exact ⟨_, rfl, rfl, Below.refl _ _⟩
                | 8, _ =>
                  obtain rfl := Option.some.inj ho
                  have h4 := getD_both_true (hall ⟨4, .data⟩ (by simp) rfl)
                  obtain ⟨v4, hv4, hr4⟩ := un.got 4 (by simp) h4
                  obtain rfl := hr4
                  have s4 := slot_of (j := 89) hv4
                  have h7 := getD_both_true (hall ⟨7, .data⟩ (by simp) rfl)
                  obtain ⟨v7, hv7, hr7⟩ := un.got 7 (by simp) h7
                  obtain rfl := hr7
                  have s7 := slot_of (j := 92) hv7
                  refine ⟨_, rfl, rfl, ?_⟩
                  clear ho hall hr hv4 hv7 un
                  unfold Oper.wp
                  go_simp
                  exact ⟨_, rfl, rfl, Below.refl _ _⟩
                | 9, _ =>
                  obtain rfl := Option.some.inj ho
                  have h1 := getD_both_true (hall ⟨1, .data⟩ (by simp) rfl)
                  obtain ⟨v1, hv1, hr1⟩ := un.got 1 (by simp) h1
                  obtain rfl := hr1
                  have s1 := slot_of (j := 86) hv1
                  have h8 := getD_both_true (hall ⟨8, .data⟩ (by simp) rfl)
                  obtain ⟨v8, hv8, hr8⟩ := un.got 8 (by simp) h8
                  obtain rfl := hr8
                  have s8 := slot_of (j := 93) hv8
                  refine ⟨_, rfl, rfl, ?_⟩
                  clear ho hall hr hv1 hv8 un
                  unfold Oper.wp
                  go_simp
                  exact ⟨_, rfl, rfl, Below.refl _ _⟩
                | 10, _ =>
                  obtain rfl := Option.some.inj ho
                  refine ⟨_, rfl, rfl, ?_⟩
                  clear ho hall hr  un
                  unfold Oper.wp
                  go_simp
                  exact ⟨_, rfl, rfl, Below.refl _ _⟩
              · have u9 : V 9 = .int .i64 ex := hV 9 (by omega)
                have u10 : V 10 = .pointer (some ⟨gb, 5, none⟩) := hV 10 (by omega)
                simp only [putAll, Act.put, u9, u10, Nat.reduceAdd, List.setIfInBounds_toArray, List.set_cons_succ, List.set_cons_zero, List.drop_succ_cons, List.drop_zero]
                generalize V 0 = z0', V 1 = z1', V 2 = z2', V 3 = z3', V 4 = z4', V 5 = z5', V 6 = z6', V 7 = z7', V 8 = z8'
                clear hV u9 u10
                have N3 := N1.on hB
                obtain ⟨z3, z4⟩ := N3.cell (i := 5) (v := .int .i64 0) rfl
                have N4 := N3.set 5 (.int .i64 ex)
                obtain ⟨W7, hW7⟩ : ∃ W7, W7 = w'.setCell ⟨gb, 5, none⟩ (.int .i64 ex) := ⟨_, rfl⟩
                rw [← hW7] at N4
                have HW7 := Lib.hid hW7
                have hE0 : (#[.string (bs qn), .int .i64 0, .int .i64 qc, .int .i64 3, .int .i64 2, .int .i64 0, .string (bs r.n), .slice (some ⟨gs, 0, none⟩) 1 1] : Array Value).setIfInBounds 5 (.int .i64 ex) = #[.string (bs qn), .int .i64 0, .int .i64 qc, .int .i64 3, .int .i64 2, .int .i64 ex, .string (bs r.n), .slice (some ⟨gs, 0, none⟩) 1 1] := rfl
                rw [hE0] at N4
                obtain ⟨E, hE⟩ : ∃ E : Array Value, E = #[.string (bs qn), .int .i64 0, .int .i64 qc, .int .i64 3, .int .i64 2, .int .i64 ex, .string (bs r.n), .slice (some ⟨gs, 0, none⟩) 1 1] := ⟨_, rfl⟩
                have hST : stC (negS qn qt qc 2 r now) (some ⟨gs, 0, none⟩) 1 = E := (HST.out _ _).trans hE.symm
                rw [← hE] at N4
                have CN := Lib.hid (dCan8_any (negS qn qt qc 2 r now) (some ⟨gs, 0, none⟩) 1 W7 N4.own.byss (by show 1 ≤ 9223372036854775806; omega))
                rw [hST] at CN
                have hEs : E.size = 8 := by rw [hE]; rfl
                have hE1 : E.all (·.oneCell') = true := by rw [hE]; simp [Value.oneCell']
                have LD := loadSt_row N4.rb (by rw [hEs]; exact info_st)
                have HN2 := Lib.hid N4
                have HSTE := Lib.hid hST
                have HES := Lib.hid hEs
                have HE1 := Lib.hid hE1
                clear N1 N3 N4 hST hE hEs hE1 hE0 hW7 hB hs FF4 FF6 CLK LS1 LS2 hwr
                go_wp2_with (first | rw [← HW7.out] | fail)
                refine CN.out.mono ?_
                rintro e w8 ⟨rfl, b8⟩
                have N8 := HN2.out.on b8
                have r8 := N8.r8
                rw [← HZR.out] at r8
                have LD8 := loadSt_row N8.rb (by rw [HES.out]; exact info_st)
                have HN8 := Lib.hid N8
                have HR8 := Lib.hid r8
                clear HN2 b8 LD CN
                cases hcs : canS (negS qn qt qc 2 r now) with
                | false =>
                  have ST8 := storeSt_row (D := #[.string ⟨#[]⟩, .int .i64 0, .int .i64 0, .int .i64 0, .int .i64 0, .int .i64 0, .string ⟨#[]⟩, .slice none 0 0]) r8 info_st rfl (by simp [Value.oneCell'])
                  have HNF := Lib.hid (HNB.out.trans hcs)
                  clear N8 r8 LD8
                  go_wp2_with fail
                  refine bodyPost_ret (v := .tuple #[.agg stZ, .int .i64 1]) (results_ngr (g := WR.heap.size) rfl rfl (setRow_heap _ _ _ _ _ _ HR8.out) info_st) rfl ?_
                  exact ⟨Below.setRow HN8.out.bel HWR8.out _, .inl ⟨HNF.out, rfl⟩⟩
                | true =>
                  have ST8 := storeSt_row (D := E) r8 (by rw [HES.out]; exact info_st) HES.out.symm HE1.out
                  have HNF := Lib.hid (HNB.out.trans hcs)
                  clear N8 r8
                  go_wp2_with fail
                  refine bodyPost_ret (v := .tuple #[.agg E, .int .i64 0]) (results_ngr (g := WR.heap.size) rfl rfl (setRow_heap _ _ _ _ _ _ HR8.out) (by rw [HES.out]; exact info_st)) rfl ?_
                  exact ⟨Below.setRow HN8.out.bel HWR8.out _, .inr ⟨HNF.out, some ⟨gs, 0, none⟩, 1, by rw [HSTE.out], (stT_setRow HN8.out.own HR8.out).byss⟩⟩
  · have hk1 : ¬ kind = 1 := fun h => hk (.inl h)
    have hk2 : ¬ kind = 2 := fun h => hk (.inr h)
    have hk1' : (kind != 1) = true := by simpa using hk1
    have hk2' : (kind != 2) = true := by simpa using hk2
    go_wp2_with (first
      | (refine wpList_store_row rfl 67 (.tmp 10) (.tmp 17) rfl w1.heap.size O rfl rfl 67 _ rO IO.out (by first | exact ZO.out | exact ZO.out.symm) OO.out ?_; rw [← HW2.out])
      | fail)
    refine bodyPost_ret (v := .tuple #[.agg stZ, .int .i64 1]) (results_ngr (g := WR.heap.size) rfl rfl (setRow_heap _ _ _ _ _ _ RS2.out) info_st) rfl ?_
    exact ⟨Below.setRow HB2.out HWR8.out _, .inl ⟨NF.out (fun ⟨e1, e2, e3, e4, e5, e6, e7, e8, e9⟩ => by first | omega | (cases e2; done) | (cases e3; done) | (cases e9; done) | exact absurd e1 hk), rfl⟩⟩
end Go.Proofs.Ytbeggckkgaoacaa
