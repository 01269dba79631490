/-
  The landed Negative.
-/
import Derived.Test.YtbeggckkgaoacaaGn
namespace Go.Proofs.Ytbeggckkgaoacaa
open Go.RowKit
set_option linter.unusedVariables false
set_option maxRecDepth 100000

theorem results_neg {c : Value} {tmps : Array Value} {W : World} {g : Nat} {cs : Array Value} (h2 : tmps.getD 8 undef = .pointer (some ⟨g, 0, none⟩)) (h3 : tmps.getD 9 undef = c)
    (r2 : W.heap[g]? = some (.cells cs 29 (0, 0))) (hs : (Try.prog.info? 29).map (·.size) = some cs.size) :
    (results Try.f22 tmps).run Try.prog W = .ok (.tuple #[.agg cs, c]) W := by
  have q0 : (loadVar 29 ⟨g, 0, none⟩).run Try.prog W = .ok (.agg cs) W := run_loadVar_row W g 29 29 cs (0, 0) _ r2 Try.underlying29 rfl hs
  subst h3
  have h2' : tmps[8]?.getD undef = .pointer (some ⟨g, 0, none⟩) := by simpa using h2
  simp [results, Try.results22, asAddr, h2', q0]

attribute [local go_sem ↓] exec_storeSt exec_loadSt
set_option maxHeartbeats 4000000 in
set_option maxRecDepth 100000 in
theorem negative_any (qn : Bs) (qt qc kind : Int) (r : Rr) (A : Option Addr) (c : Nat) (now : Int) (w : World) (hD : Dat w A c r.d) (hdl : r.d.length ≤ 140737488351232) (hnl : r.n.length ≤ 140737488351232) (hql : qn.length ≤ 140737488351232) :
    Calls Try.prog 22 #[.agg #[.string (bs qn), .int .i64 qt, .int .i64 qc], .int .i64 kind, .agg (rrC r A c), .int .i64 now] w (NegPost w qn qt qc kind r now) := by
  obtain ⟨C, hC⟩ : ∃ C, C = rrC r A c := ⟨_, rfl⟩
  have rQ := row_new (w := w) (k := w.heap.size) (.cells #[.string (bs qn), .int .i64 qt, .int .i64 qc] 42 (0, 0)) rfl
  have bQ : Below w.heap.size w (w.alloc (.cells #[.string (bs qn), .int .i64 qt, .int .i64 qc] 42 (0, 0))) := Below.alloc (Below.refl _ _) (Nat.le_refl _) _
  obtain ⟨WQ, hWQ⟩ : ∃ WQ, WQ = w.alloc (.cells #[.string (bs qn), .int .i64 qt, .int .i64 qc] 42 (0, 0)) := ⟨_, rfl⟩
  rw [← hWQ] at rQ bQ
  have hzQ : WQ.heap.size = w.heap.size + 1 := by rw [hWQ]; exact Array.size_push _
  have rR := row_new (w := WQ) (k := WQ.heap.size) (.cells (rrC r A c) 39 (0, 0)) rfl
  have bR : Below WQ.heap.size WQ (WQ.alloc (.cells (rrC r A c) 39 (0, 0))) := Below.alloc (Below.refl _ _) (Nat.le_refl _) _
  obtain ⟨WR, hWR⟩ : ∃ WR, WR = WQ.alloc (.cells (rrC r A c) 39 (0, 0)) := ⟨_, rfl⟩
  rw [← hWR] at rR bR
  have hzR : WR.heap.size = WQ.heap.size + 1 := by rw [hWR]; exact Array.size_push _
  have rS := row_new (w := WR) (k := WR.heap.size) (.cells stZ 29 (0, 0)) rfl
  have bS : Below WR.heap.size WR (WR.alloc (.cells stZ 29 (0, 0))) := Below.alloc (Below.refl _ _) (Nat.le_refl _) _
  rw [stZ_lit] at rS bS
  obtain ⟨WS, hWS⟩ : ∃ WS, WS = WR.alloc (.cells #[.string ⟨#[]⟩, .int .i64 0, .int .i64 0, .int .i64 0, .int .i64 0, .int .i64 0, .string ⟨#[]⟩, .slice none 0 0] 29 (0, 0)) := ⟨_, rfl⟩
  rw [← hWS] at rS bS
  rw [← hC] at hWR ⊢
  have HWQ := Lib.hid hWQ
  have HWR := Lib.hid hWR
  have HWS := Lib.hid hWS
  have bQS : Below WQ.heap.size WQ WS := Below.trans bR (bS.mono bR.size)
  have bwS : Below w.heap.size w WS := Below.trans bQ (bQS.mono bQ.size)
  have rQ' := (bQS.block _ (Array.getElem?_eq_some_iff.1 rQ).1).trans rQ
  have rR' := (bS.block _ (Array.getElem?_eq_some_iff.1 rR).1).trans rR
  have c4 := (rr_cell rR').2.2.2.2
  have SO := Lib.hid (dSOA_any A r.d c WS (hD.bys.on bwS) hD.le hD.max)
  obtain ⟨-, q1, q2⟩ := (⟨(cell_of_row _ w.heap.size 0 _ _ _ rQ').trans rfl, (cell_of_row _ w.heap.size 1 _ _ _ rQ').trans rfl, (cell_of_row _ w.heap.size 2 _ _ _ rQ').trans rfl⟩ : WS.cell? ⟨w.heap.size, 0, none⟩ = some (.string (bs qn)) ∧ WS.cell? ⟨w.heap.size, 1, none⟩ = some (.int .i64 qt) ∧ WS.cell? ⟨w.heap.size, 2, none⟩ = some (.int .i64 qc))
  have HC := Lib.hid hC
  have HBW := Lib.hid bwS
  have HRQ := Lib.hid rQ'
  have HRR := Lib.hid rR'
  have HRS := Lib.hid rS
  have hWR8 : w.heap.size ≤ WR.heap.size := by rw [hzR, hzQ]; omega
  have HSZ : Hid (WS.heap.size = w.heap.size + 3) := Lib.hid (by rw [hWS]; show (WR.heap.push _).size = _; rw [Array.size_push, hzR, hzQ])
  have HDA := Lib.hid hD
  have HZR : Hid (WR.heap.size = w.heap.size + 2) := Lib.hid (by rw [hzR, hzQ])
  clear hC hWQ hWR hWS rQ rR rS rQ' rR' bQ bR bS bQS bwS hzQ hzR hD q1 q2
  go_enter Try.func22, Try.ntmps22
  go_wp2_with (first | rw [← HWS.out] | rw [← HWR.out] | rw [← HWQ.out] | fail)
  refine SO.out.mono ?_
  rintro e w1 ⟨rfl, b1⟩
  have rO := row_new (w := w1) (k := w1.heap.size) (.cells (soaC none) 67 (0, 0)) rfl
  have r5 := setRow_heap _ _ _ (soaC (soa r.d)) _ _ rO
  have q1 : Below w1.heap.size w1 ((w1.alloc (.cells (soaC none) 67)).setRow w1.heap.size (soaC (soa r.d))) := Below.setRow (Below.alloc (Below.refl _ _) (Nat.le_refl _) _) (Nat.le_refl _) _
  have hZ0 : soaC none = #[.string ⟨#[]⟩, .string ⟨#[]⟩, .int .i64 0, .int .i64 0, .int .i64 0, .int .i64 0, .int .i64 0] := rfl
  rw [hZ0] at rO r5 q1
  obtain ⟨W2, hW2⟩ : ∃ W2, W2 = (w1.alloc (.cells #[.string ⟨#[]⟩, .string ⟨#[]⟩, .int .i64 0, .int .i64 0, .int .i64 0, .int .i64 0, .int .i64 0] 67)).setRow w1.heap.size (soaC (soa r.d)) := ⟨_, rfl⟩
  rw [← hW2] at r5 q1
  have HW2 := Lib.hid hW2
  have IO : Hid ((Try.prog.info? 67).map (·.size) = some (soaC (soa r.d)).size) := Lib.hid (soa_info (soaC_size _))
  have ZO : Hid ((#[.string ⟨#[]⟩, .string ⟨#[]⟩, .int .i64 0, .int .i64 0, .int .i64 0, .int .i64 0, .int .i64 0] : Array Value).size = (soaC (soa r.d)).size) := Lib.hid (soaC_size _).symm
  have OO := Lib.hid (soaC_one (soa r.d))
  have bS2 := Below.trans b1 (q1.mono b1.size)
  have rq2 := (bS2.block _ (Array.getElem?_eq_some_iff.1 HRQ.out).1).trans HRQ.out
  have rr2 := (bS2.block _ (Array.getElem?_eq_some_iff.1 HRR.out).1).trans HRR.out
  have rs2 := (bS2.block _ (Array.getElem?_eq_some_iff.1 HRS.out).1).trans HRS.out
  have cq0 : W2.cell? ⟨w.heap.size, 0, none⟩ = some (.string (bs qn)) := (cell_of_row _ _ 0 _ _ _ rq2).trans rfl
  have cq1 : W2.cell? ⟨w.heap.size, 1, none⟩ = some (.int .i64 qt) := (cell_of_row _ _ 1 _ _ _ rq2).trans rfl
  have cq2 : W2.cell? ⟨w.heap.size, 2, none⟩ = some (.int .i64 qc) := (cell_of_row _ _ 2 _ _ _ rq2).trans rfl
  obtain ⟨cr0, cr1, cr2, cr3, cr4⟩ := rr_cell rr2
  have co6 : W2.cell? ⟨w1.heap.size, 6, none⟩ = some (.int .i64 (minN r)) := (cell_of_row _ _ 6 _ _ _ r5).trans (by rw [← soaC_min r])
  have HB2 := Lib.hid (Below.trans HBW.out (bS2.mono HBW.out.size))
  have RQ2 := Lib.hid rq2
  have RR2 := Lib.hid rr2
  have RS2 := Lib.hid rs2
  have RO2 := Lib.hid r5
  have CT := Lib.hid (fun W => canType_any qt W)
  obtain ⟨O, hO⟩ : ∃ O, O = soaC (soa r.d) := ⟨_, rfl⟩
  rw [← hO] at HW2 IO ZO OO
  have R8 : Hid (W2.heap[w.heap.size + 2]? = some (.cells #[.string ⟨#[]⟩, .int .i64 0, .int .i64 0, .int .i64 0, .int .i64 0, .int .i64 0, .string ⟨#[]⟩, .slice none 0 0] 29 (0, 0))) := Lib.hid (by rw [← HZR.out]; exact rs2)
  have HZ2 : Hid (w.heap.size + 3 ≤ W2.heap.size) := Lib.hid (by have := bS2.size; have := HSZ.out; omega)
  have HOK : Hid (negOk qt kind r = ((soa r.d).isSome && (decide (r.t = 6) && (rangeN 1 qt && (decide (kind = 1) || decide (kind = 2)))))) := Lib.hid rfl
  clear SO b1 r5 q1 hZ0 hW2 bS2 rq2 rr2 rs2 c4
  rw [← hO]
  obtain ⟨ok, hoke⟩ : ∃ ok, ok = (soa r.d).isSome := ⟨_, rfl⟩
  have HOKE := Lib.hid hoke
  rw [← hoke] at HOK ⊢
  clear hoke
  clear hO
  have go_err : negOk qt kind r = false → negB qn qt qc kind r now = false := fun h => by unfold negB; rw [h]; rfl
  have GE := Lib.hid go_err
  clear go_err
  have ST0 := storeSt_row (D := #[.string ⟨#[]⟩, .int .i64 0, .int .i64 0, .int .i64 0, .int .i64 0, .int .i64 0, .string ⟨#[]⟩, .slice none 0 0]) RS2.out info_st rfl (by simp [Value.oneCell'])
  have HWR8 : Hid (w.heap.size ≤ WR.heap.size) := Lib.hid hWR8
  clear hWR8
  cases ok with
  | false =>
    go_wp2_with (first
      | (refine wpList_store_row rfl 67 (.tmp 10) (.tmp 17) rfl w1.heap.size O rfl rfl 67 _ rO IO.out (by first | exact ZO.out | exact ZO.out.symm) OO.out ?_; rw [← HW2.out])
      | fail)
    refine bodyPost_ret (v := .tuple #[.agg stZ, .int .i64 1]) (results_neg (g := WR.heap.size) rfl rfl (setRow_heap _ _ _ _ _ _ RS2.out) info_st) rfl ?_
    exact ⟨Below.setRow HB2.out HWR8.out _, .inl ⟨GE.out (by rw [HOK.out]; simp [*]), rfl⟩⟩
  | true =>
    have hokE : Hid ((soa r.d).isSome = true) := Lib.hid HOKE.out.symm
    by_cases h6 : r.t = 6
    · cases hct : rangeN 1 qt with
      | false =>
        rw [hct] at CT
        go_wp2_with (first
      | (refine wpList_store_row rfl 67 (.tmp 10) (.tmp 17) rfl w1.heap.size O rfl rfl 67 _ rO IO.out (by first | exact ZO.out | exact ZO.out.symm) OO.out ?_; rw [← HW2.out])
      | fail)
        refine (CT.out _).mono ?_
        rintro e w5 ⟨rfl, rfl⟩
        go_wp2_with fail
        refine bodyPost_ret (v := .tuple #[.agg stZ, .int .i64 1]) (results_neg (g := WR.heap.size) rfl rfl (setRow_heap _ _ _ _ _ _ RS2.out) info_st) rfl ?_
        exact ⟨Below.setRow HB2.out HWR8.out _, .inl ⟨GE.out (by rw [HOK.out]; simp [*]), rfl⟩⟩
      | true =>
        rw [hct] at CT
        by_cases hk : kind = 1 ∨ kind = 2
        · rcases hk with rfl | rfl
          · go_wp2_with (first
      | (refine wpList_store_row rfl 67 (.tmp 10) (.tmp 17) rfl w1.heap.size O rfl rfl 67 _ rO IO.out (by first | exact ZO.out | exact ZO.out.symm) OO.out ?_; rw [← HW2.out])
      | fail)
            refine (CT.out _).mono ?_
            rintro e w3 ⟨rfl, rfl⟩
            have CLK := Lib.hid (fun W => clock_any now W)
            have LS1 := Lib.hid (fun W => last_any r.ttl W)
            have LS2 := Lib.hid (fun W => last_any (minN r) W)
            have hck := clock_bd now
            have hl1 := last_bdN r.ttl
            have hl2 := last_bdN (minN r)
            obtain ⟨ex, hex⟩ : ∃ ex, ex = clockN now + min (lastN r.ttl) (lastN (minN r)) := ⟨_, rfl⟩
            have hwr : IntKind.i64.wrap (clockN now + min (lastN r.ttl) (lastN (minN r))) = ex := by rw [hex]; exact IntWalk.i64_in _ (by omega)
            have hDA2 := (HDA.out.on HB2.out)
            have CL := Lib.hid (fun (W : World) (h : Below W2.heap.size W2 W) => CloneR_any A r.d r.d.length c W (hDA2.bys.on h) rfl hdl (hDA2.bys.on h).inside)
            have F0 := fun (W : World) (h : Below W2.heap.size W2 W) => cell_on cq0 h
            have F1 := fun (W : World) (h : Below W2.heap.size W2 W) => cell_on cq1 h
            have F2 := fun (W : World) (h : Below W2.heap.size W2 W) => cell_on cq2 h
            have F3 := fun (W : World) (h : Below W2.heap.size W2 W) => cell_on cr0 h
            have F4 := fun (W : World) (h : Below W2.heap.size W2 W) => cell_on cr3 h
            have F5 := fun (W : World) (h : Below W2.heap.size W2 W) => cell_on cr4 h
            have F6 := fun (W : World) (h : Below W2.heap.size W2 W) => cell_on co6 h
            have HEX := Lib.hid hex
            have HST : Hid (∀ A c, stC (negS qn qt qc 1 r now) A c = #[.string (bs qn), .int .i64 qt, .int .i64 qc, .int .i64 3, .int .i64 1, .int .i64 ex, .string (bs r.n), .slice A 1 c]) := Lib.hid (fun A c => by rw [hex]; rfl)
            have HNB : Hid (negB qn qt qc 1 r now = canS (negS qn qt qc 1 r now)) := Lib.hid (negB_live ⟨by omega, (by simpa [rangeN] using hct : 1 ≤ qt ∧ qt ≤ 65535).1, (by simpa [rangeN] using hct : 1 ≤ qt ∧ qt ≤ 65535).2, h6, hokE.out⟩)
            have HSIZ : Hid (Sized (negS qn qt qc 1 r now)) := Lib.hid (negS_sized hdl hnl hql)
            generalize lastN r.ttl = l1 at *
            generalize lastN (minN r) = l2 at *
            generalize clockN now = ck at *
            generalize minN r = mn at *
            generalize r.ttl = tt at *
            obtain ⟨dn, hdn⟩ : ∃ dn, dn = r.d.length := ⟨_, rfl⟩
            have HDN := Lib.hid hdn
            rw [← hdn] at F5 CL
            clear hck hl1 hl2 hex hDA2 hdn cq0 cq1 cq2 cr0 cr1 cr2 cr3 cr4 co6 ST0
            go_wp2_with fail
            refine wp_region_under 25 (by kernel_rfl) (by kernel_rfl) (by kernel_rfl) rfl (d := fun i => (if i = 24 then 12 else 41 + i)) (R := NRK w.heap.size WQ.heap.size w1.heap.size W2.heap.size dn c qn r.n r.d qt qc 1 now ck tt l1 mn l2 ex A) (B := W2.heap.size) (Nat.le_refl _) (fun i j hi hj e => slot_inj (by omega) hi hj e) (fun i hi => by show (if i = 24 then 12 else 41 + i) < _; split <;> first | omega | (simp; omega) | simp) NRK_on (fun i hi b a' w' un hr => ?_) (fun V w' hV hB hs => ?_)
            · obtain ⟨_, o, ho, hall⟩ := mem_ready.1 hr
              have t1 : (a'.tmps[1]?).getD undef = .int .i64 1 := slot_of ((un.old 1 (fun i _ => by show (if i = 24 then 12 else 41 + i) ≠ 1; split <;> omega)).trans rfl)
              have t3 : (a'.tmps[3]?).getD undef = .int .i64 now := slot_of ((un.old 3 (fun i _ => by show (if i = 24 then 12 else 41 + i) ≠ 3; split <;> omega)).trans rfl)
              have t4 : (a'.tmps[4]?).getD undef = .pointer (some ⟨w.heap.size, 0, none⟩) := slot_of ((un.old 4 (fun i _ => by show (if i = 24 then 12 else 41 + i) ≠ 4; split <;> omega)).trans rfl)
              have t6 : (a'.tmps[6]?).getD undef = .pointer (some ⟨WQ.heap.size, 0, none⟩) := slot_of ((un.old 6 (fun i _ => by show (if i = 24 then 12 else 41 + i) ≠ 6; split <;> omega)).trans rfl)
              have t10 : (a'.tmps[10]?).getD undef = .pointer (some ⟨w1.heap.size, 0, none⟩) := slot_of ((un.old 10 (fun i _ => by show (if i = 24 then 12 else 41 + i) ≠ 10; split <;> omega)).trans rfl)
              have cc0 := F0 _ un.bel
              have cc1 := F1 _ un.bel
              have cc2 := F2 _ un.bel
              have cc3 := F3 _ un.bel
              have cc4 := F4 _ un.bel
              have cc5 := F5 _ un.bel
              have cc6 := F6 _ un.bel
              match i, hi with
              | 0, _ =>
                obtain rfl := Option.some.inj ho
                refine ⟨_, rfl, rfl, ?_⟩
                clear ho hall hr  un
                unfold Oper.wp
                go_simp
                exact ⟨_, rfl, rfl, Below.refl _ _⟩
              | 1, _ =>
                obtain rfl := Option.some.inj ho
                have h0 := getD_both_true (hall ⟨0, .data⟩ (by simp) rfl)
                obtain ⟨v0, hv0, hr0⟩ := un.got 0 (by simp) h0
                obtain rfl := hr0
                have s0 := slot_of (j := 41) hv0
                refine ⟨_, rfl, rfl, ?_⟩
                clear ho hall hr hv0 un
                unfold Oper.wp
                go_simp
                exact ⟨_, rfl, rfl, Below.refl _ _⟩
              | 2, _ =>
                obtain rfl := Option.some.inj ho
                refine ⟨_, rfl, rfl, ?_⟩
                clear ho hall hr  un
                unfold Oper.wp
                go_simp
                exact ⟨_, rfl, rfl, Below.refl _ _⟩
              | 3, _ =>
                obtain rfl := Option.some.inj ho
                have h2 := getD_both_true (hall ⟨2, .data⟩ (by simp) rfl)
                obtain ⟨v2, hv2, hr2⟩ := un.got 2 (by simp) h2
                obtain rfl := hr2
                have s2 := slot_of (j := 43) hv2
                refine ⟨_, rfl, rfl, ?_⟩
                clear ho hall hr hv2 un
                unfold Oper.wp
                go_simp
                exact ⟨_, rfl, rfl, Below.refl _ _⟩
              | 4, _ =>
                obtain rfl := Option.some.inj ho
                refine ⟨_, rfl, rfl, ?_⟩
                clear ho hall hr  un
                unfold Oper.wp
                go_simp
                exact ⟨_, rfl, rfl, Below.refl _ _⟩
              | 5, _ =>
                obtain rfl := Option.some.inj ho
                have h4 := getD_both_true (hall ⟨4, .data⟩ (by simp) rfl)
                obtain ⟨v4, hv4, hr4⟩ := un.got 4 (by simp) h4
                obtain rfl := hr4
                have s4 := slot_of (j := 45) hv4
                refine ⟨_, rfl, rfl, ?_⟩
                clear ho hall hr hv4 un
                unfold Oper.wp
                go_simp
                exact ⟨_, rfl, rfl, Below.refl _ _⟩
              | 6, _ =>
                obtain rfl := Option.some.inj ho
                refine ⟨_, rfl, rfl, ?_⟩
                clear ho hall hr  un
                unfold Oper.wp
                go_simp
                exact ⟨_, rfl, rfl, Below.refl _ _⟩
              | 7, _ =>
                obtain rfl := Option.some.inj ho
                refine ⟨_, rfl, rfl, ?_⟩
                clear ho hall hr  un
                unfold Oper.wp
                go_simp
                exact ⟨_, rfl, rfl, Below.refl _ _⟩
              | 8, _ =>
                obtain rfl := Option.some.inj ho
                have h7 := getD_both_true (hall ⟨7, .data⟩ (by simp) rfl)
                obtain ⟨v7, hv7, hr7⟩ := un.got 7 (by simp) h7
                obtain rfl := hr7
                have s7 := slot_of (j := 48) hv7
                refine ⟨_, rfl, rfl, ?_⟩
                clear ho hall hr hv7 un
                unfold Oper.wp
                go_simp
                refine (CLK.out _).mono ?_
                rintro e w2 ⟨rfl, rfl⟩
                exact ⟨_, rfl, rfl, Below.refl _ _⟩
              | 9, _ =>
                obtain rfl := Option.some.inj ho
                refine ⟨_, rfl, rfl, ?_⟩
                clear ho hall hr  un
                unfold Oper.wp
                go_simp
                exact ⟨_, rfl, rfl, Below.refl _ _⟩
              | 10, _ =>
                obtain rfl := Option.some.inj ho
                have h9 := getD_both_true (hall ⟨9, .data⟩ (by simp) rfl)
                obtain ⟨v9, hv9, hr9⟩ := un.got 9 (by simp) h9
                obtain rfl := hr9
                have s9 := slot_of (j := 50) hv9
                refine ⟨_, rfl, rfl, ?_⟩
                clear ho hall hr hv9 un
                unfold Oper.wp
                go_simp
                exact ⟨_, rfl, rfl, Below.refl _ _⟩
              | 11, _ =>
                obtain rfl := Option.some.inj ho
                have h10 := getD_both_true (hall ⟨10, .data⟩ (by simp) rfl)
                obtain ⟨v10, hv10, hr10⟩ := un.got 10 (by simp) h10
                obtain rfl := hr10
                have s10 := slot_of (j := 51) hv10
                refine ⟨_, rfl, rfl, ?_⟩
                clear ho hall hr hv10 un
                unfold Oper.wp
                go_simp
                refine (LS1.out _).mono ?_
                rintro e w2 ⟨rfl, rfl⟩
                exact ⟨_, rfl, rfl, Below.refl _ _⟩
              | 12, _ =>
                obtain rfl := Option.some.inj ho
                refine ⟨_, rfl, rfl, ?_⟩
                clear ho hall hr  un
                unfold Oper.wp
                go_simp
                exact ⟨_, rfl, rfl, Below.refl _ _⟩
              | 13, _ =>
                obtain rfl := Option.some.inj ho
                have h12 := getD_both_true (hall ⟨12, .data⟩ (by simp) rfl)
                obtain ⟨v12, hv12, hr12⟩ := un.got 12 (by simp) h12
                obtain rfl := hr12
                have s12 := slot_of (j := 53) hv12
                refine ⟨_, rfl, rfl, ?_⟩
                clear ho hall hr hv12 un
                unfold Oper.wp
                go_simp
                exact ⟨_, rfl, rfl, Below.refl _ _⟩
              | 14, _ =>
                obtain rfl := Option.some.inj ho
                have h13 := getD_both_true (hall ⟨13, .data⟩ (by simp) rfl)
                obtain ⟨v13, hv13, hr13⟩ := un.got 13 (by simp) h13
                obtain rfl := hr13
                have s13 := slot_of (j := 54) hv13
                refine ⟨_, rfl, rfl, ?_⟩
                clear ho hall hr hv13 un
                unfold Oper.wp
                go_simp
                refine (LS2.out _).mono ?_
                rintro e w2 ⟨rfl, rfl⟩
                exact ⟨_, rfl, rfl, Below.refl _ _⟩
              | 15, _ =>
                obtain rfl := Option.some.inj ho
                have h11 := getD_both_true (hall ⟨11, .data⟩ (by simp) rfl)
                obtain ⟨v11, hv11, hr11⟩ := un.got 11 (by simp) h11
                obtain rfl := hr11
                have s11 := slot_of (j := 52) hv11
                have h14 := getD_both_true (hall ⟨14, .data⟩ (by simp) rfl)
                obtain ⟨v14, hv14, hr14⟩ := un.got 14 (by simp) h14
                obtain rfl := hr14
                have s14 := slot_of (j := 55) hv14
                refine ⟨_, rfl, rfl, ?_⟩
                clear ho hall hr hv11 hv14 un
                unfold Oper.wp
                go_simp
                exact ⟨_, rfl, rfl, Below.refl _ _⟩
              | 16, _ =>
                obtain rfl := Option.some.inj ho
                have h8 := getD_both_true (hall ⟨8, .data⟩ (by simp) rfl)
                obtain ⟨v8, hv8, hr8⟩ := un.got 8 (by simp) h8
                obtain rfl := hr8
                have s8 := slot_of (j := 49) hv8
                have h15 := getD_both_true (hall ⟨15, .data⟩ (by simp) rfl)
                obtain ⟨v15, hv15, hr15⟩ := un.got 15 (by simp) h15
                obtain rfl := hr15
                have s15 := slot_of (j := 56) hv15
                refine ⟨_, rfl, rfl, ?_⟩
                clear ho hall hr hv8 hv15 un
                unfold Oper.wp
                go_simp
                exact ⟨_, rfl, rfl, Below.refl _ _⟩
              | 17, _ =>
                obtain rfl := Option.some.inj ho
                refine ⟨_, rfl, rfl, ?_⟩
                clear ho hall hr  un
                unfold Oper.wp
                go_simp
                exact ⟨_, rfl, rfl, Below.refl _ _⟩
              | 18, _ =>
                obtain rfl := Option.some.inj ho
                have h17 := getD_both_true (hall ⟨17, .data⟩ (by simp) rfl)
                obtain ⟨v17, hv17, hr17⟩ := un.got 17 (by simp) h17
                obtain rfl := hr17
                have s17 := slot_of (j := 58) hv17
                refine ⟨_, rfl, rfl, ?_⟩
                clear ho hall hr hv17 un
                unfold Oper.wp
                go_simp
                exact ⟨_, rfl, rfl, Below.refl _ _⟩
              | 19, _ =>
                obtain rfl := Option.some.inj ho
                refine ⟨_, rfl, rfl, ?_⟩
                clear ho hall hr  un
                unfold Oper.wp
                go_simp
                exact ⟨_, rfl, rfl, Below.refl _ _⟩
              | 20, _ =>
                obtain rfl := Option.some.inj ho
                have h19 := getD_both_true (hall ⟨19, .data⟩ (by simp) rfl)
                obtain ⟨v19, hv19, hr19⟩ := un.got 19 (by simp) h19
                obtain rfl := hr19
                have s19 := slot_of (j := 60) hv19
                refine ⟨_, rfl, rfl, ?_⟩
                clear ho hall hr hv19 un
                unfold Oper.wp
                go_simp
                exact ⟨_, rfl, rfl, Below.refl _ _⟩
              | 21, _ =>
                obtain rfl := Option.some.inj ho
                have h20 := getD_both_true (hall ⟨20, .data⟩ (by simp) rfl)
                obtain ⟨v20, hv20, hr20⟩ := un.got 20 (by simp) h20
                obtain rfl := hr20
                have s20 := slot_of (j := 61) hv20
                refine ⟨_, rfl, rfl, ?_⟩
                clear ho hall hr hv20
                unfold Oper.wp
                go_simp
                refine (CL.out _ un.bel).mono ?_
                rintro e w2 ⟨v2, rfl, hOw, -, hBx⟩
                obtain ⟨a5, c5, rfl, hT, m1, m2, m3⟩ := hOw.bysT
                exact ⟨_, rfl, ⟨a5, c5, rfl, hT, m1, m2, m3⟩, hBx⟩
              | 22, _ =>
                obtain rfl := Option.some.inj ho
                have h21 := getD_both_true (hall ⟨21, .data⟩ (by simp) rfl)
                obtain ⟨v21, hv21, hr21⟩ := un.got 21 (by simp) h21
                have s21 := slot_of (j := 62) hv21
                obtain ⟨a5, c5, rfl, hT, m1, m2, m3⟩ := hr21
                refine ⟨_, rfl, rfl, ?_⟩
                clear ho hall hr hv21 un
                unfold Oper.wp
                go_simp
                exact ⟨_, rfl, ⟨_, rfl, list_one (row_new _ rfl) (hT.on (Below.alloc (Below.refl _ _) (Nat.le_refl _) _)) m1 m2 m3⟩, Below.alloc (Below.refl _ _) (Nat.le_refl _) _⟩
              | 23, _ =>
                obtain rfl := Option.some.inj ho
                have h1 := getD_both_true (hall ⟨1, .data⟩ (by simp) rfl)
                obtain ⟨v1, hv1, hr1⟩ := un.got 1 (by simp) h1
                obtain rfl := hr1
                have s1 := slot_of (j := 42) hv1
                have h3 := getD_both_true (hall ⟨3, .data⟩ (by simp) rfl)
                obtain ⟨v3, hv3, hr3⟩ := un.got 3 (by simp) h3
                obtain rfl := hr3
                have s3 := slot_of (j := 44) hv3
                have h5 := getD_both_true (hall ⟨5, .data⟩ (by simp) rfl)
                obtain ⟨v5, hv5, hr5⟩ := un.got 5 (by simp) h5
                obtain rfl := hr5
                have s5 := slot_of (j := 46) hv5
                have h6 := getD_both_true (hall ⟨6, .data⟩ (by simp) rfl)
                obtain ⟨v6, hv6, hr6⟩ := un.got 6 (by simp) h6
                obtain rfl := hr6
                have s6 := slot_of (j := 47) hv6
                have h16 := getD_both_true (hall ⟨16, .data⟩ (by simp) rfl)
                obtain ⟨v16, hv16, hr16⟩ := un.got 16 (by simp) h16
                obtain rfl := hr16
                have s16 := slot_of (j := 57) hv16
                have h18 := getD_both_true (hall ⟨18, .data⟩ (by simp) rfl)
                obtain ⟨v18, hv18, hr18⟩ := un.got 18 (by simp) h18
                obtain rfl := hr18
                have s18 := slot_of (j := 59) hv18
                have h22 := getD_both_true (hall ⟨22, .data⟩ (by simp) rfl)
                obtain ⟨v22, hv22, hr22⟩ := un.got 22 (by simp) h22
                have s22 := slot_of (j := 63) hv22
                obtain ⟨gs, rfl, hL⟩ := hr22
                refine ⟨_, rfl, rfl, ?_⟩
                clear ho hall hr hv1 hv3 hv5 hv6 hv16 hv18 hv22 un
                unfold Oper.wp
                go_simp
                exact ⟨_, rfl, ⟨gs, rfl, hL⟩, Below.refl _ _⟩
              | 24, _ =>
                obtain rfl := Option.some.inj ho
                refine ⟨_, rfl, rfl, ?_⟩
                clear ho hall hr 
                unfold Oper.wp
                go_simp
                exact ⟨_, rfl, ⟨_, rfl, un.big, row_new _ rfl⟩, Below.alloc (Below.refl _ _) (Nat.le_refl _) _⟩
            · have h23 : ∃ gs : Nat, V 23 = .agg #[.string (bs qn), .int .i64 qt, .int .i64 qc, .int .i64 3, .int .i64 1, .int .i64 ex, .string (bs r.n), .slice (some ⟨gs, 0, none⟩) 1 1] ∧ ByssT w' (some ⟨gs, 0, none⟩) [r.d] := hV 23 (by omega)
              have h24 : ∃ gb : Nat, V 24 = .pointer (some ⟨gb, 0, none⟩) ∧ W2.heap.size ≤ gb ∧ w'.heap[gb]? = some (.cells #[.string ⟨#[]⟩, .int .i64 0, .int .i64 0, .int .i64 0, .int .i64 0, .int .i64 0, .string ⟨#[]⟩, .slice none 0 0] 29 (0, 0)) := hV 24 (by omega)
              obtain ⟨gs, u23, hL⟩ := h23
              obtain ⟨gb, u24, hgb, hrb⟩ := h24
              simp only [putAll, Act.put, u23, u24, reduceIte, Nat.reduceEqDiff, Nat.reduceAdd, List.setIfInBounds_toArray, List.set_cons_succ, List.set_cons_zero, List.drop_succ_cons, List.drop_zero]
              generalize V 0 = y0, V 1 = y1, V 2 = y2, V 3 = y3, V 4 = y4, V 5 = y5, V 6 = y6, V 7 = y7, V 8 = y8, V 9 = y9, V 10 = y10, V 11 = y11, V 12 = y12, V 13 = y13, V 14 = y14, V 15 = y15, V 16 = y16, V 17 = y17, V 18 = y18, V 19 = y19, V 20 = y20, V 21 = y21, V 22 = y22
              clear hV u23 u24
              have N : NZ w (w'.setRow gb #[.string (bs qn), .int .i64 qt, .int .i64 qc, .int .i64 3, .int .i64 1, .int .i64 ex, .string (bs r.n), .slice (some ⟨gs, 0, none⟩) 1 1]) gb gs #[.string (bs qn), .int .i64 qt, .int .i64 qc, .int .i64 3, .int .i64 1, .int .i64 ex, .string (bs r.n), .slice (some ⟨gs, 0, none⟩) 1 1] r.d := nz_made HB2.out HZ2.out R8.out hB hgb hrb hL _
              have STF := storeSt_row (D := #[.string (bs qn), .int .i64 qt, .int .i64 qc, .int .i64 3, .int .i64 1, .int .i64 ex, .string (bs r.n), .slice (some ⟨gs, 0, none⟩) 1 1]) hrb info_st rfl (by simp [Value.oneCell'])
              obtain ⟨D, hD⟩ : ∃ D : Array Value, D = #[.string (bs qn), .int .i64 qt, .int .i64 qc, .int .i64 3, .int .i64 1, .int .i64 ex, .string (bs r.n), .slice (some ⟨gs, 0, none⟩) 1 1] := ⟨_, rfl⟩
              rw [← hD] at N STF ⊢
              generalize w'.setRow gb D = W5 at *
              clear F0 F1 F2 F3 F4 F5 F6 CLK LS1 LS2 CL hL hgb hrb hB hs hwr
              have N2 := N
              rw [hD] at N2
              clear N hD
              obtain ⟨E, hE⟩ : ∃ E : Array Value, E = #[.string (bs qn), .int .i64 qt, .int .i64 qc, .int .i64 3, .int .i64 1, .int .i64 ex, .string (bs r.n), .slice (some ⟨gs, 0, none⟩) 1 1] := ⟨_, rfl⟩
              have hST : stC (negS qn qt qc 1 r now) (some ⟨gs, 0, none⟩) 1 = E := (HST.out _ _).trans hE.symm
              rw [← hE] at N2
              have CN := Lib.hid (Can8_any (negS qn qt qc 1 r now) (some ⟨gs, 0, none⟩) 1 W5 N2.own.byss HSIZ.out)
              rw [hST] at CN
              have hEs : E.size = 8 := by rw [hE]; rfl
              have hE1 : E.all (·.oneCell') = true := by rw [hE]; simp [Value.oneCell']
              have LD := loadSt_row N2.rb (by rw [hEs]; exact info_st)
              have HN2 := Lib.hid N2
              have HSTE := Lib.hid hST
              have HES := Lib.hid hEs
              have HE1 := Lib.hid hE1
              clear N2 hST hE hEs hE1
              go_wp2_with (first | rw [← HW6.out] | fail)
              refine CN.out.mono ?_
              rintro e w8 ⟨rfl, b8⟩
              have N8 := HN2.out.on b8
              have r8 := N8.r8
              rw [← HZR.out] at r8
              have LD8 := loadSt_row N8.rb (by rw [HES.out]; exact info_st)
              have HN8 := Lib.hid N8
              have HR8 := Lib.hid r8
              clear HN2 b8 LD CN
              cases hcs : canS (negS qn qt qc 1 r now) with
              | false =>
                have ST8 := storeSt_row (D := #[.string ⟨#[]⟩, .int .i64 0, .int .i64 0, .int .i64 0, .int .i64 0, .int .i64 0, .string ⟨#[]⟩, .slice none 0 0]) r8 info_st rfl (by simp [Value.oneCell'])
                have HNF := Lib.hid (HNB.out.trans hcs)
                clear N8 r8 LD8
                go_wp2_with fail
                refine bodyPost_ret (v := .tuple #[.agg stZ, .int .i64 1]) (results_neg (g := WR.heap.size) rfl rfl (setRow_heap _ _ _ _ _ _ HR8.out) info_st) rfl ?_
                exact ⟨Below.setRow HN8.out.bel HWR8.out _, .inl ⟨HNF.out, rfl⟩⟩
              | true =>
                have ST8 := storeSt_row (D := E) r8 (by rw [HES.out]; exact info_st) HES.out.symm HE1.out
                have HNF := Lib.hid (HNB.out.trans hcs)
                clear N8 r8
                go_wp2_with fail
                refine bodyPost_ret (v := .tuple #[.agg E, .int .i64 0]) (results_neg (g := WR.heap.size) rfl rfl (setRow_heap _ _ _ _ _ _ HR8.out) (by rw [HES.out]; exact info_st)) rfl ?_
                exact ⟨Below.setRow HN8.out.bel HWR8.out _, .inr ⟨HNF.out, some ⟨gs, 0, none⟩, 1, by rw [HSTE.out], (stT_setRow HN8.out.own HR8.out).byss⟩⟩
          · go_wp2_with (first
      | (refine wpList_store_row rfl 67 (.tmp 10) (.tmp 17) rfl w1.heap.size O rfl rfl 67 _ rO IO.out (by first | exact ZO.out | exact ZO.out.symm) OO.out ?_; rw [← HW2.out])
      | fail)
            refine (CT.out _).mono ?_
            rintro e w3 ⟨rfl, rfl⟩
            have CLK := Lib.hid (fun W => clock_any now W)
            have LS1 := Lib.hid (fun W => last_any r.ttl W)
            have LS2 := Lib.hid (fun W => last_any (minN r) W)
            have hck := clock_bd now
            have hl1 := last_bdN r.ttl
            have hl2 := last_bdN (minN r)
            obtain ⟨ex, hex⟩ : ∃ ex, ex = clockN now + min (lastN r.ttl) (lastN (minN r)) := ⟨_, rfl⟩
            have hwr : IntKind.i64.wrap (clockN now + min (lastN r.ttl) (lastN (minN r))) = ex := by rw [hex]; exact IntWalk.i64_in _ (by omega)
            have hDA2 := (HDA.out.on HB2.out)
            have CL := Lib.hid (fun (W : World) (h : Below W2.heap.size W2 W) => CloneR_any A r.d r.d.length c W (hDA2.bys.on h) rfl hdl (hDA2.bys.on h).inside)
            have F0 := fun (W : World) (h : Below W2.heap.size W2 W) => cell_on cq0 h
            have F1 := fun (W : World) (h : Below W2.heap.size W2 W) => cell_on cq1 h
            have F2 := fun (W : World) (h : Below W2.heap.size W2 W) => cell_on cq2 h
            have F3 := fun (W : World) (h : Below W2.heap.size W2 W) => cell_on cr0 h
            have F4 := fun (W : World) (h : Below W2.heap.size W2 W) => cell_on cr3 h
            have F5 := fun (W : World) (h : Below W2.heap.size W2 W) => cell_on cr4 h
            have F6 := fun (W : World) (h : Below W2.heap.size W2 W) => cell_on co6 h
            have HEX := Lib.hid hex
            have HST : Hid (∀ A c, stC (negS qn qt qc 2 r now) A c = #[.string (bs qn), .int .i64 0, .int .i64 qc, .int .i64 3, .int .i64 2, .int .i64 ex, .string (bs r.n), .slice A 1 c]) := Lib.hid (fun A c => by rw [hex]; rfl)
            have HNB : Hid (negB qn qt qc 2 r now = canS (negS qn qt qc 2 r now)) := Lib.hid (negB_live ⟨by omega, (by simpa [rangeN] using hct : 1 ≤ qt ∧ qt ≤ 65535).1, (by simpa [rangeN] using hct : 1 ≤ qt ∧ qt ≤ 65535).2, h6, hokE.out⟩)
            have HSIZ : Hid (Sized (negS qn qt qc 2 r now)) := Lib.hid (negS_sized hdl hnl hql)
            generalize lastN r.ttl = l1 at *
            generalize lastN (minN r) = l2 at *
            generalize clockN now = ck at *
            generalize minN r = mn at *
            generalize r.ttl = tt at *
            obtain ⟨dn, hdn⟩ : ∃ dn, dn = r.d.length := ⟨_, rfl⟩
            have HDN := Lib.hid hdn
            rw [← hdn] at F5 CL
            clear hck hl1 hl2 hex hDA2 hdn cq0 cq1 cq2 cr0 cr1 cr2 cr3 cr4 co6 ST0
            go_wp2_with fail
            refine wp_region_under 25 (by kernel_rfl) (by kernel_rfl) (by kernel_rfl) rfl (d := fun i => (if i = 24 then 12 else 41 + i)) (R := NRK w.heap.size WQ.heap.size w1.heap.size W2.heap.size dn c qn r.n r.d qt qc 2 now ck tt l1 mn l2 ex A) (B := W2.heap.size) (Nat.le_refl _) (fun i j hi hj e => slot_inj (by omega) hi hj e) (fun i hi => by show (if i = 24 then 12 else 41 + i) < _; split <;> first | omega | (simp; omega) | simp) NRK_on (fun i hi b a' w' un hr => ?_) (fun V w' hV hB hs => ?_)
            · obtain ⟨_, o, ho, hall⟩ := mem_ready.1 hr
              have t1 : (a'.tmps[1]?).getD undef = .int .i64 2 := slot_of ((un.old 1 (fun i _ => by show (if i = 24 then 12 else 41 + i) ≠ 1; split <;> omega)).trans rfl)
              have t3 : (a'.tmps[3]?).getD undef = .int .i64 now := slot_of ((un.old 3 (fun i _ => by show (if i = 24 then 12 else 41 + i) ≠ 3; split <;> omega)).trans rfl)
              have t4 : (a'.tmps[4]?).getD undef = .pointer (some ⟨w.heap.size, 0, none⟩) := slot_of ((un.old 4 (fun i _ => by show (if i = 24 then 12 else 41 + i) ≠ 4; split <;> omega)).trans rfl)
              have t6 : (a'.tmps[6]?).getD undef = .pointer (some ⟨WQ.heap.size, 0, none⟩) := slot_of ((un.old 6 (fun i _ => by show (if i = 24 then 12 else 41 + i) ≠ 6; split <;> omega)).trans rfl)
              have t10 : (a'.tmps[10]?).getD undef = .pointer (some ⟨w1.heap.size, 0, none⟩) := slot_of ((un.old 10 (fun i _ => by show (if i = 24 then 12 else 41 + i) ≠ 10; split <;> omega)).trans rfl)
              have cc0 := F0 _ un.bel
              have cc1 := F1 _ un.bel
              have cc2 := F2 _ un.bel
              have cc3 := F3 _ un.bel
              have cc4 := F4 _ un.bel
              have cc5 := F5 _ un.bel
              have cc6 := F6 _ un.bel
              match i, hi with
              | 0, _ =>
                obtain rfl := Option.some.inj ho
                refine ⟨_, rfl, rfl, ?_⟩
                clear ho hall hr  un
                unfold Oper.wp
                go_simp
                exact ⟨_, rfl, rfl, Below.refl _ _⟩
              | 1, _ =>
                obtain rfl := Option.some.inj ho
                have h0 := getD_both_true (hall ⟨0, .data⟩ (by simp) rfl)
                obtain ⟨v0, hv0, hr0⟩ := un.got 0 (by simp) h0
                obtain rfl := hr0
                have s0 := slot_of (j := 41) hv0
                refine ⟨_, rfl, rfl, ?_⟩
                clear ho hall hr hv0 un
                unfold Oper.wp
                go_simp
                exact ⟨_, rfl, rfl, Below.refl _ _⟩
              | 2, _ =>
                obtain rfl := Option.some.inj ho
                refine ⟨_, rfl, rfl, ?_⟩
                clear ho hall hr  un
                unfold Oper.wp
                go_simp
                exact ⟨_, rfl, rfl, Below.refl _ _⟩
              | 3, _ =>
                obtain rfl := Option.some.inj ho
                have h2 := getD_both_true (hall ⟨2, .data⟩ (by simp) rfl)
                obtain ⟨v2, hv2, hr2⟩ := un.got 2 (by simp) h2
                obtain rfl := hr2
                have s2 := slot_of (j := 43) hv2
                refine ⟨_, rfl, rfl, ?_⟩
                clear ho hall hr hv2 un
                unfold Oper.wp
                go_simp
                exact ⟨_, rfl, rfl, Below.refl _ _⟩
              | 4, _ =>
                obtain rfl := Option.some.inj ho
                refine ⟨_, rfl, rfl, ?_⟩
                clear ho hall hr  un
                unfold Oper.wp
                go_simp
                exact ⟨_, rfl, rfl, Below.refl _ _⟩
              | 5, _ =>
                obtain rfl := Option.some.inj ho
                have h4 := getD_both_true (hall ⟨4, .data⟩ (by simp) rfl)
                obtain ⟨v4, hv4, hr4⟩ := un.got 4 (by simp) h4
                obtain rfl := hr4
                have s4 := slot_of (j := 45) hv4
                refine ⟨_, rfl, rfl, ?_⟩
                clear ho hall hr hv4 un
                unfold Oper.wp
                go_simp
                exact ⟨_, rfl, rfl, Below.refl _ _⟩
              | 6, _ =>
                obtain rfl := Option.some.inj ho
                refine ⟨_, rfl, rfl, ?_⟩
                clear ho hall hr  un
                unfold Oper.wp
                go_simp
                exact ⟨_, rfl, rfl, Below.refl _ _⟩
              | 7, _ =>
                obtain rfl := Option.some.inj ho
                refine ⟨_, rfl, rfl, ?_⟩
                clear ho hall hr  un
                unfold Oper.wp
                go_simp
                exact ⟨_, rfl, rfl, Below.refl _ _⟩
              | 8, _ =>
                obtain rfl := Option.some.inj ho
                have h7 := getD_both_true (hall ⟨7, .data⟩ (by simp) rfl)
                obtain ⟨v7, hv7, hr7⟩ := un.got 7 (by simp) h7
                obtain rfl := hr7
                have s7 := slot_of (j := 48) hv7
                refine ⟨_, rfl, rfl, ?_⟩
                clear ho hall hr hv7 un
                unfold Oper.wp
                go_simp
                refine (CLK.out _).mono ?_
                rintro e w2 ⟨rfl, rfl⟩
                exact ⟨_, rfl, rfl, Below.refl _ _⟩
              | 9, _ =>
                obtain rfl := Option.some.inj ho
                refine ⟨_, rfl, rfl, ?_⟩
                clear ho hall hr  un
                unfold Oper.wp
                go_simp
                exact ⟨_, rfl, rfl, Below.refl _ _⟩
              | 10, _ =>
                obtain rfl := Option.some.inj ho
                have h9 := getD_both_true (hall ⟨9, .data⟩ (by simp) rfl)
                obtain ⟨v9, hv9, hr9⟩ := un.got 9 (by simp) h9
                obtain rfl := hr9
                have s9 := slot_of (j := 50) hv9
                refine ⟨_, rfl, rfl, ?_⟩
                clear ho hall hr hv9 un
                unfold Oper.wp
                go_simp
                exact ⟨_, rfl, rfl, Below.refl _ _⟩
              | 11, _ =>
                obtain rfl := Option.some.inj ho
                have h10 := getD_both_true (hall ⟨10, .data⟩ (by simp) rfl)
                obtain ⟨v10, hv10, hr10⟩ := un.got 10 (by simp) h10
                obtain rfl := hr10
                have s10 := slot_of (j := 51) hv10
                refine ⟨_, rfl, rfl, ?_⟩
                clear ho hall hr hv10 un
                unfold Oper.wp
                go_simp
                refine (LS1.out _).mono ?_
                rintro e w2 ⟨rfl, rfl⟩
                exact ⟨_, rfl, rfl, Below.refl _ _⟩
              | 12, _ =>
                obtain rfl := Option.some.inj ho
                refine ⟨_, rfl, rfl, ?_⟩
                clear ho hall hr  un
                unfold Oper.wp
                go_simp
                exact ⟨_, rfl, rfl, Below.refl _ _⟩
              | 13, _ =>
                obtain rfl := Option.some.inj ho
                have h12 := getD_both_true (hall ⟨12, .data⟩ (by simp) rfl)
                obtain ⟨v12, hv12, hr12⟩ := un.got 12 (by simp) h12
                obtain rfl := hr12
                have s12 := slot_of (j := 53) hv12
                refine ⟨_, rfl, rfl, ?_⟩
                clear ho hall hr hv12 un
                unfold Oper.wp
                go_simp
                exact ⟨_, rfl, rfl, Below.refl _ _⟩
              | 14, _ =>
                obtain rfl := Option.some.inj ho
                have h13 := getD_both_true (hall ⟨13, .data⟩ (by simp) rfl)
                obtain ⟨v13, hv13, hr13⟩ := un.got 13 (by simp) h13
                obtain rfl := hr13
                have s13 := slot_of (j := 54) hv13
                refine ⟨_, rfl, rfl, ?_⟩
                clear ho hall hr hv13 un
                unfold Oper.wp
                go_simp
                refine (LS2.out _).mono ?_
                rintro e w2 ⟨rfl, rfl⟩
                exact ⟨_, rfl, rfl, Below.refl _ _⟩
              | 15, _ =>
                obtain rfl := Option.some.inj ho
                have h11 := getD_both_true (hall ⟨11, .data⟩ (by simp) rfl)
                obtain ⟨v11, hv11, hr11⟩ := un.got 11 (by simp) h11
                obtain rfl := hr11
                have s11 := slot_of (j := 52) hv11
                have h14 := getD_both_true (hall ⟨14, .data⟩ (by simp) rfl)
                obtain ⟨v14, hv14, hr14⟩ := un.got 14 (by simp) h14
                obtain rfl := hr14
                have s14 := slot_of (j := 55) hv14
                refine ⟨_, rfl, rfl, ?_⟩
                clear ho hall hr hv11 hv14 un
                unfold Oper.wp
                go_simp
                exact ⟨_, rfl, rfl, Below.refl _ _⟩
              | 16, _ =>
                obtain rfl := Option.some.inj ho
                have h8 := getD_both_true (hall ⟨8, .data⟩ (by simp) rfl)
                obtain ⟨v8, hv8, hr8⟩ := un.got 8 (by simp) h8
                obtain rfl := hr8
                have s8 := slot_of (j := 49) hv8
                have h15 := getD_both_true (hall ⟨15, .data⟩ (by simp) rfl)
                obtain ⟨v15, hv15, hr15⟩ := un.got 15 (by simp) h15
                obtain rfl := hr15
                have s15 := slot_of (j := 56) hv15
                refine ⟨_, rfl, rfl, ?_⟩
                clear ho hall hr hv8 hv15 un
                unfold Oper.wp
                go_simp
                exact ⟨_, rfl, rfl, Below.refl _ _⟩
              | 17, _ =>
                obtain rfl := Option.some.inj ho
                refine ⟨_, rfl, rfl, ?_⟩
                clear ho hall hr  un
                unfold Oper.wp
                go_simp
                exact ⟨_, rfl, rfl, Below.refl _ _⟩
              | 18, _ =>
                obtain rfl := Option.some.inj ho
                have h17 := getD_both_true (hall ⟨17, .data⟩ (by simp) rfl)
                obtain ⟨v17, hv17, hr17⟩ := un.got 17 (by simp) h17
                obtain rfl := hr17
                have s17 := slot_of (j := 58) hv17
                refine ⟨_, rfl, rfl, ?_⟩
                clear ho hall hr hv17 un
                unfold Oper.wp
                go_simp
                exact ⟨_, rfl, rfl, Below.refl _ _⟩
              | 19, _ =>
                obtain rfl := Option.some.inj ho
                refine ⟨_, rfl, rfl, ?_⟩
                clear ho hall hr  un
                unfold Oper.wp
                go_simp
                exact ⟨_, rfl, rfl, Below.refl _ _⟩
              | 20, _ =>
                obtain rfl := Option.some.inj ho
                have h19 := getD_both_true (hall ⟨19, .data⟩ (by simp) rfl)
                obtain ⟨v19, hv19, hr19⟩ := un.got 19 (by simp) h19
                obtain rfl := hr19
                have s19 := slot_of (j := 60) hv19
                refine ⟨_, rfl, rfl, ?_⟩
                clear ho hall hr hv19 un
                unfold Oper.wp
                go_simp
                exact ⟨_, rfl, rfl, Below.refl _ _⟩
              | 21, _ =>
                obtain rfl := Option.some.inj ho
                have h20 := getD_both_true (hall ⟨20, .data⟩ (by simp) rfl)
                obtain ⟨v20, hv20, hr20⟩ := un.got 20 (by simp) h20
                obtain rfl := hr20
                have s20 := slot_of (j := 61) hv20
                refine ⟨_, rfl, rfl, ?_⟩
                clear ho hall hr hv20
                unfold Oper.wp
                go_simp
                refine (CL.out _ un.bel).mono ?_
                rintro e w2 ⟨v2, rfl, hOw, -, hBx⟩
                obtain ⟨a5, c5, rfl, hT, m1, m2, m3⟩ := hOw.bysT
                exact ⟨_, rfl, ⟨a5, c5, rfl, hT, m1, m2, m3⟩, hBx⟩
              | 22, _ =>
                obtain rfl := Option.some.inj ho
                have h21 := getD_both_true (hall ⟨21, .data⟩ (by simp) rfl)
                obtain ⟨v21, hv21, hr21⟩ := un.got 21 (by simp) h21
                have s21 := slot_of (j := 62) hv21
                obtain ⟨a5, c5, rfl, hT, m1, m2, m3⟩ := hr21
                refine ⟨_, rfl, rfl, ?_⟩
                clear ho hall hr hv21 un
                unfold Oper.wp
                go_simp
                exact ⟨_, rfl, ⟨_, rfl, list_one (row_new _ rfl) (hT.on (Below.alloc (Below.refl _ _) (Nat.le_refl _) _)) m1 m2 m3⟩, Below.alloc (Below.refl _ _) (Nat.le_refl _) _⟩
              | 23, _ =>
                obtain rfl := Option.some.inj ho
                have h1 := getD_both_true (hall ⟨1, .data⟩ (by simp) rfl)
                obtain ⟨v1, hv1, hr1⟩ := un.got 1 (by simp) h1
                obtain rfl := hr1
                have s1 := slot_of (j := 42) hv1
                have h3 := getD_both_true (hall ⟨3, .data⟩ (by simp) rfl)
                obtain ⟨v3, hv3, hr3⟩ := un.got 3 (by simp) h3
                obtain rfl := hr3
                have s3 := slot_of (j := 44) hv3
                have h5 := getD_both_true (hall ⟨5, .data⟩ (by simp) rfl)
                obtain ⟨v5, hv5, hr5⟩ := un.got 5 (by simp) h5
                obtain rfl := hr5
                have s5 := slot_of (j := 46) hv5
                have h6 := getD_both_true (hall ⟨6, .data⟩ (by simp) rfl)
                obtain ⟨v6, hv6, hr6⟩ := un.got 6 (by simp) h6
                obtain rfl := hr6
                have s6 := slot_of (j := 47) hv6
                have h16 := getD_both_true (hall ⟨16, .data⟩ (by simp) rfl)
                obtain ⟨v16, hv16, hr16⟩ := un.got 16 (by simp) h16
                obtain rfl := hr16
                have s16 := slot_of (j := 57) hv16
                have h18 := getD_both_true (hall ⟨18, .data⟩ (by simp) rfl)
                obtain ⟨v18, hv18, hr18⟩ := un.got 18 (by simp) h18
                obtain rfl := hr18
                have s18 := slot_of (j := 59) hv18
                have h22 := getD_both_true (hall ⟨22, .data⟩ (by simp) rfl)
                obtain ⟨v22, hv22, hr22⟩ := un.got 22 (by simp) h22
                have s22 := slot_of (j := 63) hv22
                obtain ⟨gs, rfl, hL⟩ := hr22
                refine ⟨_, rfl, rfl, ?_⟩
                clear ho hall hr hv1 hv3 hv5 hv6 hv16 hv18 hv22 un
                unfold Oper.wp
                go_simp
                exact ⟨_, rfl, ⟨gs, rfl, hL⟩, Below.refl _ _⟩
              | 24, _ =>
                obtain rfl := Option.some.inj ho
                refine ⟨_, rfl, rfl, ?_⟩
                clear ho hall hr 
                unfold Oper.wp
                go_simp
                exact ⟨_, rfl, ⟨_, rfl, un.big, row_new _ rfl⟩, Below.alloc (Below.refl _ _) (Nat.le_refl _) _⟩
            · have h23 : ∃ gs : Nat, V 23 = .agg #[.string (bs qn), .int .i64 qt, .int .i64 qc, .int .i64 3, .int .i64 2, .int .i64 ex, .string (bs r.n), .slice (some ⟨gs, 0, none⟩) 1 1] ∧ ByssT w' (some ⟨gs, 0, none⟩) [r.d] := hV 23 (by omega)
              have h24 : ∃ gb : Nat, V 24 = .pointer (some ⟨gb, 0, none⟩) ∧ W2.heap.size ≤ gb ∧ w'.heap[gb]? = some (.cells #[.string ⟨#[]⟩, .int .i64 0, .int .i64 0, .int .i64 0, .int .i64 0, .int .i64 0, .string ⟨#[]⟩, .slice none 0 0] 29 (0, 0)) := hV 24 (by omega)
              obtain ⟨gs, u23, hL⟩ := h23
              obtain ⟨gb, u24, hgb, hrb⟩ := h24
              simp only [putAll, Act.put, u23, u24, reduceIte, Nat.reduceEqDiff, Nat.reduceAdd, List.setIfInBounds_toArray, List.set_cons_succ, List.set_cons_zero, List.drop_succ_cons, List.drop_zero]
              generalize V 0 = y0, V 1 = y1, V 2 = y2, V 3 = y3, V 4 = y4, V 5 = y5, V 6 = y6, V 7 = y7, V 8 = y8, V 9 = y9, V 10 = y10, V 11 = y11, V 12 = y12, V 13 = y13, V 14 = y14, V 15 = y15, V 16 = y16, V 17 = y17, V 18 = y18, V 19 = y19, V 20 = y20, V 21 = y21, V 22 = y22
              clear hV u23 u24
              have N : NZ w (w'.setRow gb #[.string (bs qn), .int .i64 qt, .int .i64 qc, .int .i64 3, .int .i64 2, .int .i64 ex, .string (bs r.n), .slice (some ⟨gs, 0, none⟩) 1 1]) gb gs #[.string (bs qn), .int .i64 qt, .int .i64 qc, .int .i64 3, .int .i64 2, .int .i64 ex, .string (bs r.n), .slice (some ⟨gs, 0, none⟩) 1 1] r.d := nz_made HB2.out HZ2.out R8.out hB hgb hrb hL _
              have STF := storeSt_row (D := #[.string (bs qn), .int .i64 qt, .int .i64 qc, .int .i64 3, .int .i64 2, .int .i64 ex, .string (bs r.n), .slice (some ⟨gs, 0, none⟩) 1 1]) hrb info_st rfl (by simp [Value.oneCell'])
              obtain ⟨D, hD⟩ : ∃ D : Array Value, D = #[.string (bs qn), .int .i64 qt, .int .i64 qc, .int .i64 3, .int .i64 2, .int .i64 ex, .string (bs r.n), .slice (some ⟨gs, 0, none⟩) 1 1] := ⟨_, rfl⟩
              rw [← hD] at N STF ⊢
              generalize w'.setRow gb D = W5 at *
              clear F0 F1 F2 F3 F4 F5 F6 CLK LS1 LS2 CL hL hgb hrb hB hs hwr
              obtain ⟨z1, z2⟩ := N.cell (i := 1) (v := .int .i64 qt) (by rw [hD]; rfl)
              have N2 := N.set 1 (.int .i64 0)
              have hD2 : D.setIfInBounds 1 (.int .i64 0) = #[.string (bs qn), .int .i64 0, .int .i64 qc, .int .i64 3, .int .i64 2, .int .i64 ex, .string (bs r.n), .slice (some ⟨gs, 0, none⟩) 1 1] := by rw [hD]; rfl
              obtain ⟨W6, hW6⟩ : ∃ W6, W6 = W5.setCell ⟨gb, 1, none⟩ (.int .i64 0) := ⟨_, rfl⟩
              rw [← hW6] at N2
              have HW6 := Lib.hid hW6
              rw [hD2] at N2
              clear N hD hD2 hW6
              obtain ⟨E, hE⟩ : ∃ E : Array Value, E = #[.string (bs qn), .int .i64 0, .int .i64 qc, .int .i64 3, .int .i64 2, .int .i64 ex, .string (bs r.n), .slice (some ⟨gs, 0, none⟩) 1 1] := ⟨_, rfl⟩
              have hST : stC (negS qn qt qc 2 r now) (some ⟨gs, 0, none⟩) 1 = E := (HST.out _ _).trans hE.symm
              rw [← hE] at N2
              have CN := Lib.hid (Can8_any (negS qn qt qc 2 r now) (some ⟨gs, 0, none⟩) 1 W6 N2.own.byss HSIZ.out)
              rw [hST] at CN
              have hEs : E.size = 8 := by rw [hE]; rfl
              have hE1 : E.all (·.oneCell') = true := by rw [hE]; simp [Value.oneCell']
              have LD := loadSt_row N2.rb (by rw [hEs]; exact info_st)
              have HN2 := Lib.hid N2
              have HSTE := Lib.hid hST
              have HES := Lib.hid hEs
              have HE1 := Lib.hid hE1
              clear N2 hST hE hEs hE1
              go_wp2_with (first | rw [← HW6.out] | fail)
              refine CN.out.mono ?_
              rintro e w8 ⟨rfl, b8⟩
              have N8 := HN2.out.on b8
              have r8 := N8.r8
              rw [← HZR.out] at r8
              have LD8 := loadSt_row N8.rb (by rw [HES.out]; exact info_st)
              have HN8 := Lib.hid N8
              have HR8 := Lib.hid r8
              clear HN2 b8 LD CN
              cases hcs : canS (negS qn qt qc 2 r now) with
              | false =>
                have ST8 := storeSt_row (D := #[.string ⟨#[]⟩, .int .i64 0, .int .i64 0, .int .i64 0, .int .i64 0, .int .i64 0, .string ⟨#[]⟩, .slice none 0 0]) r8 info_st rfl (by simp [Value.oneCell'])
                have HNF := Lib.hid (HNB.out.trans hcs)
                clear N8 r8 LD8
                go_wp2_with fail
                refine bodyPost_ret (v := .tuple #[.agg stZ, .int .i64 1]) (results_neg (g := WR.heap.size) rfl rfl (setRow_heap _ _ _ _ _ _ HR8.out) info_st) rfl ?_
                exact ⟨Below.setRow HN8.out.bel HWR8.out _, .inl ⟨HNF.out, rfl⟩⟩
              | true =>
                have ST8 := storeSt_row (D := E) r8 (by rw [HES.out]; exact info_st) HES.out.symm HE1.out
                have HNF := Lib.hid (HNB.out.trans hcs)
                clear N8 r8
                go_wp2_with fail
                refine bodyPost_ret (v := .tuple #[.agg E, .int .i64 0]) (results_neg (g := WR.heap.size) rfl rfl (setRow_heap _ _ _ _ _ _ HR8.out) (by rw [HES.out]; exact info_st)) rfl ?_
                exact ⟨Below.setRow HN8.out.bel HWR8.out _, .inr ⟨HNF.out, some ⟨gs, 0, none⟩, 1, by rw [HSTE.out], (stT_setRow HN8.out.own HR8.out).byss⟩⟩
        · have hk1 : ¬ kind = 1 := fun h => hk (.inl h)
          have hk2 : ¬ kind = 2 := fun h => hk (.inr h)
          have hk1' : (kind != 1) = true := by simpa using hk1
          have hk2' : (kind != 2) = true := by simpa using hk2
          go_wp2_with (first
      | (refine wpList_store_row rfl 67 (.tmp 10) (.tmp 17) rfl w1.heap.size O rfl rfl 67 _ rO IO.out (by first | exact ZO.out | exact ZO.out.symm) OO.out ?_; rw [← HW2.out])
      | fail)
          refine (CT.out _).mono ?_
          rintro e w5 ⟨rfl, rfl⟩
          go_wp2_with fail
          refine bodyPost_ret (v := .tuple #[.agg stZ, .int .i64 1]) (results_neg (g := WR.heap.size) rfl rfl (setRow_heap _ _ _ _ _ _ RS2.out) info_st) rfl ?_
          exact ⟨Below.setRow HB2.out HWR8.out _, .inl ⟨GE.out (by rw [HOK.out]; simp [*]), rfl⟩⟩
    · go_wp2_with (first
      | (refine wpList_store_row rfl 67 (.tmp 10) (.tmp 17) rfl w1.heap.size O rfl rfl 67 _ rO IO.out (by first | exact ZO.out | exact ZO.out.symm) OO.out ?_; rw [← HW2.out])
      | fail)
      refine bodyPost_ret (v := .tuple #[.agg stZ, .int .i64 1]) (results_neg (g := WR.heap.size) rfl rfl (setRow_heap _ _ _ _ _ _ RS2.out) info_st) rfl ?_
      exact ⟨Below.setRow HB2.out HWR8.out _, .inl ⟨GE.out (by rw [HOK.out]; simp [*]), rfl⟩⟩
end Go.Proofs.Ytbeggckkgaoacaa
