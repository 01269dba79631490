/-
  A record that can play a part in a set; its key.
-/
import Derived.Test.YtbeggckkgaoacaaRrA
import Derived.Test.YtbeggckkgaoacaaGe
import Derived.Test.YtbeggckkgaoacaaGa
import Derived.Test.YtbeggckkgaoacaaGf
namespace Go.Proofs.Ytbeggckkgaoacaa
open Go.RowKit
set_option linter.unusedVariables false
set_option maxRecDepth 100000

theorem rr_cell {w : World} {g : Nat} {r : Rr} {A : Option Addr} {c : Nat} (h : w.heap[g]? = some (.cells (rrC r A c) 39 (0, 0))) :
    w.cell? ⟨g, 0, none⟩ = some (.string (bs r.n)) ∧ w.cell? ⟨g, 1, none⟩ = some (.int .i64 r.t) ∧ w.cell? ⟨g, 2, none⟩ = some (.int .i64 r.c) ∧ w.cell? ⟨g, 3, none⟩ = some (.int .i64 r.ttl) ∧ w.cell? ⟨g, 4, none⟩ = some (.slice A r.d.length c) :=
  ⟨(cell_of_row _ g 0 _ _ _ h).trans rfl, (cell_of_row _ g 1 _ _ _ h).trans rfl, (cell_of_row _ g 2 _ _ _ h).trans rfl, (cell_of_row _ g 3 _ _ _ h).trans rfl, (cell_of_row _ g 4 _ _ _ h).trans rfl⟩

set_option maxHeartbeats 1000000 in
theorem canRR_any (r : Rr) (A : Option Addr) (c : Nat) (w : World) (hd : Dat w A c r.d) : Calls Try.prog 31 #[.agg (rrC r A c)] w fun e w' => e = .returned (.bool (canRR r)) ∧ Below w.heap.size w w' := by
  have r1 := row_new (w := w) (k := w.heap.size) (.cells (rrC r A c) 39 (0, 0)) rfl
  have b0 : Below w.heap.size w (w.alloc (.cells (rrC r A c) 39 (0, 0))) := Below.alloc (Below.refl _ _) (Nat.le_refl _) _
  obtain ⟨c0, c1, c2, -, c4⟩ := rr_cell r1
  have HD := Lib.hid (hd.on b0)
  have E1 := Lib.hid (fun W => Can_any r.n W)
  have E2 := Lib.hid (fun W => canType_any r.t W)
  have E3 := Lib.hid (fun W => canClass_any r.c W)
  have E4 := Lib.hid (fun W (h : Dat W A c r.d) => dCan_any r.t A r.d c W h.bys h.le h.max)
  have HR : Hid (canRR r = (can r.n && (rangeN 1 r.t && (rangeN 0 r.c && canD r.t r.d)))) := Lib.hid rfl
  generalize canRR r = R at *
  generalize can r.n = k1 at *
  generalize rangeN 1 r.t = k2 at *
  generalize rangeN 0 r.c = k3 at *
  generalize canD r.t r.d = k4 at *
  clear r1 hd
  generalize rrC r A c = C at *
  go_enter Try.func31, Try.ntmps31
  go_wp2_with fail
  generalize w.alloc (.cells C 39) = W0 at *
  refine (E1.out _).mono ?_
  rintro e w1 ⟨rfl, b1⟩
  replace c1 := cell_on c1 b1
  replace c2 := cell_on c2 b1
  replace c4 := cell_on c4 b1
  replace HD := Lib.hid (HD.out.on b1)
  have bb := Below.trans b0 (b1.mono b0.size)
  clear b1 b0 E1 c0
  cases k1 with
  | false =>
    go_wp2_with fail
    go_ret
    exact ⟨by rw [HR.out]; rfl, bb⟩
  | true =>
    go_wp2_with fail
    refine (E2.out _).mono ?_
    rintro e w2 ⟨rfl, rfl⟩
    cases k2 with
    | false =>
      go_wp2_with fail
      go_ret
      exact ⟨by rw [HR.out]; rfl, bb⟩
    | true =>
      go_wp2_with fail
      refine (E3.out _).mono ?_
      rintro e w2 ⟨rfl, rfl⟩
      cases k3 with
      | false =>
        go_wp2_with fail
        go_ret
        exact ⟨by rw [HR.out]; rfl, bb⟩
      | true =>
        go_wp2_with fail
        refine (E4.out _ HD.out).mono ?_
        rintro e w2 ⟨rfl, b2⟩
        have bc := Below.trans bb (b2.mono bb.size)
        go_wp2_with fail
        go_ret
        exact ⟨by rw [HR.out]; rfl, bc⟩

/-- A record's key. -/
def keyC (n : Bs) (t c : Int) : Array Value := #[.string (bs (lower n)), .int .i64 t, .int .i64 c]
theorem results_key {tmps : Array Value} {W : World} {g : Nat} {cs : Array Value} (h2 : tmps.getD 2 undef = .pointer (some ⟨g, 0, none⟩))
    (r2 : W.heap[g]? = some (.cells cs 58 (0, 0))) (hs : cs.size = 3) :
    (results Try.f33 tmps).run Try.prog W = .ok (.agg cs) W := by
  have q0 : (loadVar 58 ⟨g, 0, none⟩).run Try.prog W = .ok (.agg cs) W := run_loadVar_row W g 58 58 cs (0, 0) _ r2 Try.underlying58 rfl (by rw [hs]; kernel_rfl)
  have h2' : tmps[2]?.getD undef = .pointer (some ⟨g, 0, none⟩) := by simpa using h2
  simp [results, Try.results33, asAddr, h2', q0]
def RK (g : Nat) (n : Bs) (t c : Int) : Nat → Value → World → Prop
  | 0, v, _ => v = .pointer (some ⟨g, 0, none⟩)
  | 1, v, _ => v = .string (bs n)
  | 2, v, _ => v = .string (bs (lower n))
  | 3, v, _ => v = .pointer (some ⟨g, 1, none⟩)
  | 4, v, _ => v = .int .i64 t
  | 5, v, _ => v = .pointer (some ⟨g, 2, none⟩)
  | 6, v, _ => v = .int .i64 c
  | 7, v, _ => v = .agg (keyC n t c)
  | _, _, _ => True
theorem RK_on {g : Nat} {n : Bs} {t c : Int} (i : Nat) (v : Value) (w w' : World) (h : RK g n t c i v w) (hB : Below w.heap.size w w') : RK g n t c i v w' := by
  match i, h with
  | 0, h => exact h
  | 1, h => exact h
  | 2, h => exact h
  | 3, h => exact h
  | 4, h => exact h
  | 5, h => exact h
  | 6, h => exact h
  | 7, h => exact h
  | _ + 8, _ => trivial

set_option maxHeartbeats 1000000 in
theorem keyOf_any (r : Rr) (A : Option Addr) (c : Nat) (w : World) : Calls Try.prog 33 #[.agg (rrC r A c)] w fun e w' => e = .returned (.agg (keyC r.n r.t r.c)) ∧ Below w.heap.size w w' := by
  have r1 := row_old (.cells #[.string ⟨#[]⟩, .int .i64 0, .int .i64 0] 58 (0, 0)) (row_new (w := w) (k := w.heap.size) (.cells (rrC r A c) 39 (0, 0)) rfl)
  have r2 := row_new (w := w.alloc (.cells (rrC r A c) 39 (0, 0))) (k := w.heap.size + 1) (.cells #[.string ⟨#[]⟩, .int .i64 0, .int .i64 0] 58 (0, 0)) (by simp)
  have b0 : Below w.heap.size w ((w.alloc (.cells (rrC r A c) 39 (0, 0))).alloc (.cells #[.string ⟨#[]⟩, .int .i64 0, .int .i64 0] 58 (0, 0))) := Below.alloc (Below.alloc (Below.refl _ _) (Nat.le_refl _) _) (by simp) _
  have hlt : w.heap.size + 1 < ((w.alloc (.cells (rrC r A c) 39 (0, 0))).alloc (.cells #[.string ⟨#[]⟩, .int .i64 0, .int .i64 0] 58 (0, 0))).heap.size := by simp
  have RC := Lib.hid (fun (W : World) (g : Nat) (h : W.heap[g]? = some (.cells (rrC r A c) 39 (0, 0))) => rr_cell h)
  have E1 := Lib.hid (fun W => Lower_any r.n W)
  have HK : Hid (keyC r.n r.t r.c = #[.string (bs (lower r.n)), .int .i64 r.t, .int .i64 r.c]) := Lib.hid rfl
  have I1 : Hid ((Try.prog.info? 58).map (·.size) = some (keyC r.n r.t r.c).size) := Lib.hid (by kernel_rfl)
  have O1 : Hid ((keyC r.n r.t r.c).all (·.oneCell') = true) := Lib.hid (by simp [keyC, Value.oneCell'])
  have Z1 : Hid ((#[.string ⟨#[]⟩, .int .i64 0, .int .i64 0] : Array Value).size = (keyC r.n r.t r.c).size) := Lib.hid rfl
  have S3 : Hid ((keyC r.n r.t r.c).size = 3) := Lib.hid rfl
  have R1 := Lib.hid r1
  have R2 := Lib.hid r2
  have B0 := Lib.hid b0
  generalize rrC r A c = C at *
  generalize r.n = n at *
  generalize r.t = t at *
  generalize r.c = cc at *
  clear r1 r2 b0
  go_enter Try.func33, Try.ntmps33
  go_wp2_with fail
  generalize (w.alloc (.cells C 39)).alloc (.cells #[.string ⟨#[]⟩, .int .i64 0, .int .i64 0] 58) = W0 at *
  refine wp_region_under 8 (by kernel_rfl) (by kernel_rfl) (by kernel_rfl) rfl (d := (fun i => 3 + i)) (R := RK w.heap.size n t cc) (B := W0.heap.size) (Nat.le_refl _) (fun i j hi hj e => by omega) (fun i hi => by simp; omega) RK_on (fun i hi b a' w' un hr => ?_) (fun V w' hV hB hs => ?_)
  · obtain ⟨_, o, ho, hall⟩ := mem_ready.1 hr
    have t1 : (a'.tmps[1]?).getD undef = .pointer (some ⟨w.heap.size, 0, none⟩) := slot_of ((un.old 1 (fun i _ => by omega)).trans rfl)
    have hrow := (un.bel.block w.heap.size (by omega)).trans R1.out
    obtain ⟨c0, c1, c2, -, -⟩ := RC.out _ _ hrow
    clear hrow
    match i, hi with
    | 0, _ =>
      obtain rfl := Option.some.inj ho
      refine ⟨_, rfl, rfl, ?_⟩
      clear ho hall hr  un
      unfold Oper.wp
      go_simp
      exact ⟨_, rfl, rfl, Below.refl _ _⟩
    | 1, _ =>
      obtain rfl := Option.some.inj ho
      have h0 := getD_both_true (hall ⟨0, .data⟩ (by simp) rfl)
      obtain ⟨v0, hv0, hr0⟩ := un.got 0 (by simp) h0
      obtain rfl := hr0
      have s0 := slot_of (j := 3) hv0
      refine ⟨_, rfl, rfl, ?_⟩
      clear ho hall hr hv0 un
      unfold Oper.wp
      go_simp
      exact ⟨_, rfl, rfl, Below.refl _ _⟩
    | 2, _ =>
      obtain rfl := Option.some.inj ho
      have h1 := getD_both_true (hall ⟨1, .data⟩ (by simp) rfl)
      obtain ⟨v1, hv1, hr1⟩ := un.got 1 (by simp) h1
      obtain rfl := hr1
      have s1 := slot_of (j := 4) hv1
      refine ⟨_, rfl, rfl, ?_⟩
      clear ho hall hr hv1 un
      unfold Oper.wp
      go_simp
      refine (E1.out _).mono ?_
      rintro e w2 ⟨rfl, hBx⟩
      exact ⟨_, rfl, rfl, hBx⟩
    | 3, _ =>
      obtain rfl := Option.some.inj ho
      refine ⟨_, rfl, rfl, ?_⟩
      clear ho hall hr  un
      unfold Oper.wp
      go_simp
      exact ⟨_, rfl, rfl, Below.refl _ _⟩
    | 4, _ =>
      obtain rfl := Option.some.inj ho
      have h3 := getD_both_true (hall ⟨3, .data⟩ (by simp) rfl)
      obtain ⟨v3, hv3, hr3⟩ := un.got 3 (by simp) h3
      obtain rfl := hr3
      have s3 := slot_of (j := 6) hv3
      refine ⟨_, rfl, rfl, ?_⟩
      clear ho hall hr hv3 un
      unfold Oper.wp
      go_simp
      exact ⟨_, rfl, rfl, Below.refl _ _⟩
    | 5, _ =>
      obtain rfl := Option.some.inj ho
      refine ⟨_, rfl, rfl, ?_⟩
      clear ho hall hr  un
      unfold Oper.wp
      go_simp
      exact ⟨_, rfl, rfl, Below.refl _ _⟩
    | 6, _ =>
      obtain rfl := Option.some.inj ho
      have h5 := getD_both_true (hall ⟨5, .data⟩ (by simp) rfl)
      obtain ⟨v5, hv5, hr5⟩ := un.got 5 (by simp) h5
      obtain rfl := hr5
      have s5 := slot_of (j := 8) hv5
      refine ⟨_, rfl, rfl, ?_⟩
      clear ho hall hr hv5 un
      unfold Oper.wp
      go_simp
      exact ⟨_, rfl, rfl, Below.refl _ _⟩
    | 7, _ =>
      obtain rfl := Option.some.inj ho
      have h2 := getD_both_true (hall ⟨2, .data⟩ (by simp) rfl)
      obtain ⟨v2, hv2, hr2⟩ := un.got 2 (by simp) h2
      obtain rfl := hr2
      have s2 := slot_of (j := 5) hv2
      have h4 := getD_both_true (hall ⟨4, .data⟩ (by simp) rfl)
      obtain ⟨v4, hv4, hr4⟩ := un.got 4 (by simp) h4
      obtain rfl := hr4
      have s4 := slot_of (j := 7) hv4
      have h6 := getD_both_true (hall ⟨6, .data⟩ (by simp) rfl)
      obtain ⟨v6, hv6, hr6⟩ := un.got 6 (by simp) h6
      obtain rfl := hr6
      have s6 := slot_of (j := 9) hv6
      refine ⟨_, rfl, rfl, ?_⟩
      clear ho hall hr hv2 hv4 hv6 un
      unfold Oper.wp
      go_simp
      exact ⟨_, rfl, rfl, Below.refl _ _⟩
  · have u7 : V 7 = .agg (keyC n t cc) := hV 7 (by omega)
    simp only [putAll, Act.put, u7, Nat.reduceAdd, List.setIfInBounds_toArray, List.set_cons_succ, List.set_cons_zero, List.drop_succ_cons, List.drop_zero]
    generalize V 0 = y0, V 1 = y1, V 2 = y2, V 3 = y3, V 4 = y4, V 5 = y5, V 6 = y6
    have rF0 := (hB.block (w.heap.size + 1) hlt).trans R2.out
    have rF := setRow_heap _ _ _ (keyC n t cc) _ _ rF0
    have bF := Below.setRow (Below.trans B0.out (hB.mono B0.out.size)) (show w.heap.size ≤ w.heap.size + 1 by omega) (keyC n t cc)
    have BF := Lib.hid bF
    clear hV u7 bF RC HK E1
    generalize hDD : keyC n t cc = D at *
    have HDD := Lib.hid hDD
    clear hDD
    go_wp2_with (first
      | (refine wpList_store_row rfl 58 (.tmp 2) (.tmp 10) rfl (w.heap.size + 1) D rfl rfl 58 _ rF0 I1.out (by first | exact Z1.out | exact Z1.out.symm) O1.out ?_)
      | fail)
    refine bodyPost_ret (results_key rfl rF S3.out) rfl ⟨by rw [HDD.out], BF.out⟩
end Go.Proofs.Ytbeggckkgaoacaa
