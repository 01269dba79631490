/-
  The landed rdata: SOA.
-/
import Derived.Test.YtbeggckkgaoacaaRcD
import Derived.Test.YtbeggckkgaoacaaRdP
import Derived.Test.YtbeggckkgaoacaaHdB
import Derived.Test.YtbeggckkgaoacaaGc
namespace Go.Proofs.Ytbeggckkgaoacaa
open Go.RowKit
set_option linter.unusedVariables false
set_option maxRecDepth 100000

theorem soa_len {l : Bs} {s : Soa} (h : soa l = some s) : l.length ≤ 65535 := by
  obtain ⟨h1, h2, _, _, _, _, _, h3⟩ := soa_back h
  have a1 := (can_out h1).1
  have a2 := (can_out h2).1
  rw [h3, List.length_append, List.length_append, putL_len]
  simp; omega
theorem namesD_soa (l : Bs) : namesD 6 l = match soa l with | some s => [s.m, s.r] | none => [] := by
  cases h : soa l with
  | none =>
    have hc : canD 6 l = false := by
      by_cases hf : (6 : Int) < 0 ∨ 65535 < (6 : Int) ∨ 65535 < l.length
      · exact canD_far hf
      · rw [canD_in hf]; simp [h]
    exact namesD_no hc
  | some s =>
    have hl := soa_len h
    have hc : canD 6 l = true := by
      rw [canD_in (by omega)]; simp [h]
    rw [namesD_in hc]
    simp [h]
/-- Where the numbers of an SOA stand. -/
theorem soa_nums {l : Bs} {s : Soa} (h : soa l = some s) : ∃ D, l.length = (l.length - 20) + 20 ∧ D = l.drop (l.length - 20) ∧ s.a = four D ∧ s.b = four (D.drop 4) ∧ s.c = four (D.drop 8) ∧ s.d = four (D.drop 12) ∧ s.e = four (D.drop 16) := by
  cases h1 : nameLen l with
  | none => rw [soa_none1 h1] at h; cases h
  | some i =>
    cases h2 : nameLen (l.drop i) with
    | none => rw [soa_none2 h1 h2] at h; cases h
    | some j =>
      rw [soa_at h1 h2] at h
      split at h
      · rename_i hl
        injection h with h
        subst h
        refine ⟨_, by omega, rfl, ?_, ?_, ?_, ?_, ?_⟩
        · rw [show l.length - 20 = i + j by omega]
        · rw [show l.length - 20 = i + j by omega, List.drop_drop]
        · rw [show l.length - 20 = i + j by omega, List.drop_drop]
        · rw [show l.length - 20 = i + j by omega, List.drop_drop]
        · rw [show l.length - 20 = i + j by omega, List.drop_drop]
      · cases h

/-- A number of bytes, the highest first. -/
def numB (l : Bs) : Nat := l.foldl (fun n b => n * 256 + b.toNat) 0
theorem numB_snoc (l : Bs) (b : UInt8) : numB (l ++ [b]) = numB l * 256 + b.toNat := by simp [numB]
theorem numB_nil : numB [] = 0 := rfl
theorem numB_next {x : Bs} {j : Nat} (h : j < x.length) : numB (x.take (j + 1)) = numB (x.take j) * 256 + (x[j]).toNat := by
  rw [List.take_succ_eq_append_getElem h, numB_snoc]
theorem numB_lt : ∀ (j : Nat) (x : Bs), j ≤ x.length → numB (x.take j) < 256 ^ j
  | 0, x, _ => by simp [numB]
  | j + 1, x, h => by
    have ih := numB_lt j x (by omega)
    have hb := (x[j]).toNat_lt
    rw [numB_next (by omega), Nat.pow_succ]
    omega
theorem numB_four {x : Bs} (h : 4 ≤ x.length) : numB (x.take 4) = four x := by
  rw [numB_next (j := 3) (by omega), numB_next (j := 2) (by omega), numB_next (j := 1) (by omega), numB_next (j := 0) (by omega), List.take_zero, numB_nil]
  unfold four
  simp [List.getD_eq_getElem?_getD, List.getElem?_eq_getElem (show 0 < x.length by omega), List.getElem?_eq_getElem (show 1 < x.length by omega), List.getElem?_eq_getElem (show 2 < x.length by omega), List.getElem?_eq_getElem (show 3 < x.length by omega)]
theorem orN (x y : Nat) (hx : x < 16777216) (hy : y < 256) : bits .or .i64 ((x : Int) * 256) (y : Int) = (x : Int) * 256 + (y : Int) :=
  or_join 8 (by decide) _ _ (by omega) (by omega) (by omega) (by omega) (by omega)

/-- The five numbers' cells while they are read: those ahead of i are there, the i-th is p so far. -/
def C5 (D : Bs) (i p : Nat) : Array Value := #[.int .i64 (if 0 < i then (four D : Int) else if i = 0 then (p : Int) else 0), .int .i64 (if 1 < i then (four (D.drop 4) : Int) else if i = 1 then (p : Int) else 0), .int .i64 (if 2 < i then (four (D.drop 8) : Int) else if i = 2 then (p : Int) else 0), .int .i64 (if 3 < i then (four (D.drop 12) : Int) else if i = 3 then (p : Int) else 0), .int .i64 (if 4 < i then (four (D.drop 16) : Int) else if i = 4 then (p : Int) else 0)]
theorem C5_zero (D : Bs) : C5 D 0 0 = #[.int .i64 0, .int .i64 0, .int .i64 0, .int .i64 0, .int .i64 0] := by simp [C5]
theorem C5_at (D : Bs) (i p : Nat) (h : i < 5) : (C5 D i p)[i]? = some (.int .i64 p) := by
  match i, h with
  | 0, _ => simp [C5]
  | 1, _ => simp [C5]
  | 2, _ => simp [C5]
  | 3, _ => simp [C5]
  | 4, _ => simp [C5]
theorem C5_set (D : Bs) (i p q : Nat) (h : i < 5) : (C5 D i p).setIfInBounds i (.int .i64 q) = C5 D i q := by
  match i, h with
  | 0, _ => simp [C5]
  | 1, _ => simp [C5]
  | 2, _ => simp [C5]
  | 3, _ => simp [C5]
  | 4, _ => simp [C5]
theorem C5_next (D : Bs) (i : Nat) (h : i < 5) : C5 D i (four (D.drop (4 * i))) = C5 D (i + 1) 0 := by
  match i, h with
  | 0, _ => simp [C5]
  | 1, _ => simp [C5]
  | 2, _ => simp [C5]
  | 3, _ => simp [C5]
  | 4, _ => simp [C5]
theorem C5_all (D : Bs) : C5 D 5 0 = #[.int .i64 (four D), .int .i64 (four (D.drop 4)), .int .i64 (four (D.drop 8)), .int .i64 (four (D.drop 12)), .int .i64 (four (D.drop 16))] := by simp [C5]

theorem results_soa2 {c : Value} {tmps : Array Value} {W : World} {g : Nat} {cs : Array Value} (h2 : tmps.getD 2 undef = .pointer (some ⟨g, 0, none⟩)) (h3 : tmps.getD 3 undef = c)
    (r2 : W.heap[g]? = some (.cells cs 67 (0, 0))) (hs : cs.size = 7) :
    (results Try.f45 tmps).run Try.prog W = .ok (.tuple #[.agg cs, c]) W := by
  have q0 : (loadVar 67 ⟨g, 0, none⟩).run Try.prog W = .ok (.agg cs) W := run_loadVar_row W g 67 67 cs (0, 0) _ r2 Try.underlying67 rfl (soa_info hs)
  subst h3
  have h2' : tmps[2]?.getD undef = .pointer (some ⟨g, 0, none⟩) := by simpa using h2
  simp [results, Try.results45, asAddr, h2', q0]

/-- 'b[i:j]'. -/
theorem slice_mid (A : Option Addr) (l : Bs) (c k m : Nat) (i j : Int) (hk : k + m ≤ l.length) (hc : l.length ≤ c) (hi : i = k) (hj : j = (k + m : Nat)) (w : World) : (Instr.slice 37 (.slice A l.length c) (some (.int .i64 i)) (some (.int .i64 j)) none).run Try.prog w = .ok (.slice (if c = k then A else A.map (·.add k)) m (c - k)) w := by
  subst hi hj
  rw [run_slice_lh w 37 A l.length c (by rw [elem_bytes]; exact Try.underlying37) _ _ _ _ (by omega) (by omega) (by omega), elem_bytes, size_u8]
  simp [sliced]
  omega

set_option maxHeartbeats 400000 in
set_option maxRecDepth 100000 in
theorem dSOA_any (A : Option Addr) (l : Bs) (c : Nat) (w : World) (hS : Bys w A l) (hc : l.length ≤ c) (hcm : c ≤ 9223372036854775807) : Calls Try.prog 45 #[.slice A l.length c] w (SoaPost w l) := by
  have hZ0 : soaC none = #[.string ⟨#[]⟩, .string ⟨#[]⟩, .int .i64 0, .int .i64 0, .int .i64 0, .int .i64 0, .int .i64 0] := rfl
  have C := Lib.hid (fun W (hW : Bys W A l) => dNames_any 6 A l c W hW hc hcm)
  have hN := namesD_soa l
  cases hs : soa l with
  | none =>
    rw [hs] at hN
    simp only at hN
    rw [hN] at C
    have HZ := Lib.hid hs
    clear hs hN
    go_enter Try.func45, Try.ntmps45
    go_wp2_with fail
    have bw : Below w.heap.size w (w.alloc (.cells (soaC none) 67)) := Below.alloc (Below.refl _ _) (Nat.le_refl _) _
    have hrow0 := row_new (w := w) (k := w.heap.size) (.cells (soaC none) 67 (0, 0)) rfl
    rw [hZ0] at bw hrow0
    clear hZ0
    refine (C.out _ (hS.on bw)).mono ?_
    rintro e w1 ⟨B, d, rfl, st, hd, b1⟩
    have hrow := (b1.block _ (heap_lt3 hrow0)).trans hrow0
    have b2 : Below w.heap.size w w1 := Below.trans bw (b1.mono bw.size)
    clear hrow0 b1 bw st
    go_wp2_with (first
      | (refine wpList_store_row rfl 67 (.tmp 2) (.tmp 16) rfl w.heap.size (soaC none) rfl rfl 67 _ hrow (soa_info rfl) rfl (soaC_one none) ?_)
      | fail)
    refine bodyPost_ret (v := .tuple #[.agg (soaC none), .bool false]) (results_soa2 (g := w.heap.size) rfl rfl (setRow_heap _ _ _ _ _ _ hrow) rfl) rfl ?_
    exact ⟨by rw [HZ.out]; rfl, Below.setRow b2 (Nat.le_refl _) _⟩
  | some s =>
    rw [hs] at hN
    simp only at hN
    obtain ⟨N, hNN⟩ : ∃ N, N = namesD 6 l := ⟨_, rfl⟩
    rw [← hNN] at hN C
    have HN := Lib.hid hN
    have hn2 : N.length = 2 := by rw [hN]; rfl
    have n0 : ((N.length : Int) == 0) = false := by rw [hn2]; rfl
    have n1 : (0 : Int) < (N.length : Int) := by omega
    have n2 : (1 : Int) < (N.length : Int) := by omega
    obtain ⟨D, hlen, hD, ea, eb, ec, ed, ee⟩ := soa_nums hs
    have hDl : D.length = 20 := by rw [hD, List.length_drop]; omega
    have hSV : soaC (some s) = #[.string (bs s.m), .string (bs s.r), .int .i64 (four D), .int .i64 (four (D.drop 4)), .int .i64 (four (D.drop 8)), .int .i64 (four (D.drop 12)), .int .i64 (four (D.drop 16))] := by
      simp only [soaC, ea, eb, ec, ed, ee]
    have HSV := Lib.hid hSV
    have HDL := Lib.hid hDl
    have HSO := Lib.hid hs
    obtain ⟨L0, hL0⟩ : ∃ L0, L0 = l.length - 20 := ⟨_, rfl⟩
    rw [← hL0] at hlen hD
    have HD := Lib.hid hD
    clear hs hN hNN hn2 ea eb ec ed ee hSV hL0 hD
    have HLI := Lib.hid (show (l.length : Int) = (L0 : Int) + 20 by omega)
    clear hlen hDl
    go_enter Try.func45, Try.ntmps45
    go_wp2_with fail
    have bw : Below w.heap.size w (w.alloc (.cells (soaC none) 67)) := Below.alloc (Below.refl _ _) (Nat.le_refl _) _
    have hrow0 := row_new (w := w) (k := w.heap.size) (.cells (soaC none) 67 (0, 0)) rfl
    rw [hZ0] at bw hrow0
    clear hZ0
    refine (C.out _ (hS.on bw)).mono ?_
    rintro e w1 ⟨B, d, rfl, st, hd, b1⟩
    have hrow := (b1.block _ (heap_lt3 hrow0)).trans hrow0
    have b2 : Below w.heap.size w w1 := Below.trans bw (b1.mono bw.size)
    have hlt1 := heap_lt3 hrow
    clear hrow0 b1 bw C
    obtain ⟨g2, o2, rfl, _⟩ := id st (by omega)
    have ST := Lib.hid st
    clear st
    obtain ⟨w2, hw2⟩ : ∃ w2, w2 = w1.alloc (.cells #[.int .i64 0, .int .i64 0, .int .i64 0, .int .i64 0, .int .i64 0] 84) := ⟨_, rfl⟩
    have hrow5 : w2.heap[w1.heap.size]? = some (.cells (C5 D 0 0) 84 (0, 0)) := by rw [hw2, C5_zero]; exact row_new _ rfl
    have b3 : Below w1.heap.size w1 w2 := by rw [hw2]; exact Below.alloc (Below.refl _ _) (Nat.le_refl _) _
    go_wp2_with fail
    rw [← hw2]
    clear hw2
    generalize hK : w1.heap.size = K at *
    go_loopw [20] (fun v wr => ∃ i : Nat, v = .int .i64 i ∧ i ≤ 5 ∧ wr.heap[K]? = some (.cells (C5 D i 0) 84 (0, 0)) ∧ Below K w1 wr) (fun v _ => 5 - (intOf v).toNat)
    case atStart => exact ⟨0, rfl, by omega, hrow5, b3⟩
    case round =>
      obtain ⟨i, rfl, hi, hr, hB⟩ := hrel
      clear hrow5 b3
      by_cases hlt : i < 5
      · have hlt' : (i : Int) < 5 := by omega
        have hll := HLI.out
        obtain ⟨g, off, rfl, hcs⟩ := id hS (by omega)
        obtain ⟨k, hk⟩ : ∃ k, k = L0 + 4 * i := ⟨_, rfl⟩
        have hsl := slice_mid (some ⟨g, off, none⟩) l c k 4 ((l.length : Int) - 20 + 4 * (i : Int)) ((l.length : Int) - 20 + 4 * (i : Int) + 4) (by omega) hc (by omega) (by omega)
        rw [if_neg (by omega), show (some (⟨g, off, none⟩ : Addr)).map (·.add k) = some ⟨g, off + k, none⟩ by simp [Addr.add]] at hsl
        obtain ⟨x, hx⟩ : ∃ x, x = D.drop (4 * i) := ⟨_, rfl⟩
        have hxl : 4 ≤ x.length := by rw [hx, List.length_drop, HDL.out]; omega
        have hxk : x = l.drop k := by rw [hx, HD.out, List.drop_drop, hk]
        have HCS := Lib.hid (fun W (hW : Below K w1 W) j (hjx : j < x.length) (hj : j < 4) => by
          have hg : Bys W (some ⟨g, off, none⟩) l := (hS.on b2).on (by rw [hK]; exact hW)
          obtain ⟨g', off', he, hc'⟩ := hg (by omega)
          injection he with he
          injection he with h1 h2
          subst h1 h2
          have := hc' (k + j) (by omega)
          rw [← Nat.add_assoc] at this
          rw [this]
          congr 3
          simp [hxk]
          : ∀ W, Below K w1 W → ∀ j, (hjx : j < x.length) → j < 4 → W.cell? ⟨g, off + k + j, none⟩ = some (.int .u8 (x[j]).toNat))
        have HX := Lib.hid hx
        have HXL := Lib.hid hxl
        have h0 : C5 D i 0 = C5 D i (numB (x.take 0)) := by rw [List.take_zero, numB_nil]
        rw [h0] at hr
        have hr0 := hr
        clear hcs hll hk hx hxl hxk h0 hr hrow
        go_wp2_with fail
        go_loopw [33] (fun v wr => ∃ j : Nat, v = .int .i64 j ∧ j ≤ 4 ∧ wr.heap[K]? = some (.cells (C5 D i (numB (x.take j))) 84 (0, 0)) ∧ Below K w1 wr) (fun v _ => 4 - (intOf v).toNat)
        case atStart => exact ⟨0, rfl, by omega, hr0, hB⟩
        case round =>
          clear hr0 hB
          obtain ⟨j, rfl, hj, hr, hB⟩ := hrel
          by_cases hjl : j < 4
          · have hjl' : (j : Int) < 4 := by omega
            have c40 := (cell_of_row _ K i _ _ _ hr).trans (C5_at D i (numB (x.take j)) hlt)
            have fz := frozen_of_row _ K i _ _ hr
            have hjx : j < x.length := by have := HXL.out; omega
            have y := HCS.out _ hB j hjx hjl
            have hnx := numB_next hjx
            have hpl := numB_lt j x (by omega)
            have hp : numB (x.take j) < 16777216 := Nat.lt_of_lt_of_le hpl (by rw [show 16777216 = 256 ^ 3 from rfl]; exact Nat.pow_le_pow_right (by omega) (by omega))
            have hm := (x[j]).toNat_lt
            have hor := orN (numB (x.take j)) (x[j]).toNat hp hm
            have HNX := Lib.hid hnx
            have hset := fun q => C5_set D i (numB (x.take j)) q hlt
            have HSET := Lib.hid hset
            have HR := Lib.hid hr
            clear hnx hpl hset hr
            generalize (x[j]).toNat = m at *
            generalize numB (x.take j) = p at *
            go_wp2_with fail
            go_roundw
            case rel =>
              refine ⟨j + 1, by go_num, by omega, ?_, Below.setCell hB (Nat.le_refl _) _⟩
              rw [HNX.out]
              rw [row_set _ HR.out, ← HSET.out (p * 256 + m)]
              rfl
            case measure => simp [intOf]; omega
          · have hjl' : ¬ (j : Int) < 4 := by omega
            obtain rfl : j = 4 := by omega
            rw [numB_four HXL.out, HX.out, C5_next D i hlt] at hr
            go_wp2_with fail
            go_roundw
            case rel => exact ⟨i + 1, by go_num, by omega, hr, hB⟩
            case measure => simp [intOf]; omega
      · have hlt' : ¬ (i : Int) < 5 := by omega
        obtain rfl : i = 5 := by omega
        rw [C5_all] at hr
        have st' : Strs wr (some ⟨g2, o2, none⟩) N := ST.out.on (by rw [hK]; exact hB)
        obtain ⟨g3, o3, he, hst⟩ := st' (by omega)
        injection he with he
        injection he with h1 h2
        subst h1 h2
        have s0 : wr.cell? ⟨g2, o2, none⟩ = some (.string (bs s.m)) := (hst 0 (by omega)).trans (by simp only [HN.out]; rfl)
        have s1 : wr.cell? ⟨g2, o2 + 1, none⟩ = some (.string (bs s.r)) := (hst 1 (by omega)).trans (by simp only [HN.out]; rfl)
        have k0 := (cell_of_row _ K 0 _ _ _ hr).trans (show _ = some (.int .i64 (four D)) from rfl)
        have k1 := (cell_of_row _ K 1 _ _ _ hr).trans (show _ = some (.int .i64 (four (D.drop 4))) from rfl)
        have k2 := (cell_of_row _ K 2 _ _ _ hr).trans (show _ = some (.int .i64 (four (D.drop 8))) from rfl)
        have k3 := (cell_of_row _ K 3 _ _ _ hr).trans (show _ = some (.int .i64 (four (D.drop 12))) from rfl)
        have k4 := (cell_of_row _ K 4 _ _ _ hr).trans (show _ = some (.int .i64 (four (D.drop 16))) from rfl)
        have hrow' := (hB.block _ hlt1).trans hrow
        have b5 : Below w.heap.size w wr := Below.trans b2 (hB.mono (by omega))
        have HS := Lib.hid HSV.out
        generalize four D = z0 at *
        generalize four (D.drop 4) = z1 at *
        generalize four (D.drop 8) = z2 at *
        generalize four (D.drop 12) = z3 at *
        generalize four (D.drop 16) = z4 at *
        clear hst st' hr hrow hB ST HSV
        go_wp2_with fail
        refine wp_region_quiet_tail 17 (by kernel_rfl) (by kernel_rfl) ?_
        simp only [List.take_succ_cons, List.take_zero, List.drop_succ_cons, List.drop_zero]
        repeat (go_big_quiet_step (fail))
        refine wpQuiet_nil ?_
        intro w3 hw3
        obtain ⟨nq, rfl⟩ := hw3
        have hrow2 : (wr.drewN nq).heap[w.heap.size]? = some (.cells (soaC none) 67 (0, 0)) := hrow'
        have b6 := below_drewN b5 nq
        clear hrow' b5 s0 s1 k0 k1 k2 k3 k4
        generalize wr.drewN nq = w4 at *
        refine wpList_store_row rfl 67 (.tmp 2) (.tmp 64) rfl w.heap.size (soaC (some s)) rfl (by rw [HS.out]; rfl) 67 _ hrow2 (soa_info (soaC_size _)) (by rw [soaC_size, soaC_size]) (soaC_one _) ?_
        go_wp2_with fail
        refine bodyPost_ret (v := .tuple #[.agg (soaC (some s)), .bool true]) (results_soa2 (g := w.heap.size) rfl rfl (setRow_heap _ _ _ _ _ _ hrow2) (soaC_size _)) rfl ?_
        exact ⟨by rw [HSO.out]; rfl, Below.setRow b6 (Nat.le_refl _) _⟩
end Go.Proofs.Ytbeggckkgaoacaa
