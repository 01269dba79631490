/-
  A row of slices that the call made: one cell set, its beginning; slices.CompactFunc by bytes.Equal.
-/
import Derived.Test.YtbeggckkgaoacaaOrB
import Derived.Test.YtbeggckkgaoacaaSp
namespace Go.Proofs.Ytbeggckkgaoacaa
open Go.RowKit
set_option linter.unusedVariables false
set_option maxRecDepth 100000

section
variable {w : World} {base g n c : Nat} {e : TypeId} {xs : List Value}
theorem rowL_set (h : w.ownsRow base e 1 (.slice (some ⟨g, 0, none⟩) n c) n xs) (j : Nat) (u : Value) : (w.setCell ⟨g, j, none⟩ u).ownsRow base e 1 (.slice (some ⟨g, 0, none⟩) n c) n (xs.set j u) := by
  refine ⟨by rw [List.length_set]; exact h.1, ?_⟩
  rcases h.2 with ⟨h1, h2⟩ | ⟨g', cap, cur, hv, hb, hh, hc, hmx, hsz, ht⟩
  · cases h1
  · right
    injection hv with e1 e2 e3
    injection e1 with e1
    injection e1 with e1
    subst e1 e3
    refine ⟨g, c, _, rfl, hb, row_set _ hh, hc, hmx, by simp [hsz], ?_⟩
    rw [Array.toList_setIfInBounds, List.take_set, ht]
theorem rowL_cell (h : w.ownsRow base e 1 (.slice (some ⟨g, 0, none⟩) n c) n xs) {j : Nat} (hj : j < n) : w.cell? ⟨g, j, none⟩ = xs[j]? ∧ w.frozen? ⟨g, j, none⟩ = false := by
  rcases h.2 with ⟨h1, h2⟩ | ⟨g', cap, cur, hv, hb, hh, hc, hmx, hsz, ht⟩
  · cases h1
  · injection hv with e1 e2 e3
    injection e1 with e1
    injection e1 with e1
    subst e1
    refine ⟨?_, frozen_of_row _ _ j _ _ hh⟩
    rw [cell_of_row _ _ _ _ _ _ hh, ← ht, List.getElem?_take_of_lt (by omega), Array.getElem?_toList]
theorem rowL_some (h : w.ownsRow base e 1 (.slice (some ⟨g, 0, none⟩) n c) n xs) {j : Nat} (hj : j < n) : (w.cell? ⟨g, j, none⟩).isSome = true := by
  rw [(rowL_cell h hj).1, List.getElem?_eq_getElem (by rw [h.1]; omega)]; rfl
theorem rowL_pre (h : w.ownsRow base e 1 (.slice (some ⟨g, 0, none⟩) n c) n xs) {k : Nat} (hk : k ≤ n) : w.ownsRow base e 1 (.slice (some ⟨g, 0, none⟩) k c) k (xs.take k) := by
  have hl := h.1
  refine ⟨by rw [List.length_take]; omega, ?_⟩
  rcases h.2 with ⟨h1, h2⟩ | ⟨g', cap, cur, hv, hb, hh, hc, hmx, hsz, ht⟩
  · cases h1
  · injection hv with e1 e2 e3
    injection e1 with e1
    injection e1 with e1
    subst e1 e3
    exact .inr ⟨g, c, cur, rfl, hb, hh, by omega, hmx, hsz, by rw [← ht, List.take_take]; congr 1; omega⟩
theorem rowL_setCells : ∀ (vs : List Value) (o : Nat) (w : World), n ≤ o → w.ownsRow base e 1 (.slice (some ⟨g, 0, none⟩) n c) n xs → (w.setCells g o vs).ownsRow base e 1 (.slice (some ⟨g, 0, none⟩) n c) n xs
  | [], _, w, _, h => h
  | v :: r, o, w, ho, h => by
    rw [World.setCells]
    refine rowL_setCells r (o + 1) _ (by omega) ?_
    have h2 := rowL_set h o v
    rwa [List.set_eq_of_length_le (by rw [h.1]; omega)] at h2
theorem rowL_lt (h : w.ownsRow base e 1 (.slice (some ⟨g, 0, none⟩) n c) n xs) : base ≤ g ∧ g < w.heap.size ∧ n ≤ c ∧ c ≤ maxLen := by
  rcases h.2 with ⟨h1, h2⟩ | ⟨g', cap, cur, hv, hb, hh, hc, hmx, hsz, ht⟩
  · cases h1
  · injection hv with e1 e2 e3
    injection e1 with e1
    injection e1 with e1
    subst e1 e3
    exact ⟨hb, (Array.getElem?_eq_some_iff.1 hh).1, hc, hmx⟩
end
theorem RowsA.set {w0 : World} {xs : List Value} {M : List Bs} (h : RowsA w0 xs M) (j : Nat) {y : Bs} {a : Option Addr} {c : Nat} (hs : Sl w0 a c y) : RowsA w0 (xs.set j (.slice a y.length c)) (M.set j y) := by
  refine ⟨by simp [h.1], fun i hi => ?_⟩
  have hi' : i < M.length := by simpa using hi
  by_cases hij : j = i
  · subst hij
    refine ⟨a, c, ?_, ?_⟩
    · rw [List.getElem?_set_self (by rw [h.1]; exact hi')]; simp
    · simpa using hs
  · obtain ⟨a', c', h1, h2⟩ := h.2 i hi'
    refine ⟨a', c', ?_, ?_⟩
    · rw [List.getElem?_set_ne hij, List.getElem_set_ne hij]; exact h1
    · rw [List.getElem_set_ne hij]; exact h2
theorem RowsA.take {w0 : World} {xs : List Value} {M : List Bs} (h : RowsA w0 xs M) (k : Nat) : RowsA w0 (xs.take k) (M.take k) := by
  refine ⟨by simp [h.1], fun i hi => ?_⟩
  have hi' : i < k ∧ i < M.length := by rw [List.length_take] at hi; omega
  obtain ⟨a', c', h1, h2⟩ := h.2 i hi'.2
  refine ⟨a', c', ?_, ?_⟩
  · rw [List.getElem?_take_of_lt hi'.1, List.getElem_take]; exact h1
  · rw [List.getElem_take]; exact h2

/-- Where compaction stands: the first kk cells hold what is kept of the first m, from m - 1 on nothing has turned. -/
structure Comp (L N : List Bs) (m kk : Nat) : Prop where
  len : N.length = L.length
  kept : N.take kk = ddP (L.take m)
  lt : kk < m
  rest : N.drop (m - 1) = L.drop (m - 1)
theorem Comp.at {L N : List Bs} {m kk : Nat} (h : Comp L N m kk) {j : Nat} (hj : m - 1 ≤ j) (h1 : j < N.length) (h2 : j < L.length) : N[j] = L[j] := by
  have e := congrArg (fun X : List Bs => X[j - (m - 1)]?) h.rest
  simp only [List.getElem?_drop, show m - 1 + (j - (m - 1)) = j by omega, List.getElem?_eq_getElem h1, List.getElem?_eq_getElem h2] at e
  injection e
theorem Comp.start {L : List Bs} {k : Nat} (hk : 1 ≤ k) (hl : k < L.length) (hd : ddP (L.take k) = L.take k) (he : L[k] = L[k - 1]) : Comp L L (k + 1) k := by
  obtain ⟨j, rfl⟩ : ∃ j, k = j + 1 := ⟨k - 1, by omega⟩
  exact ⟨rfl, by rw [dd_same hl he]; exact hd.symm, by omega, rfl⟩
theorem Comp.skip {L N : List Bs} {m kk : Nat} (h : Comp L N m kk) (hm : 1 ≤ m) (hl : m < L.length) (he : L[m] = L[m - 1]) : Comp L N (m + 1) kk := by
  obtain ⟨j, rfl⟩ : ∃ j, m = j + 1 := ⟨m - 1, by omega⟩
  refine ⟨h.len, by rw [dd_same hl he]; exact h.kept, by have := h.lt; omega, ?_⟩
  have e := congrArg (fun X : List Bs => X.drop 1) h.rest
  simp only [List.drop_drop] at e
  exact e
theorem Comp.keep {L N : List Bs} {m kk : Nat} (h : Comp L N m kk) (hm : 1 ≤ m) (hl : m < L.length) (he : L[m] ≠ L[m - 1]) : Comp L (N.set kk L[m]) (m + 1) (kk + 1) := by
  have hlt := h.lt
  have hn := h.len
  obtain ⟨j, rfl⟩ : ∃ j, m = j + 1 := ⟨m - 1, by omega⟩
  refine ⟨by rw [List.length_set, hn], ?_, by omega, ?_⟩
  · rw [dd_other hl he, ← h.kept, List.take_succ_eq_append_getElem (by rw [List.length_set]; omega), List.getElem_set_self, List.take_set_of_le (Nat.le_refl _)]
  · have e := congrArg (fun X : List Bs => X.drop 1) h.rest
    simp only [List.drop_drop] at e
    rw [List.drop_set_of_lt (by omega)]
    exact e
theorem dd_small {L : List Bs} (h : L.length < 2) : ddP L = L := by
  match L, h with
  | [], _ => rfl
  | [x], _ => simp [ddP, ddS]

/-- 's[k:]'. -/
theorem slice_restL (g n c k m d : Nat) (i : Int) (hk : k < n) (hc : n ≤ c) (hi : i = k) (hm : m = n - k) (hd : d = c - k) : ∀ w : World, (Instr.slice 27 (.slice (some ⟨g, 0, none⟩) n c) (some (.int .i64 i)) none none).run Try.prog w = .ok (.slice (some ⟨g, k, none⟩) m d) w := by
  intro w
  subst hi hm hd
  rw [run_slice_l w 27 (some ⟨g, 0, none⟩) n c (by rw [elem_slices]; exact Try.underlying27) _ _ (by omega) (by omega), elem_slices, size_sl]
  simp [sliced, Addr.add_lit, show ¬ c = k by omega]
theorem zero_sl (w : World) : (zeroValue 37).run Try.prog w = .ok (.slice none 0 0) w := by kernel_rfl
theorem less_one {k kp : Nat} (h : k = kp + 1) (hm : k ≤ 9223372036854775807) : IntKind.i64.wrap ((k : Int) - 1) = (kp : Int) := by
  subst h
  rw [show ((kp + 1 : Nat) : Int) - 1 = (kp : Int) by omega]
  exact IntWalk.i64_in _ (by omega)

set_option maxHeartbeats 4000000 in
set_option maxRecDepth 100000 in
theorem compactB_any (w0 w : World) (base g cap n : Nat) (xs : List Value) (L : List Bs) (hB : Below w0.heap.size w0 w) (hg : w0.heap.size ≤ g) (hrow : w.ownsRow base 37 1 (.slice (some ⟨g, 0, none⟩) n cap) n xs) (hrows : RowsA w0 xs L) (hn : n = L.length) :
    Calls Try.prog 51 #[.slice (some ⟨g, 0, none⟩) n cap, .func (.func 52) #[] #[]] w fun e w' => ∃ ys, e = .returned (.slice (some ⟨g, 0, none⟩) (ddP L).length cap) ∧ w'.ownsRow base 37 1 (.slice (some ⟨g, 0, none⟩) (ddP L).length cap) (ddP L).length ys ∧ RowsA w0 ys (ddP L) ∧ w.grownBy w' (some g) := by
  have hE := fun (args : Array Value) (w : World) => run_enter Try.func52 (by kernel_rfl) (by kernel_rfl) args w
  obtain ⟨hbg, hlt, hnc, hcm⟩ := rowL_lt hrow
  have hcm' : cap ≤ 9223372036854775807 := by unfold maxLen at hcm; omega
  have HN := Lib.hid hn
  have HR := Lib.hid hrow
  have HA := Lib.hid hrows
  have HB := Lib.hid hB
  clear hcm
  by_cases h2 : n < 2
  · have HF : Hid (ddP L = L) := Lib.hid (dd_small (by omega))
    clear hn hrow hrows hB hE
    go_enter Try.func51, Try.ntmps51
    go_wp2_with fail
    go_ret
    refine ⟨xs, ?_, ?_, ?_, grown_refl _ _⟩
    · rw [HF.out, ← HN.out]; rfl
    · rw [HF.out, ← HN.out]; exact HR.out
    · rw [HF.out]; exact HA.out
  · have H0 : Hid (ddP (L.take 1) = L.take 1) := Lib.hid (dd_one (by omega))
    clear hn hrow hrows hB
    go_enter Try.func51, Try.ntmps51
    go_wp2_with fail
    go_loopw [5] (fun v5 wr => ∃ k q : Nat, v5 = .int .i64 k ∧ 1 ≤ k ∧ k ≤ n ∧ wr = w.drewN q ∧ Hid (ddP (L.take k) = L.take k)) (fun v5 _ => n - (intOf v5).toNat)
    case atStart => exact ⟨1, 0, rfl, by omega, by omega, rfl, H0⟩
    case round =>
      obtain ⟨k, q, rfl, hk1, hk, rfl, hT⟩ := hrel
      clear H0
      by_cases hlt2 : k < n
      · have hlt' : (k : Int) < (n : Int) := by omega
        obtain ⟨kp, hkp⟩ : ∃ kp, k = kp + 1 := ⟨k - 1, by omega⟩
        have k1 : k < L.length := by have := HN.out; omega
        have k0 : kp < L.length := by omega
        obtain ⟨a1, d1, e1, S1⟩ := HA.out.2 k k1
        obtain ⟨a0, d0, e0, S0⟩ := HA.out.2 kp k0
        have c1 := (rowL_cell HR.out hlt2).1.trans e1
        have c0 := (rowL_cell HR.out (show kp < n by omega)).1.trans e0
        have hw := less_one hkp (by omega)
        have hp1 : (kp : Int) < (n : Int) := by omega
        have hst := fun he => Comp.start (L := L) hk1 k1 hT.out he
        have hnx : L[k] ≠ L[kp] → ddP (L.take (k + 1)) = L.take (k + 1) := fun he => by
          subst hkp
          rw [dd_other k1 he, hT.out, ← List.take_succ_eq_append_getElem k1]
        have hkm : L[k - 1]'(by omega) = L[kp] := by congr 1; omega
        rw [hkm] at hst
        have HS1 := Lib.hid S1
        have HS0 := Lib.hid S0
        have HKP := Lib.hid hkp
        clear hkm hkp
        generalize L[k] = y1 at *
        generalize L[kp] = y0 at *
        have HST := Lib.hid hst
        have HNX := Lib.hid hnx
        have HC := Lib.hid (fun q => EqualB_any a1 a0 y1 y0 y1.length y0.length d1 d0 (w.drewN q) (HS1.out.on (Below.trans HB.out (below_drewN (Below.refl _ _) q))).bys (HS0.out.on (Below.trans HB.out (below_drewN (Below.refl _ _) q))).bys rfl rfl)
        generalize y1.length = n1 at *
        generalize y0.length = n0 at *
        clear e1 e0 S1 S0 hst hnx hT k0
        cases hv : (y1 == y0) with
        | false =>
          have HT2 := Lib.hid (HNX.out (by simpa using hv))
          rw [hv] at HC
          clear HNX HST hv HS1 HS0
          go_wp2_with fail
          go_quiet (exact (HC.out _).mono fun _ _ ⟨h1, h2⟩ => ⟨h1, _, h2.symm⟩)
          go_wp2_with fail
          go_roundw
          case rel => exact ⟨k + 1, _, by go_num, by omega, by omega, rfl, HT2⟩
          case measure => simp [intOf]; omega
        | true =>
          have HCO := Lib.hid (HST.out (by simpa using hv))
          rw [hv] at HC
          clear HNX HST hv HS1 HS0
          obtain ⟨m, hm⟩ : ∃ m, m = n - k := ⟨_, rfl⟩
          obtain ⟨d, hd⟩ : ∃ d, d = cap - k := ⟨_, rfl⟩
          have SL := slice_restL g n cap k m d k hlt2 hnc rfl hm hd
          have hkm : k + m = n := by omega
          have hmd : m ≤ d ∧ d ≤ 9223372036854775807 := by omega
          obtain ⟨hmd1, hmd2⟩ := hmd
          have HKM := Lib.hid hkm
          clear hm hd hkm
          go_wp2_with fail
          go_quiet (exact (HC.out _).mono fun _ _ ⟨h1, h2⟩ => ⟨h1, _, h2.symm⟩)
          go_wp2_with fail
          clear c1 c0 SL HC hw
          go_loopw [5, 7] (fun v5 v7 wr => ∃ (kk k2 : Nat) (ys : List Value) (N : List Bs), v5 = .int .i64 kk ∧ v7 = .int .i64 k2 ∧ 1 ≤ k2 ∧ k2 ≤ m ∧ Hid (wr.ownsRow base 37 1 (.slice (some ⟨g, 0, none⟩) n cap) n ys) ∧ Hid (RowsA w0 ys N) ∧ Hid (Comp L N (k + k2) kk) ∧ Hid (w.grownBy wr (some g))) (fun _ v7 _ => m - (intOf v7).toNat)
          case atStart => exact ⟨k, 1, xs, L, rfl, rfl, by omega, by have := HKM.out; omega, Lib.hid (ownsRow_below HR.out (below_drewN (Below.refl _ _) _) (Nat.le_refl _)), HA, HCO, Lib.hid (grown_of_below (below_drewN (Below.refl _ _) _) _)⟩
          case round =>
            obtain ⟨kk, k2, ys, N, rfl, rfl, h1, hle, HR2, HA2, HCP, HG⟩ := hrel
            rename World => wr
            clear HCO
            have hBw : Below w0.heap.size w0 wr := Below.grown HB.out HG.out HB.out.size (fun i hi => by injection hi with hi; omega)
            have HBW := Lib.hid hBw
            clear hBw
            have hkk := HCP.out.lt
            have hkm := HKM.out
            have hNl := HCP.out.len
            by_cases hlt3 : k2 < m
            · have hlt3' : (k2 : Int) < (m : Int) := by omega
              obtain ⟨kq, hkq⟩ : ∃ kq, k2 = kq + 1 := ⟨k2 - 1, by omega⟩
              have j1 : k + k2 < L.length := by have := HN.out; omega
              have j0 : k + kq < L.length := by omega
              obtain ⟨a3, d3, e3, S3⟩ := HA2.out.2 (k + k2) (by omega)
              obtain ⟨a4, d4, e4, S4⟩ := HA2.out.2 (k + kq) (by omega)
              have at1 := HCP.out.at (j := k + k2) (by omega) (by omega) j1
              have at0 := HCP.out.at (j := k + kq) (by omega) (by omega) j0
              rw [at1] at e3 S3
              rw [at0] at e4 S4
              have c3 := (rowL_cell HR2.out (show k + k2 < n by omega)).1.trans e3
              have c4 := (rowL_cell HR2.out (show k + kq < n by omega)).1.trans e4
              obtain ⟨a5, d5, e5, -⟩ := HA2.out.2 kk (by omega)
              have ck := (rowL_cell HR2.out (show kk < n by omega)).1.trans e5
              generalize (N[kk]'(by omega)).length = n5 at ck
              clear e5
              have fk := (rowL_cell HR2.out (show kk < n by omega)).2
              have hw := less_one hkq (by omega)
              have hp1 : (kq : Int) < (m : Int) := by omega
              have hpk : (kk : Int) < (n : Int) := by omega
              have hkm1 : L[k + k2 - 1]'(by omega) = L[k + kq] := by congr 1; omega
              have hsk := fun he => HCP.out.skip (Nat.le_trans hk1 (Nat.le_add_right _ _)) j1 he
              have hkp := fun he => HCP.out.keep (Nat.le_trans hk1 (Nat.le_add_right _ _)) j1 he
              rw [hkm1] at hsk hkp
              have hst := HA2.out.set kk S3
              have hrs := rowL_set HR2.out kk (.slice a3 (L[k + k2]).length d3)
              clear e3 e4 at1 at0 hkm1 HKP hkq
              generalize L[k + k2] = y3 at *
              generalize L[k + kq] = y4 at *
              have HSK := Lib.hid hsk
              have HKE := Lib.hid hkp
              have HC := Lib.hid (fun q => EqualB_any a3 a4 y3 y4 y3.length y4.length d3 d4 (wr.drewN q) (S3.on (Below.trans HBW.out (below_drewN (Below.refl _ _) q))).bys (S4.on (Below.trans HBW.out (below_drewN (Below.refl _ _) q))).bys rfl rfl)
              generalize y3.length = n3 at *
              generalize y4.length = n4 at *
              have HHST := Lib.hid hst
              have HRS := Lib.hid hrs
              have gs : wr.grownBy (wr.setCell ⟨g, kk, none⟩ (.slice a3 n3 d3)) (some g) := by
                have := grownBy_setCells g [.slice a3 n3 d3] kk wr
                simpa [World.setCells] using this
              have HGS := Lib.hid gs
              have HAS := Lib.hid (show k + k2 + 1 = k + (k2 + 1) from rfl)
              clear S3 S4 hsk hkp hst hrs gs hNl j1 j0
              cases hv : (y3 == y4) with
              | true =>
                have HC2 := Lib.hid (HSK.out (by simpa using hv))
                rw [hv] at HC
                clear hv HSK HKE HHST HRS HGS ck fk
                go_wp2_with fail
                go_quiet (exact (HC.out _).mono fun _ _ ⟨h1, h2⟩ => ⟨h1, _, h2.symm⟩)
                go_wp2_with fail
                go_roundw
                case rel => exact ⟨kk, k2 + 1, ys, N, rfl, by go_num, by omega, by omega, Lib.hid (ownsRow_below HR2.out (below_drewN (Below.refl _ _) _) (Nat.le_refl _)), HA2, HC2, Lib.hid (grown_trans HG.out (grown_of_below (below_drewN (Below.refl _ _) _) (some g)) (fun k hk => .inl hk))⟩
                case measure => simp [intOf]; omega
              | false =>
                have HC2 := Lib.hid (HKE.out (by simpa using hv))
                rw [hv] at HC
                clear hv HSK HKE
                go_wp2_with fail
                go_quiet (exact (HC.out _).mono fun _ _ ⟨h1, h2⟩ => ⟨h1, _, h2.symm⟩)
                go_wp2_with fail
                go_roundw
                case rel => exact ⟨kk + 1, k2 + 1, _, _, by go_num, by go_num, by omega, by omega, Lib.hid (rowL_set (ownsRow_below HR2.out (below_drewN (Below.refl _ _) _) (Nat.le_refl _)) _ _), HHST, HC2, Lib.hid (by
                  have g1 := grown_trans (w2 := wr.drewN nq) HG.out (grown_of_below (below_drewN (Below.refl _ wr) nq) (some g)) (fun k hk => .inl hk)
                  refine grown_trans g1 ?_ (fun k hk => .inl hk)
                  have := grownBy_setCells g [.slice a3 n3 d3] kk (wr.drewN nq)
                  simpa [World.setCells] using this)⟩
                case measure => simp [intOf]; omega
            · have hlt3' : ¬ (k2 : Int) < (m : Int) := by omega
              obtain rfl : k2 = m := by omega
              obtain ⟨m2, hm2⟩ : ∃ m2, m2 = n - kk := ⟨_, rfl⟩
              obtain ⟨d2, hd2⟩ : ∃ d2, d2 = cap - kk := ⟨_, rfl⟩
              have SL := slice_restL g n cap kk m2 d2 kk (by omega) hnc rfl hm2 hd2
              have CL : ∀ ty, (Builtin.clear_ #[27] ty #[.slice (some ⟨g, kk, none⟩) m2 d2]).run Try.prog wr = .ok (.tuple #[]) (wr.setCells g kk (List.replicate m2 (.slice none 0 0))) := fun ty => Lib.run_clear_slice wr _ _ ty _ Try.underlying27 zero_sl rfl rfl g kk _ _ (by omega) (fun j hj => rowL_some HR2.out (by omega)) (fun j hj => (rowL_cell HR2.out (by omega)).2)
              have PR := slice_preS (some ⟨g, 0, none⟩) n cap kk kk (by omega) hnc rfl
              have hdd : N.take kk = ddP L := by
                have h1 := HCP.out.kept
                rw [h1, List.take_of_length_le (by have := HN.out; omega)]
              have hlen : (ddP L).length = kk := by rw [← hdd, List.length_take, hNl]; have := HN.out; omega
              have hF := rowL_setCells (List.replicate m2 (.slice none 0 0)) kk wr (Nat.le_refl _) (rowL_pre HR2.out (show kk ≤ n by omega))
              have hF2 := HA2.out.take kk
              rw [hdd] at hF2
              have hF3 := grown_trans HG.out (grownBy_setCells g (List.replicate m2 (.slice none 0 0)) kk wr) (fun k hk => .inl hk)
              have HF := Lib.hid hF
              have HF2 := Lib.hid hF2
              have HF3 := Lib.hid hF3
              have HLEN := Lib.hid hlen
              clear hF hF2 hF3 hlen hdd HCP HA2 hm2 hd2 hNl
              generalize wr.setCells g kk (List.replicate m2 (.slice none 0 0)) = W9 at *
              go_wp2_with fail
              go_ret
              refine ⟨?_, ys.take kk, ?_, HF2.out, HF3.out⟩
              · rw [HLEN.out]; rfl
              · rw [HLEN.out]; exact HF.out
      · have hlt' : ¬ (k : Int) < (n : Int) := by omega
        obtain rfl : k = n := by omega
        have hd : ddP L = L := by
          have := hT.out
          rwa [HN.out, List.take_length] at this
        have HD := Lib.hid hd
        clear hT hd
        go_wp2_with fail
        go_ret
        refine ⟨?_, xs, ?_, ?_, grown_of_below (below_drewN (Below.refl _ _) _) _⟩
        · rw [HD.out, ← HN.out]; rfl
        · rw [HD.out, ← HN.out]; exact ownsRow_below HR.out (below_drewN (Below.refl _ _) _) (Nat.le_refl _)
        · rw [HD.out]; exact HA.out
end Go.Proofs.Ytbeggckkgaoacaa
