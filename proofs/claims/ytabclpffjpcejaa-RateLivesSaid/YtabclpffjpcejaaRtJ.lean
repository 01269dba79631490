/-
  The best is the best: its plain theory; whether a number stands in a list; the walk of RateBest.
-/
import Derived.Test.YtabclpffjpcejaaRtE
import Derived.Test.YtabclpffjpcejaaHdB
import Derived.Test.YtabclpffjpcejaaDoA
import Derived.Deep.CutBlock
import Derived.Deep.DeepCutAuto
namespace Go.Proofs.Ytabclpffjpcejaa
open Go.RowKit Go.Maps
set_option linter.unusedVariables false
set_option maxRecDepth 100000

theorem cmpT_lt (x y : Nat × Nat) : cmpT x y < 0 ↔ (x.2 < y.2 ∨ (x.2 = y.2 ∧ x.1 < y.1)) := by
  unfold cmpT orI cmpN
  by_cases h1 : x.2 < y.2
  · simp [h1]
  · by_cases h2 : y.2 < x.2
    · simp only [h1, h2, if_false, if_true]
      constructor
      · intro h; simp at h
      · intro h; exfalso; first | omega | (simp at h; omega)
    · have e : x.2 = y.2 := by omega
      by_cases h3 : x.1 < y.1
      · simp [e, h3]
      · by_cases h4 : y.1 < x.1
        · simp [e, h3, h4]
        · simp [e, h3, h4]
theorem lessT_iff (x y : Nat × Nat) : lessT x y = true ↔ (x.2 < y.2 ∨ (x.2 = y.2 ∧ x.1 < y.1)) := by
  unfold lessT
  rw [decide_eq_true_iff, cmpT_lt]
theorem bestOf_min (T : Int → Nat × Nat) (r : List Int) : ∀ m b, b ∈ m :: r → ¬ ((T b).2 < (T (bestOf T m r)).2 ∨ ((T b).2 = (T (bestOf T m r)).2 ∧ (T b).1 < (T (bestOf T m r)).1)) := by
  induction r with
  | nil => intro m b hb; simp at hb; subst hb; unfold bestOf; omega
  | cons a r ih =>
    intro m b hb
    unfold bestOf
    by_cases h : lessT (T a) (T m) = true
    · rw [if_pos h]
      rw [lessT_iff] at h
      rcases List.mem_cons.1 hb with rfl | hb
      · have := ih a a (List.mem_cons_self)
        omega
      · exact ih a b hb
    · rw [if_neg h]
      rw [lessT_iff] at h
      rcases List.mem_cons.1 hb with rfl | hb
      · exact ih b b (List.mem_cons_self)
      · rcases List.mem_cons.1 hb with rfl | hb
        · have := ih m m (List.mem_cons_self)
          omega
        · exact ih m b (List.mem_cons_of_mem _ hb)
theorem pick_spec {T : Int → Nat × Nat} {xs : List Int} (d : Int) (h : xs ≠ []) : pickT T xs d ∈ xs ∧ T (pickT T xs d) = bestV T xs := by
  have h1 := alike_ne (T := T) h
  have h2 : pickT T xs d ∈ alikeT T (bestV T xs) xs := by
    unfold pickT
    have : drawU d % (alikeT T (bestV T xs) xs).length < (alikeT T (bestV T xs) xs).length := Nat.mod_lt _ h1
    rw [List.getD_eq_getElem?_getD, List.getElem?_eq_getElem this, Option.getD_some]
    exact List.getElem_mem _
  unfold alikeT at h2
  rw [List.mem_filter] at h2
  exact ⟨h2.1, by simpa using h2.2⟩
theorem best_min {T : Int → Nat × Nat} {xs : List Int} {b : Int} (hb : b ∈ xs) : ¬ ((T b).2 < (bestV T xs).2 ∨ ((T b).2 = (bestV T xs).2 ∧ (T b).1 < (bestV T xs).1)) := by
  match xs, hb with
  | a :: r, hb => exact bestOf_min T r a b hb

set_option maxHeartbeats 1000000 in
theorem IndexI_any (w : World) (A : Option Addr) (xs : List Int) (n c : Nat) (hn : n = xs.length) (hx : Nts w A xs) (v : Int) (hv : v ∈ xs) (hnm : n ≤ 9223372036854775807) :
    Calls Try.prog 48 #[.slice A n c, .int .i64 v] w fun e w' => (∃ k : Nat, e = .returned (.int .i64 k)) ∧ w' = w := by
  obtain ⟨i, hi, hvi⟩ := List.getElem_of_mem hv
  have hin : i < n := by omega
  have hne : ∀ k (hk : k < xs.length), v ≠ xs[k] → k ≠ i := fun k hk h e => h (by subst e; exact hvi.symm)
  obtain ⟨g, off, rfl, hc⟩ := hx (by omega)
  have HN := Lib.hid hn
  have HC := Lib.hid hc
  have HNE := Lib.hid hne
  clear hn hx hv hvi hi hc hne
  go_enter Try.func48, Try.ntmps48
  go_wp2_with fail
  go_loopw [8] (fun u wr => ∃ k : Nat, u = .int .i64 k ∧ k ≤ i ∧ wr = w) (fun u _ => n - (intOf u).toNat)
  case atStart => exact ⟨0, rfl, by omega, rfl⟩
  case round =>
    obtain ⟨k, rfl, hk, rfl⟩ := hrel
    have hkn : k < n := by omega
    have hlt' : (k : Int) < (n : Int) := by omega
    have hkl : k < xs.length := by have := HN.out; omega
    have ck := HC.out k hkl
    have hq := HNE.out k hkl
    generalize xs[k] = x at *
    by_cases e : v = x
    · subst e
      go_wp2_with fail
      go_ret
      first | exact ⟨⟨k, rfl⟩, rfl⟩ | exact ⟨k, rfl⟩ | exact ⟨⟨k, rfl⟩, trivial⟩
    · have h1 := hq e
      have e2 : (v == x) = false := by simpa using e
      clear hq e
      go_wp2_with fail
      go_roundw
      case rel => first | exact ⟨k + 1, by go_num, by omega, rfl⟩ | exact ⟨k + 1, by go_num, by omega, trivial⟩
      case measure => simp [intOf]; omega
theorem ContainsI_any (w : World) (A : Option Addr) (xs : List Int) (n c : Nat) (hn : n = xs.length) (hx : Nts w A xs) (v : Int) (hv : v ∈ xs) (hnm : n ≤ 9223372036854775807) :
    Calls Try.prog 36 #[.slice A n c, .int .i64 v] w fun e w' => e = .returned (.bool true) ∧ w' = w := by
  have C := Lib.hid (IndexI_any w A xs n c hn hx v hv hnm)
  clear hn hx hv
  go_enter Try.func36, Try.ntmps36
  go_wp2_with fail
  refine C.out.mono ?_
  rintro e w1 ⟨⟨k, rfl⟩, rfl⟩
  have hk : (0 : Int) ≤ (k : Int) := by omega
  go_wp2_with fail
  go_ret
  exact ⟨rfl, rfl⟩
/-- Behind the first loop: a table of whatever servers did. -/
def TabN (w wx : World) : Prop := ∃ (N : Nat) (T : Int → Nat × Nat), N ≤ 61 ∧ Tab (w.heap.size + 1) w.heap.size N T wx ∧ Below w.heap.size w wx
set_option maxHeartbeats 4000000 in
theorem RateBest_any (w : World) (A1 : Option Addr) (ps : List (Int × Int)) (n1 c1 : Nat) (hn1 : n1 = ps.length) (h1 : Prs w A1 ps) (hP : ∀ x ∈ ps, (-9223372036854775808 ≤ x.1 ∧ x.1 ≤ 9223372036854775807) ∧ (-9223372036854775808 ≤ x.2 ∧ x.2 ≤ 9223372036854775807)) (hm1 : n1 ≤ 9223372036854775807)
    (A2 : Option Addr) (xs : List Int) (n2 c2 : Nat) (hn2 : n2 = xs.length) (h2 : Nts w A2 xs) (hI : ∀ a ∈ xs, I64 a) (hm2 : n2 ≤ 17592186044416) (d : Int) :
    Calls Try.prog 9 #[.slice A1 n1 c1, .slice A2 n2 c2, .int .i64 d] w fun e w' => e = .returned (.bool true) ∧ Below w.heap.size w w' := by
  have NT := Lib.hid (NewT_any w)
  have HN1 := Lib.hid hn1
  have HN2 := Lib.hid hn2
  have H1 := Lib.hid h1
  have H2 := Lib.hid h2
  have HP := Lib.hid hP
  have HI := Lib.hid hI
  clear hn1 hn2 h1 h2 hP hI
  go_enter Try.func9, Try.ntmps9
  go_wp2_with fail
  refine NT.out.mono ?_
  rintro e w1 ⟨rfl, t1, b1⟩
  have T1 := Lib.hid t1
  have B1 := Lib.hid b1
  clear t1 b1 NT
  go_upto_block 0 with fail
  go_cut [] (fun wx => TabN w wx)
  case first =>
    go_wp2_with fail
    go_loopw [21] (fun u wr => ∃ k : Nat, u = .int .i64 k ∧ k ≤ n1 ∧ k ≤ 61 ∧ ∃ (N : Nat) (T : Int → Nat × Nat), N ≤ k ∧ Tab (w.heap.size + 1) w.heap.size N T wr ∧ Below w.heap.size w wr) (fun u _ => n1 - (intOf u).toNat)
    case atStart => exact ⟨0, rfl, by omega, by omega, 0, _, Nat.le_refl _, T1.out, B1.out⟩
    case round =>
      obtain ⟨k, rfl, hk, hk61, N, T, hN, hT, hB⟩ := hrel
      rename_i wr
      by_cases hlt : k < n1
      · have hlt' : (k : Int) < (n1 : Int) := by omega
        have hkl : k < ps.length := by have := HN1.out; omega
        obtain ⟨g, off, rfl, hc⟩ := H1.out (by omega)
        obtain ⟨ca, cb⟩ := hc k hkl
        have ca' := cell_on ca hB
        have cb' := cell_on cb hB
        obtain ⟨⟨p1, p2⟩, ⟨p3, p4⟩⟩ := HP.out _ (List.getElem_mem hkl)
        generalize ps[k] = x at *
        obtain ⟨xa, xt⟩ := x
        dsimp only at ca' cb' p1 p2 p3 p4
        clear ca cb hc
        by_cases h60 : (60 : Int) < (k : Int)
        · have HF : Hid (TabN w (wr.alloc (.cells #[.int .i64 xa, .int .i64 xt] 63))) := Lib.hid ⟨N, T, by omega, hT.below (Below.alloc (Below.refl _ _) (Nat.le_refl _) _), Below.alloc hB hB.size _⟩
          clear hT hB
          go_wp2_with fail
          go_meet
          exact HF.out
        · have h60' : (k : Int) ≤ 60 := by omega
          obtain ⟨W, hW⟩ : ∃ W, W = wr.alloc (.cells #[.int .i64 xa, .int .i64 xt] 63) := ⟨_, rfl⟩
          have hTW : Tab (w.heap.size + 1) w.heap.size N T W := by rw [hW]; exact hT.below (Below.alloc (Below.refl _ _) (Nat.le_refl _) _)
          have hBW : Below w.heap.size w W := by rw [hW]; exact Below.alloc hB hB.size _
          have rw0 : W.heap[wr.heap.size]? = some (.cells #[.int .i64 xa, .int .i64 xt] 63 (0, 0)) := by rw [hW]; exact row_new _ rfl
          have d0 := (cell_of_row _ _ 0 _ _ _ rw0).trans rfl
          have d1 := (cell_of_row _ _ 1 _ _ _ rw0).trans rfl
          have hlm := hTW.lt
          have HW := Lib.hid hW
          have HBW := Lib.hid hBW
          have fin : ∀ w2, Mod (fun k => k = w.heap.size) W w2 → Below w.heap.size w w2 := fun w2 hM => Mod.out hBW hM hBW.size (fun i e => by omega)
          have FIN := Lib.hid fin
          have hN44 : N < 17592186044416 := by omega
          by_cases ht : xt < 0
          · have C := Lib.hid (Failed_any W hTW hN44 xa ⟨p1, p2⟩)
            clear hT hB hTW hBW rw0 hlm hW fin
            go_wp2_with fail
            rw [← HW.out]
            go_wp2_with fail
            refine C.out.mono ?_
            rintro e w2 ⟨rfl, t2, m2⟩
            have T2 := Lib.hid t2
            have B2 := Lib.hid (FIN.out _ m2)
            clear t2 m2 FIN C
            go_wp2_with fail
            go_roundw
            case rel => exact ⟨k + 1, by go_num, by omega, by omega, N + 1, _, by omega, T2.out, B2.out⟩
            case measure => simp [intOf]; omega
          · by_cases ht2 : xt ≤ 1000
            · obtain ⟨tn, rfl⟩ : ∃ tn : Nat, xt = (tn : Int) := ⟨xt.toNat, by omega⟩
              have C := Lib.hid (Answered_yes W hTW hN44 xa ⟨p1, p2⟩ tn (by omega))
              have ht0 : (0 : Int) ≤ (tn : Int) := by omega
              clear hT hB hTW hBW rw0 hlm hW fin ht
              go_wp2_with fail
              rw [← HW.out]
              go_wp2_with fail
              refine C.out.mono ?_
              rintro e w2 ⟨rfl, t2, m2⟩
              have T2 := Lib.hid t2
              have B2 := Lib.hid (FIN.out _ m2)
              clear t2 m2 FIN C
              go_wp2_with fail
              go_roundw
              case rel => exact ⟨k + 1, by go_num, by omega, by omega, N + 1, _, by omega, T2.out, B2.out⟩
              case measure => simp [intOf]; omega
            · have C := Lib.hid (Answered_no W hTW xa xt (.inr (by omega)))
              have ht0 : 0 ≤ xt := by omega
              have T2 := Lib.hid hTW
              clear hT hB hTW hBW rw0 hlm hW fin ht
              go_wp2_with fail
              rw [← HW.out]
              go_wp2_with fail
              refine C.out.mono ?_
              rintro e w2 ⟨rfl, rfl⟩
              go_wp2_with fail
              go_roundw
              case rel => exact ⟨k + 1, by go_num, by omega, by omega, N, _, by omega, T2.out, HBW.out⟩
              case measure => simp [intOf]; omega
      · obtain rfl : k = n1 := by omega
        have HF : Hid (TabN w wr) := Lib.hid ⟨N, T, by omega, hT, hB⟩
        clear hT hB
        go_wp2_with fail
        go_meet
        exact HF.out
  case rest =>
    obtain ⟨N, T, hN, hT, hB⟩ := hcut
    have HT := Lib.hid hT
    have HB := Lib.hid hB
    clear hT hB T1 B1
    by_cases h0 : n2 = 0
    · subst h0
      have C := Lib.hid (Best_no _ HT.out A2 c2 d)
      have hN1 : Nts (wc.alloc (.cells #[.int .i64 1] 3)) (some ⟨wc.heap.size, 0, none⟩) [1] := fun _ => ⟨_, _, rfl, fun j hj => by
        match j, hj with
        | 0, _ => exact (cell_of_row _ _ 0 _ _ _ (row_new _ rfl)).trans rfl⟩
      have B9 := Lib.hid (Best_yes _ (HT.out.below (Below.alloc (Below.refl _ _) (Nat.le_refl _) (.cells #[.int .i64 1] 3))) _ [1] 1 1 0 rfl hN1 (fun a ha => by simp at ha; subst ha; exact ⟨by omega, by omega⟩) (by omega) (by omega))
      have hs := HB.out.size
      clear hN1
      go_wp2_with fail
      refine C.out.mono ?_
      rintro e w2 ⟨rfl, rfl⟩
      go_wp2_with fail
      refine B9.out.mono ?_
      rintro e w3 ⟨rfl, b3⟩
      have BF := Lib.hid (Below.trans HB.out ((Below.trans (Below.alloc (Below.refl _ _) (Nat.le_refl _) _) (b3.mono (by simp))).mono hs))
      clear b3 C B9
      go_wp2_with fail
      go_ret
      exact ⟨rfl, BF.out⟩
    · have hpos : 0 < n2 := by omega
      have hne : xs ≠ [] := by intro e; have := HN2.out; rw [e] at this; simp at this; omega
      have C := Lib.hid (Best_yes wc HT.out A2 xs n2 c2 d HN2.out (H2.out.on HB.out) HI.out hpos hm2)
      obtain ⟨hpm, hpv⟩ := pick_spec (T := T) d hne
      have HPM := Lib.hid hpm
      have HPV := Lib.hid hpv
      have hpi : I64 (pickT T xs d) := HI.out _ hpm
      have hs := HB.out.size
      have HOK : Hid (∀ a, (T a).1 ≤ 8000 ∧ (T a).2 ≤ 1000) := Lib.hid HT.out.ok
      have hn0 : ((n2 : Int) == 0) = false := by simp; omega
      generalize pickT T xs d = pk at *
      clear hpm hpv hne h0
      go_wp2_with fail
      refine C.out.mono ?_
      rintro e w2 ⟨rfl, b2⟩
      have T2 := Lib.hid (HT.out.below b2)
      have B2 := Lib.hid (Below.trans HB.out (b2.mono hs))
      have H22 := Lib.hid (H2.out.on B2.out)
      have CT := Lib.hid (ContainsI_any w2 A2 xs n2 c2 HN2.out H22.out pk HPM.out (by omega))
      have O1 := Lib.hid (Of_any w2 T2.out pk hpi)
      clear b2 C
      go_wp2_with fail
      go_loopw [69] (fun u wr => ∃ k : Nat, u = .int .i64 k ∧ k ≤ n2 ∧ wr = w2) (fun u _ => n2 - (intOf u).toNat)
      case atStart => exact ⟨0, rfl, by omega, rfl⟩
      case round =>
        obtain ⟨k, rfl, hk, rfl⟩ := hrel
        by_cases hlt : k < n2
        · have hlt' : (k : Int) < (n2 : Int) := by omega
          have hkl : k < xs.length := by have := HN2.out; omega
          obtain ⟨g, off, rfl, hc⟩ := H22.out (by omega)
          have ck := hc k hkl
          have hmin := best_min (T := T) (List.getElem_mem hkl)
          rw [← HPV.out] at hmin
          have hxi := HI.out _ (List.getElem_mem hkl)
          obtain ⟨x, hx⟩ : ∃ x, x = xs[k] := ⟨_, rfl⟩
          rw [← hx] at ck hmin hxi
          clear hx hc
          have O2 := Lib.hid (Of_any _ T2.out x hxi)
          have ox := HOK.out x
          have op := HOK.out pk
          have q1 := Fl_order (a := (T x).2) (b := (T pk).2) (by omega) (by omega)
          have q2 := Fl_order (a := (T x).1) (b := (T pk).1) (by omega) (by omega)
          have e1 : (FloatKind.f64.format.order (Fl (T x).2) (Fl (T pk).2) == some .lt) = false := by
            rw [q1]
            rcases Nat.lt_trichotomy (T x).2 (T pk).2 with h | h | h
            · exact absurd (.inl h) hmin
            · rw [Nat.compare_eq_eq.2 h]; rfl
            · rw [Nat.compare_eq_gt.2 h]; rfl
          by_cases he : (T x).2 = (T pk).2
          · have e2 : (FloatKind.f64.format.order (Fl (T x).2) (Fl (T pk).2) == some .eq) = true := by rw [q1, Nat.compare_eq_eq.2 he]; rfl
            have e3 : (FloatKind.f64.format.order (Fl (T x).1) (Fl (T pk).1) == some .lt) = false := by
              rw [q2]
              rcases Nat.lt_trichotomy (T x).1 (T pk).1 with h | h | h
              · exact absurd (.inr ⟨he, h⟩) hmin
              · rw [Nat.compare_eq_eq.2 h]; rfl
              · rw [Nat.compare_eq_gt.2 h]; rfl
            clear q1 q2 he hmin ox op
            unfold cV at O1 O2
            generalize Fl (T x).1 = f1 at *
            generalize Fl (T x).2 = f2 at *
            generalize Fl (T pk).1 = f3 at *
            generalize Fl (T pk).2 = f4 at *
            go_wp2_with fail
            refine O1.out.mono ?_
            rintro e w3 ⟨rfl, rfl⟩
            go_wp2_with fail
            with_reducible refine Calls.mono O2.out ?_
            rintro e w3 ⟨rfl, rfl⟩
            go_wp2_with fail
            go_roundw
            case rel => first | exact ⟨k + 1, by go_num, by omega, trivial⟩ | exact ⟨k + 1, by go_num, by omega, rfl⟩ | ((repeat apply Exists.intro); exact ⟨⟨k + 1, by go_num, by omega, trivial⟩, rfl⟩)
            case measure => simp [intOf]; omega
          · have e2 : (FloatKind.f64.format.order (Fl (T x).2) (Fl (T pk).2) == some .eq) = false := by
              rw [q1]
              rcases Nat.lt_trichotomy (T x).2 (T pk).2 with h | h | h
              · rw [Nat.compare_eq_lt.2 h]; rfl
              · exact absurd h he
              · rw [Nat.compare_eq_gt.2 h]; rfl
            clear q1 q2 he hmin ox op
            unfold cV at O1 O2
            generalize Fl (T x).1 = f1 at *
            generalize Fl (T x).2 = f2 at *
            generalize Fl (T pk).1 = f3 at *
            generalize Fl (T pk).2 = f4 at *
            go_wp2_with fail
            refine O1.out.mono ?_
            rintro e w3 ⟨rfl, rfl⟩
            go_wp2_with fail
            with_reducible refine Calls.mono O2.out ?_
            rintro e w3 ⟨rfl, rfl⟩
            go_wp2_with fail
            go_roundw
            case rel => first | exact ⟨k + 1, by go_num, by omega, trivial⟩ | exact ⟨k + 1, by go_num, by omega, rfl⟩ | ((repeat apply Exists.intro); exact ⟨⟨k + 1, by go_num, by omega, trivial⟩, rfl⟩)
            case measure => simp [intOf]; omega
        · obtain rfl : k = n2 := by omega
          go_wp2_with fail
          refine CT.out.mono ?_
          rintro e w3 ⟨rfl, rfl⟩
          go_wp2_with fail
          go_ret
          exact ⟨rfl, B2.out⟩
end Go.Proofs.Ytabclpffjpcejaa
