/-
  RateLives: its walk.
-/
import Derived.Test.YtabclpffjpcejaaRtP
import Derived.Deep.RegionHeld3
import Derived.Deep.CutBlock
import Derived.Deep.DeepCutAuto
namespace Go.Proofs.Ytabclpffjpcejaa
open Go.RowKit Go.Maps
set_option linter.unusedVariables false
set_option maxRecDepth 100000

theorem NewT2_any (w : World) : Calls Try.prog 27 #[] w fun e w' => e = .returned (.pointer (some ⟨w.heap.size + 1, 0, none⟩)) ∧ Tab (w.heap.size + 1) w.heap.size 0 (fun _ => (0, 0)) w' ∧ Below w.heap.size w w' ∧ w'.heap.size = w.heap.size + 2 := by
  obtain ⟨W, hW⟩ : ∃ W, W = (w.alloc (.map #[] 0)).alloc (.cells #[.map (some w.heap.size)] 77) := ⟨_, rfl⟩
  have hm := World.ownsMap_made w Try.prog 3 cpxE
  have t : Tab (w.heap.size + 1) w.heap.size 0 (fun _ => (0, 0)) W := by
    rw [hW]
    refine ⟨row_new _ (by simp), ⟨_, hm.alloc _, fun a => ?_⟩, fun a => by simp⟩
    simp [DataW.atKey]
  have b : Below w.heap.size w W := by rw [hW]; exact Below.alloc (Below.alloc (Below.refl _ _) (Nat.le_refl _) _) (by simp) _
  have z : W.heap.size = w.heap.size + 2 := by rw [hW]; simp
  have HW := Lib.hid hW
  have HZ := Lib.hid z
  have hmm := @run_makeMap Try.prog
  clear hm hW z
  go_enter Try.func27, Try.ntmps27
  go_wp2_with fail
  rw [← HW.out]
  go_ret
  exact ⟨rfl, t, b, HZ.out⟩
def TabE (w wx : World) : Prop := ∃ (N : Nat) (T : Int → Nat × Nat), N ≤ 1000 ∧ Tab (w.heap.size + 1) w.heap.size N T wx ∧ Below w.heap.size w wx
theorem Bh.tabE {w wr : World} {k : Nat} {T1 T2 : Int → Nat × Nat} (h : Bh w k T1 T2 wr) (hk : k ≤ 1000) : TabE w wr := by
  obtain ⟨N, v, K, h1, h2, hT, hR, hl, hW⟩ := h
  exact ⟨N, T1, by omega, hT, hW⟩
theorem pick_seven (T : Int → Nat × Nat) (d : Int) : pickT T [7] d = 7 := by
  obtain ⟨h, _⟩ := pick_spec (T := T) (xs := [7]) d (by simp)
  simpa using h
set_option maxHeartbeats 4000000 in
theorem RateLives_any (w : World) (A1 : Option Addr) (ps : List (Int × Int)) (n1 c1 : Nat) (hn1 : n1 = ps.length) (h1 : Prs w A1 ps) (hP : ∀ x ∈ ps, (-9223372036854775808 ≤ x.1 ∧ x.1 ≤ 9223372036854775807) ∧ (-9223372036854775808 ≤ x.2 ∧ x.2 ≤ 9223372036854775807)) (hm1 : n1 ≤ 9223372036854775807)
    (A2 : Option Addr) (xs : List Int) (n2 c2 : Nat) (hn2 : n2 = xs.length) (h2 : Nts w A2 xs) (hI : ∀ a ∈ xs, I64 a) (hm2 : n2 ≤ 17592186044000) (d : Int) :
    Calls Try.prog 7 #[.slice A1 n1 c1, .slice A2 n2 c2, .int .i64 d] w fun e w' => e = .returned (.bool true) ∧ Below w.heap.size w w' := by
  have NT := Lib.hid (NewT2_any w)
  have HN1 := Lib.hid hn1
  have HN2 := Lib.hid hn2
  have H1 := Lib.hid h1
  have H2 := Lib.hid h2
  have HP := Lib.hid hP
  have HI := Lib.hid hI
  clear hn1 hn2 h1 h2 hP hI
  go_enter Try.func7, Try.ntmps7
  go_wp2_with fail
  refine NT.out.mono ?_
  rintro e w1 ⟨rfl, t1, b1, z1⟩
  have hB0 : Bh w 0 (fun _ => (0, 0)) (fun _ => (0, 0)) (w1.alloc (.cells #[.slice none 0 0] 61)) := by
    refine ⟨0, .slice none 0 0, [], Nat.le_refl _, Nat.le_refl _, t1.below (Below.alloc (Below.refl _ _) (Nat.le_refl _) _), ⟨row_new _ z1.symm, World.ownsRow_nil _ _ _ _, by simp [keysK], fun q hq => by cases hq⟩, rfl, Below.alloc b1 b1.size _⟩
  have B0 := Lib.hid hB0
  have Z1 := Lib.hid z1
  clear t1 b1 NT hB0 z1
  go_upto_block 0 with fail
  rw [Z1.out]
  generalize w1.alloc (.cells #[.slice none 0 0] 61) = w2 at *
  go_cut [] (fun wx => TabE w wx)
  case first =>
    go_wp2_with fail
    go_loopw [27] (fun u wr => ∃ k : Nat, u = .int .i64 k ∧ k ≤ n1 ∧ k ≤ 81 ∧ ∃ T : Int → Nat × Nat, Bh w (2 * k) T T wr) (fun u _ => n1 - (intOf u).toNat)
    case atStart => exact ⟨0, rfl, by omega, by omega, _, B0.out⟩
    case round =>
      obtain ⟨k, rfl, hk, hk81, T, hT⟩ := hrel
      rename World => wr
      have BR := Lib.hid hT
      have hsz := hT.under.size
      by_cases hlt : k < n1
      · have hlt' : (k : Int) < (n1 : Int) := by omega
        have hkl : k < ps.length := by have := HN1.out; omega
        obtain ⟨g, off, rfl, hc⟩ := H1.out (by omega)
        obtain ⟨ca, cb⟩ := hc k hkl
        have ca' := cell_on ca hT.under
        have cb' := cell_on cb hT.under
        obtain ⟨⟨p1, p2⟩, ⟨p3, p4⟩⟩ := HP.out _ (List.getElem_mem hkl)
        obtain ⟨y, hy⟩ : ∃ y, y = ps[k] := ⟨_, rfl⟩
        rw [← hy] at ca' cb' p1 p2 p3 p4
        obtain ⟨xa, xt⟩ := y
        dsimp only at ca' cb' p1 p2 p3 p4
        clear ca cb hc hy hT
        by_cases h80 : (80 : Int) < (k : Int)
        · have HF : Hid (TabE w (wr.alloc (.cells #[.int .i64 xa, .int .i64 xt] 63))) := Lib.hid ((BR.out.below (Below.alloc (Below.refl _ _) (Nat.le_refl _) _)).tabE (by omega))
          go_wp2_with fail
          go_meet
          exact HF.out
        · have h80' : (k : Int) ≤ 80 := by omega
          have hk80 : k ≤ 80 := by omega
          obtain ⟨W, hW⟩ : ∃ W, W = wr.alloc (.cells #[.int .i64 xa, .int .i64 xt] 63) := ⟨_, rfl⟩
          have hBW : Bh w (2 * k) T T W := by rw [hW]; exact BR.out.below (Below.alloc (Below.refl _ _) (Nat.le_refl _) _)
          have hD : DoRow wr.heap.size xa xt W := by rw [hW]; exact row_new _ rfl
          have HBW := Lib.hid hBW
          have HD := Lib.hid hD
          have HW := Lib.hid hW
          have HXA : Hid (I64 xa) := Lib.hid ⟨p1, p2⟩
          clear hBW hD hW BR
          go_upto_region 7 with fail
          rw [← HW.out]
          obtain ⟨d0, d1⟩ := HD.out.cells
          have hk2 : 2 * k ≤ 900 := by omega
          go_upto_if 36 with fail
          go_cut [11, 12] (fun s11 s12 wx => ∃ (ev : Int) (T' : Int → Nat × Nat), s11 = .int .i64 ev ∧ s12 = .int .i64 ev ∧ Bh w (2 * (k + 1)) T' T' wx ∧ DoRow wr.heap.size xa xt wx)
          case first =>
            by_cases ht : xt < 0
            · have C1 := Lib.hid (FailedB xa HBW.out HD.out (by omega) HXA.out)
              clear p1 p2 p3 p4
              go_wp2_with fail
              refine C1.out.mono ?_
              rintro e w3 ⟨rfl, hB3, hD3⟩
              have C2 := Lib.hid (FailedRB xa hB3 hD3 (by omega))
              obtain ⟨e0, e1⟩ := hD3.cells
              clear hB3 hD3 C1 d0 d1
              go_wp2_with fail
              refine C2.out.mono ?_
              rintro e w4 ⟨⟨r, rfl⟩, hB4, hD4⟩
              have HB4 := Lib.hid (show Bh w (2 * (k + 1)) _ _ w4 from hB4.mono (by omega))
              have HD4 := Lib.hid hD4
              clear hB4 hD4 C2
              go_wp2_with fail
              go_meet
              exact ⟨0, _, rfl, rfl, HB4.out, HD4.out⟩
            · by_cases ht2 : xt ≤ 1000
              · obtain ⟨tn, rfl⟩ : ∃ tn : Nat, xt = (tn : Int) := ⟨xt.toNat, by omega⟩
                have C1 := Lib.hid (fun WW h1 h2 => AnsweredB (wr := WW) (w := w) (k := 2 * k) (T1 := T) (T2 := T) (b := wr.heap.size) (t := (tn : Int)) xa tn (by omega) h1 h2 (by omega) HXA.out)
                have C2 := Lib.hid (fun WW h1 h2 => AnsweredRB (wr := WW) (w := w) (k := 2 * k + 1) (T1 := put1 T xa (ansT (T xa) tn)) (T2 := T) (b := wr.heap.size) (t := (tn : Int)) xa tn (by omega) h1 h2 (by omega))
                have HBd : Hid (Bh w (2 * k) T T W.drew) := Lib.hid (HBW.out.below (Below.drew (Below.refl _ _)))
                have HDd : Hid (DoRow wr.heap.size xa (tn : Int) W.drew) := Lib.hid (HD.out.below (Below.drew (Below.refl _ _)))
                have ht0 : (0 : Int) ≤ (tn : Int) := by omega
                have hcell : ∀ w', DoRow wr.heap.size xa (tn : Int) w' → w'.cell? ⟨wr.heap.size, 0, none⟩ = some (.int .i64 xa) ∧ w'.cell? ⟨wr.heap.size, 1, none⟩ = some (.int .i64 tn) := fun w' h => h.cells
                clear p1 p2 p3 p4 ht
                go_upto_region 10 with fail
                have d2 := HDd.out.cells
                go_region_held3 (fun w' => w'.cell? ⟨wr.heap.size, 0, none⟩ = some (.int .i64 xa) ∧ w'.cell? ⟨wr.heap.size, 1, none⟩ = some (.int .i64 tn))
                  (first | assumption | exact hcell _ (by assumption))
                  (first
                    | (go_at_call 30; (with_reducible refine (C1.out _ HBd.out HDd.out).mono ?_); rintro e w' ⟨rfl, hB3, hD3⟩)
                    | (go_at_call 31; (with_reducible refine (C2.out _ (by assumption) (by assumption)).mono ?_); rintro e w' ⟨rfl, hB4, hD4⟩))
                have HB4 := Lib.hid (show Bh w (2 * (k + 1)) _ _ w' from hB4.mono (by omega))
                have HD4 := Lib.hid hD4
                clear hB4 hD4 hB3 hD3 C1 C2 HBd HDd d2
                go_wp2_with fail
                go_meet
                exact ⟨0, _, rfl, rfl, HB4.out, HD4.out⟩
              · have ht0 : 0 ≤ xt := by omega
                have C1 := Lib.hid (fun WW h1 h2 => AnsweredB_no (wr := WW) (w := w) (k := 2 * k) (T1 := T) (T2 := T) (b := wr.heap.size) (t := xt) xa xt (.inr (by omega)) h1 h2)
                have C2 := Lib.hid (fun WW => AnsweredR_no (x := w.heap.size + 2) WW xa xt (.inr (by omega)))
                have HBd : Hid (Bh w (2 * k) T T W.drew) := Lib.hid (HBW.out.below (Below.drew (Below.refl _ _)))
                have HDd : Hid (DoRow wr.heap.size xa xt W.drew) := Lib.hid (HD.out.below (Below.drew (Below.refl _ _)))
                have hcell : ∀ w', DoRow wr.heap.size xa xt w' → w'.cell? ⟨wr.heap.size, 0, none⟩ = some (.int .i64 xa) ∧ w'.cell? ⟨wr.heap.size, 1, none⟩ = some (.int .i64 xt) := fun w' h => h.cells
                clear p1 p2 p3 p4 ht ht2
                go_upto_region 10 with fail
                have d2 := HDd.out.cells
                go_region_held3 (fun w' => w'.cell? ⟨wr.heap.size, 0, none⟩ = some (.int .i64 xa) ∧ w'.cell? ⟨wr.heap.size, 1, none⟩ = some (.int .i64 xt))
                  (first | assumption | exact hcell _ (by assumption))
                  (first
                    | (go_at_call 30; (with_reducible refine (C1.out _ HBd.out HDd.out).mono ?_); rintro e w' ⟨rfl, hB3, hD3⟩)
                    | (go_at_call 31; (with_reducible refine (C2.out _).mono ?_); rintro e w' ⟨rfl, rfl⟩))
                have HB4 := Lib.hid (show Bh w (2 * (k + 1)) _ _ w' from hB3.mono (by omega))
                have HD4 := Lib.hid hD3
                clear hB3 hD3 C1 C2 HBd HDd d2
                go_wp2_with fail
                go_meet
                exact ⟨1, _, rfl, rfl, HB4.out, HD4.out⟩
          case rest =>
            obtain ⟨ev, T', rfl, rfl, hB5, hD5⟩ := hcut
            have B5 := Lib.hid hB5
            have OF := Lib.hid (OfB xa hB5 HXA.out)
            have OR := Lib.hid (OfRB xa hB5 (by omega))
            obtain ⟨e0, e1⟩ := hD5.cells
            obtain ⟨N5, hN5, hT5⟩ := hB5.tab
            have ok := hT5.ok xa
            have b5 := ord_eq1 (a := (T' xa).1) (by omega)
            have b5' := ord_eq2 (a := (T' xa).1) (by omega)
            have b6 := ord_eq1 (a := (T' xa).2) (by omega)
            have b6' := ord_eq2 (a := (T' xa).2) (by omega)
            have b9 := Fl_of_int (T' xa).1
            have b10 := Fl_of_int (T' xa).2
            unfold cV at OF
            have hsz5 := hB5.under.size
            clear hB5 hD5 hT5 d0 d1 p1 p2 p3 p4 HBW HD HW hN5
            generalize (T' xa).1 = r at *
            generalize (T' xa).2 = i at *
            generalize Fl r = G1 at *
            generalize Fl i = G2 at *
            go_wp2_with fail
            refine OF.out.mono ?_
            rintro e w6 ⟨rfl, rfl⟩
            go_wp2_with fail
            refine OR.out.mono ?_
            rintro e w7 ⟨rfl, b7⟩
            have B7 := Lib.hid (B5.out.below b7)
            clear b7 OF OR e0 e1 B5
            have hs7 := B7.out.under.size
            by_cases h0 : n2 = 0
            · subst h0
              obtain ⟨N7, hN7, hT7⟩ := B7.out.tab
              have C3 := Lib.hid (Best_no w7 hT7 A2 c2 d)
              have C4 := Lib.hid (BestR_no (x := w.heap.size + 2) w7 A2 c2 d)
              clear hT7 hN7
              go_wp2_with fail
              refine C3.out.mono ?_
              rintro e w8 ⟨rfl, rfl⟩
              go_wp2_with fail
              refine C4.out.mono ?_
              rintro e w9 ⟨rfl, rfl⟩
              go_wp2_with fail
              go_roundw
              case rel => first | exact ⟨k + 1, by go_num, by omega, by omega, T', B7.out⟩ | ((repeat apply Exists.intro); exact ⟨⟨k + 1, by go_num, by omega, by omega, T', B7.out⟩, rfl⟩)
              case measure => simp [intOf]; omega
            · obtain ⟨N7, hN7, hT7⟩ := B7.out.tab
              have C3 := Lib.hid (Best_yes w7 hT7 A2 xs n2 c2 d HN2.out (H2.out.on B7.out.under) HI.out (by omega) (by omega))
              have C4 := Lib.hid (fun WW h1 h2 => BestRB (wr := WW) (w := w) (k := 2 * (k + 1)) (T1 := T') (T2 := T') h1 (by omega) A2 xs n2 c2 d HN2.out h2 (by omega) hm2)
              clear hT7 hN7
              generalize pickT T' xs d = pk at *
              go_wp2_with fail
              refine C3.out.mono ?_
              rintro e w8 ⟨rfl, b8⟩
              have B8 := Lib.hid (B7.out.below b8)
              clear b8 C3
              go_wp2_with fail
              refine (C4.out _ B8.out (H2.out.on B8.out.under)).mono ?_
              rintro e w9 ⟨rfl, b9x⟩
              have B9 := Lib.hid (B8.out.below b9x)
              clear b9x C4
              go_wp2_with fail
              go_roundw
              case rel => first | exact ⟨k + 1, by go_num, by omega, by omega, T', B9.out⟩ | ((repeat apply Exists.intro); exact ⟨⟨k + 1, by go_num, by omega, by omega, T', B9.out⟩, rfl⟩)
              case measure => simp [intOf]; omega
      · obtain rfl : k = n1 := by omega
        have HF : Hid (TabE w wr) := Lib.hid (hT.tabE (by omega))
        clear hT
        go_wp2_with fail
        go_meet
        exact HF.out
  case rest =>
    obtain ⟨N, T, hN, hT, hB⟩ := hcut
    have hN7 : Nts (wc.alloc (.cells #[.int .i64 7] 3)) (some ⟨wc.heap.size, 0, none⟩) [7] := fun _ => ⟨_, _, rfl, fun j hj => by
      match j, hj with
      | 0, _ => exact (cell_of_row _ _ 0 _ _ _ (row_new _ rfl)).trans rfl⟩
    have B9 := Lib.hid (Best_yes _ (hT.below (Below.alloc (Below.refl _ _) (Nat.le_refl _) (.cells #[.int .i64 7] 3))) _ [7] 1 1 d rfl hN7 (fun a ha => by simp at ha; subst ha; exact ⟨by omega, by omega⟩) (by omega) (by omega))
    rw [pick_seven] at B9
    have HB := Lib.hid hB
    have hs := hB.size
    clear hT hB hN7
    go_wp2_with fail
    refine B9.out.mono ?_
    rintro e w3 ⟨rfl, b3⟩
    have BF := Lib.hid (Below.trans HB.out ((Below.trans (Below.alloc (Below.refl _ _) (Nat.le_refl _) _) (b3.mono (by simp))).mono hs))
    clear b3 B9
    go_wp2_with fail
    go_ret
    exact ⟨rfl, BF.out⟩
end Go.Proofs.Ytabclpffjpcejaa
