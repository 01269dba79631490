/-
  NetLives: its walk.
-/
import Derived.Test.YtabclpffjpcejaaNvG
import Derived.Deep.RegionHeld3
import Derived.Deep.CutBlock
import Derived.Deep.DeepCutAuto
namespace Go.Proofs.Ytabclpffjpcejaa
open Go.RowKit Go.Maps
set_option linter.unusedVariables false
set_option maxRecDepth 100000

/-- A call that comes in. -/
structure DnV where
  op : Int
  n : Int
  a : Option Addr
  c : Nat
  b : Bs
def Dns (w : World) (A : Option Addr) (l : List DnV) : Prop := 0 < l.length → ∃ g off, A = some ⟨g, off, none⟩ ∧ ∀ j (h : j < l.length), w.cell? ⟨g, off + j * 3, none⟩ = some (.int .i64 l[j].op) ∧ w.cell? ⟨g, off + j * 3 + 1, none⟩ = some (.int .i64 l[j].n) ∧ w.cell? ⟨g, off + j * 3 + 2, none⟩ = some (.slice l[j].a l[j].b.length l[j].c) ∧ Bys w l[j].a l[j].b ∧ (l[j].a = none → l[j].c = 0)
/-- Between two rounds. -/
def Liv (w : World) (k : Nat) (wr : World) : Prop := ∃ (l : Nat) (A : List An), NH w (2 * k) l l A A wr ∧ ∀ q ∈ A, q.2.2.length ≤ k * 1048576
theorem NH.ids {w wr : World} {k l1 l2 : Nat} {A1 A2 : List An} (h : NH w k l1 l2 A1 A2 wr) : l1 ≤ k ∧ ∀ q ∈ A1, q.1 ≤ l1 := by
  obtain ⟨N, L, v, R, h1, h2, h3, h4, h5, hS, hr, rfl, hR, rfl, ho, hF, hW⟩ := h
  refine ⟨h2, fun q hq => ?_⟩
  obtain ⟨c, hc, rfl⟩ := inN hq
  exact hS.le c hc
theorem foundA (A : List An) (a : Int) : (∃ q ∈ A, (q.1 : Int) = a) ∨ (∀ q ∈ A, (q.1 : Int) ≠ a) := by
  by_cases h : ∃ q ∈ A, (q.1 : Int) = a
  · exact .inl h
  · exact .inr fun q hq e => h ⟨q, hq, e⟩
theorem DialN5 {w wr : World} {k l1 l2 : Nat} {A1 A2 : List An} (h : NH w k l1 l2 A1 A2 wr) (hk : k ≤ 1000) :
    Calls Try.prog 13 #[.pointer (some ⟨w.heap.size + 1, 0, none⟩), .int .i64 5] wr fun e w' => e = .returned (.tuple #[.int .i64 ((l1 : Int) + 1), .int .i64 0]) ∧ NH w (k + 1) (l1 + 1) l2 (A1 ++ [(l1 + 1, ((5 : Int), []))]) A2 w' := by
  obtain ⟨N, L, v, R, h1, h2, h3, h4, h5, hS, hr, rfl, hR, rfl, ho, hF, hW⟩ := h
  refine (Dial_yes wr hS (by omega) (by omega) 5 (by omega)).mono ?_
  rintro e w' ⟨rfl, L', ⟨g, rfl⟩, hS', hM, hF'⟩
  have := NH.landed (k' := k + 1) hS hR ho hF hW hS' hM hF' (by omega) (by omega) (by omega) (by simp; omega) (by omega) (rise_snoc hr hS.le (by simp))
  refine ⟨by simp, ?_⟩
  simpa [aN] using this
theorem DialR5 {w wr : World} {k l1 l2 : Nat} {A1 A2 : List An} (h : NH w k l1 l2 A1 A2 wr) (hk : k ≤ 1000) :
    Calls Try.prog 14 #[.pointer (some ⟨w.heap.size + 2, 0, none⟩), .int .i64 5] wr fun e w' => e = .returned (.tuple #[.int .i64 ((l2 : Int) + 1), .int .i64 0]) ∧ Below w.heap.size w w' := by
  obtain ⟨N, L, v, R, h1, h2, h3, h4, h5, hS, hr, rfl, hR, rfl, ho, hF, hW⟩ := h
  refine (DialR_yes wr hR hW.size (by omega) (by omega) 5 (by omega)).mono ?_
  rintro e w' ⟨rfl, v', hR', hM, hv⟩
  refine ⟨rfl, Mod.out hW hM hW.size (fun i hi => ?_)⟩
  rcases hi with e | e
  · omega
  · exact (vrow_lt hR.row e).1
set_option maxHeartbeats 4000000 in
theorem NetLives_any (w : World) (A : Option Addr) (ds : List DnV) (n c : Nat) (hn : n = ds.length) (hD : Dns w A ds) (hI : ∀ x ∈ ds, I64n x.n ∧ x.b.length ≤ 1048576) (hnm : n ≤ 9223372036854775807) :
    Calls Try.prog 3 #[.slice A n c] w fun e w' => e = .returned (.bool true) ∧ Below w.heap.size w w' := by
  have NT := Lib.hid (NewN_any w)
  have HN := Lib.hid hn
  have HD := Lib.hid hD
  have HI := Lib.hid hI
  clear hn hD hI
  go_enter Try.func3, Try.ntmps3
  go_wp2_with fail
  refine NT.out.mono ?_
  rintro e w1 ⟨rfl, s1, b1, z1⟩
  have hB0 : Liv w 0 (w1.alloc (.cells #[.slice none 0 0, .int .i64 0] 28)) := by
    refine ⟨0, [], ⟨0, [], .slice none 0 0, [], Nat.le_refl _, Nat.le_refl _, Nat.le_refl _, Nat.le_refl _, Nat.le_refl _, s1.below (Below.alloc (Below.refl _ _) (Nat.le_refl _) _), by simp [RiseN, idsN], rfl, ⟨row_new _ z1.symm, World.ownsRow_nil _ _ _ _, (fun c hc => by cases hc), (fun c hc => by cases hc), by simp⟩, rfl, (fun c hc => by cases hc), fun i hi => ?_, Below.alloc b1 b1.size _⟩, (fun q hq => by cases hq)⟩
    rcases hi with e | e | ⟨d, hd, _⟩
    · omega
    · omega
    · cases hd
  have B0 := Lib.hid hB0
  have Z1 := Lib.hid z1
  clear s1 b1 NT hB0 z1
  go_upto_block 0 with fail
  rw [Z1.out]
  generalize w1.alloc (.cells #[.slice none 0 0, .int .i64 0] 28) = w2 at *
  go_cut [] (fun wx => ∃ k, k ≤ 61 ∧ Liv w k wx)
  case first =>
    go_wp2_with fail
    go_loopw [29] (fun u wr => ∃ k : Nat, u = .int .i64 k ∧ k ≤ n ∧ k ≤ 61 ∧ Liv w k wr) (fun u _ => n - (intOf u).toNat)
    case atStart => exact ⟨0, rfl, by omega, by omega, B0.out⟩
    case round =>
      obtain ⟨k, rfl, hk, hk61, l, AA, hNH, hbd⟩ := hrel
      rename World => wr
      have hsz := hNH.under.size
      by_cases hlt : k < n
      · have hlt' : (k : Int) < (n : Int) := by omega
        have hkl : k < ds.length := by have := HN.out; omega
        obtain ⟨g, off, rfl, hc⟩ := HD.out (by omega)
        obtain ⟨ca, cb, cc, hby, hna⟩ := hc k hkl
        have ca' := cell_on ca hNH.under
        have cb' := cell_on cb hNH.under
        have cc' := cell_on cc hNH.under
        obtain ⟨hIn, hbl⟩ := HI.out _ (List.getElem_mem hkl)
        obtain ⟨y, hy⟩ : ∃ y, y = ds[k] := ⟨_, rfl⟩
        rw [← hy] at ca' cb' cc' hby hna hIn hbl
        obtain ⟨op, nn, ya, yc, yb⟩ := y
        dsimp only at ca' cb' cc' hby hna hIn hbl
        obtain ⟨yl, hyl⟩ : ∃ yl, yl = yb.length := ⟨_, rfl⟩
        rw [← hyl] at cc' hbl
        have HYL := Lib.hid hyl
        have HBY := Lib.hid hby
        have HNA := Lib.hid hna
        have HIN := Lib.hid hIn
        have HBD := Lib.hid hbd
        have BR := Lib.hid hNH
        clear ca cb cc hc hy hyl hby hna hIn hbd hNH
        by_cases h60 : (60 : Int) < (k : Int)
        · have HF : Hid (Liv w k (wr.alloc (.cells #[.int .i64 op, .int .i64 nn, .slice ya yl yc] 31))) := Lib.hid ⟨l, AA, BR.out.below (Below.alloc (Below.refl _ _) (Nat.le_refl _) _), HBD.out⟩
          go_wp2_with fail
          go_meet
          exact ⟨k, hk61, HF.out⟩
        · have h60' : (k : Int) ≤ 60 := by omega
          have hk60 : k ≤ 60 := by omega
          obtain ⟨W, hW⟩ : ∃ W, W = wr.alloc (.cells #[.int .i64 op, .int .i64 nn, .slice ya yl yc] 31) := ⟨_, rfl⟩
          have hBW : NH w (2 * k) l l AA AA W := by rw [hW]; exact BR.out.below (Below.alloc (Below.refl _ _) (Nat.le_refl _) _)
          have hDR : DnRow wr.heap.size op nn ya yl yc W := by rw [hW]; exact row_new _ rfl
          have HBW := Lib.hid hBW
          have HDR := Lib.hid hDR
          have HW := Lib.hid hW
          obtain ⟨d0, d1, d2⟩ := hDR.cells
          clear hBW hDR hW BR
          go_upto_region 6 with fail
          rw [← HW.out]
          obtain ⟨un, hun⟩ : ∃ un : Nat, un = (op % 18446744073709551616).toNat := ⟨_, rfl⟩
          have hwr : IntKind.u64.wrap op = (un : Int) := by
            have : IntKind.u64.wrap op = op % 18446744073709551616 := rfl
            rw [this, hun]; omega
          have hrr : un % 5 = 0 ∨ un % 5 = 1 ∨ un % 5 = 2 ∨ un % 5 = 3 ∨ un % 5 = 4 := by omega
          obtain ⟨r, hr⟩ : ∃ r, r = un % 5 := ⟨_, rfl⟩
          have hrem : (un : Int) % 5 = (r : Int) := by omega
          have hr4 : (r : Int) ≤ 4 := by omega
          rw [← hr] at hrr
          clear hun hr
          have hk900 : 2 * k ≤ 900 := by omega
          have HIDS := Lib.hid (HBW.out.ids)
          go_upto_block 2 with fail
          go_cut [7] (fun s7 wx => s7 = .bool true ∧ ∃ (l' : Nat) (A' : List An), NH w (2 * (k + 1)) l' l' A' A' wx ∧ (∀ q ∈ A', q.2.2.length ≤ (k + 1) * 1048576) ∧ DnRow wr.heap.size op nn ya yl yc wx)
          case first =>
            have HBd : Hid (NH w (2 * k) l l AA AA W.drew) := Lib.hid (HBW.out.below (Below.drew (Below.refl _ _)))
            have HDd : Hid (DnRow wr.heap.size op nn ya yl yc W.drew) := Lib.hid (HDR.out.below (Below.drew (Below.refl _ _)))
            have hcell : ∀ w', DnRow wr.heap.size op nn ya yl yc w' → w'.cell? ⟨wr.heap.size, 1, none⟩ = some (.int .i64 nn) ∧ w'.cell? ⟨wr.heap.size, 2, none⟩ = some (.slice ya yl yc) := fun w' h => ⟨h.cells.2.1, h.cells.2.2⟩
            have HBD2 : Hid (∀ q ∈ AA, q.2.2.length ≤ (k + 1) * 1048576) := Lib.hid (fun q hq => Nat.le_trans (HBD.out q hq) (Nat.mul_le_mul_right _ (Nat.le_succ _)))
            have HSET : Hid (∀ (a : Int) (b : Bs), b.length ≤ (k + 1) * 1048576 → ∀ q ∈ setA AA a b, q.2.2.length ≤ (k + 1) * 1048576) := Lib.hid (fun a b hb q hq => by
              unfold setA at hq
              rw [List.mem_map] at hq
              obtain ⟨q0, hq0, e⟩ := hq
              split at e
              · subst e; exact hb
              · subst e; exact HBD2.out q0 hq0)
            have HDROP : Hid (∀ (a : Int), ∀ q ∈ dropA AA a, q.2.2.length ≤ (k + 1) * 1048576) := Lib.hid (fun a q hq => HBD2.out q (List.mem_filter.1 hq).1)
            clear hk hlt hlt' ca' cb' cc'
            rcases hrr with hr0 | hr0 | hr0 | hr0 | hr0
            · subst hr0
              clear hrem hwr hr4
              by_cases hin : nn < 0 ∨ 4294967295 < nn
              · have C1 := Lib.hid (fun WW h => DialNH_no (wr := WW) (w := w) (k := 2 * k) (l1 := l) (l2 := l) (A1 := AA) (A2 := AA) h nn HIN.out hin)
                have C2 := Lib.hid (fun WW => DialR_no (x := w.heap.size + 2) WW nn hin)
                clear hin
                go_wp2_with fail
                refine (C1.out _ HBW.out).mono ?_
                rintro e w3 ⟨rfl, rfl⟩
                go_wp2_with fail
                refine (C2.out _).mono ?_
                rintro e w4 ⟨rfl, rfl⟩
                go_wp2_with fail
                go_meet
                exact ⟨rfl, l, AA, HBW.out.mono (by omega), HBD2.out, HDR.out⟩
              · obtain ⟨na, rfl⟩ : ∃ na : Nat, nn = (na : Int) := ⟨nn.toNat, by omega⟩
                have C1 := Lib.hid (DialNH_yes HBW.out HDR.out (by omega) na (by omega))
                have C2 := Lib.hid (fun WW h1 h2 => DialRH_yes (wr := WW) (w := w) (k := 2 * k + 1) (l1 := l + 1) (l2 := l) (A1 := AA ++ [(l + 1, ((na : Int), []))]) (A2 := AA) (b := wr.heap.size) (op := op) (n := (na : Int)) (da := ya) (dm := yl) (dc := yc) h1 h2 (by omega) na (by omega))
                clear hin
                go_wp2_with fail
                refine C1.out.mono ?_
                rintro e w3 ⟨rfl, hB3, hD3⟩
                obtain ⟨e0, e1, e2⟩ := hD3.cells
                have HB3 := Lib.hid hB3
                have HD3 := Lib.hid hD3
                clear hB3 hD3 C1 d0 d1 d2
                go_wp2_with fail
                refine (C2.out _ HB3.out HD3.out).mono ?_
                rintro e w4 ⟨rfl, hB4, hD4⟩
                have HB4 := Lib.hid hB4
                have HD4 := Lib.hid hD4
                clear hB4 hD4 C2 HB3 HD3 e0 e1 e2
                go_wp2_with fail
                go_meet
                refine ⟨rfl, l + 1, _, HB4.out.mono (by omega), fun q hq => ?_, HD4.out⟩
                rw [List.mem_append, List.mem_singleton] at hq
                rcases hq with hq | rfl
                · exact HBD2.out q hq
                · exact Nat.zero_le _
            · subst hr0
              clear hrem hwr hr4
              rcases foundA AA nn with ⟨q, hq, rfl⟩ | hno
              · have hql : q.2.2.length + yl ≤ (k + 1) * 1048576 := by have := HBD.out q hq; omega
                have C1 := Lib.hid (WriteNH_yes HBd.out HDd.out q hq HIN.out ya yb yl yc HYL.out (HBY.out.on HBd.out.under) HNA.out (by rw [← HYL.out]; omega))
                have C2 := Lib.hid (fun WW h1 h2 => WriteRH_yes (wr := WW) (w := w) (k := 2 * k) (l1 := l) (l2 := l) (A1 := setA AA q.1 (q.2.2 ++ yb)) (A2 := AA) (b := wr.heap.size) (op := op) (n := (q.1 : Int)) (da := ya) (dm := yl) (dc := yc) h1 (by omega) h2 q hq ya yb yl yc HYL.out (HBY.out.on h1.under) HNA.out (by rw [← HYL.out]; omega))
                have HQL : Hid ((q.2.2 ++ yb).length ≤ (k + 1) * 1048576) := Lib.hid (by rw [List.length_append, ← HYL.out]; exact hql)
                clear hql hq
                go_upto_region 15 with fail
                have d9 := hcell _ HDd.out
                go_region_held3 (fun w' => w'.cell? ⟨wr.heap.size, 1, none⟩ = some (.int .i64 q.1) ∧ w'.cell? ⟨wr.heap.size, 2, none⟩ = some (.slice ya yl yc))
                  (first | assumption | exact hcell _ (by assumption))
                  (first
                    | (go_at_call 15; (with_reducible refine C1.out.mono ?_); rintro e w' ⟨rfl, hB3, hD3⟩)
                    | (go_at_call 16; (with_reducible refine (C2.out _ (by assumption) (by assumption)).mono ?_); rintro e w' ⟨rfl, hB4, hD4⟩))
                have HB4 := Lib.hid hB4
                have HD4 := Lib.hid hD4
                clear hB4 hD4 hB3 hD3 C1 C2 HBd HDd d9
                go_wp2_with fail
                go_meet
                exact ⟨rfl, l, _, HB4.out.mono (by omega), HSET.out _ _ HQL.out, HD4.out⟩
              · have C1 := Lib.hid (WriteNH_no HBd.out nn HIN.out hno ya yl yc)
                have C2 := Lib.hid (fun WW h1 => WriteRH_no (wr := WW) (w := w) (k := 2 * k) (l1 := l) (l2 := l) (A1 := AA) (A2 := AA) h1 (by omega) nn hno ya yl yc)
                clear hno
                go_upto_region 15 with fail
                have d9 := hcell _ HDd.out
                have HDw := HDd.out
                have HBw := HBd.out
                go_region_held3 (fun w' => w'.cell? ⟨wr.heap.size, 1, none⟩ = some (.int .i64 nn) ∧ w'.cell? ⟨wr.heap.size, 2, none⟩ = some (.slice ya yl yc))
                  (first | assumption | exact hcell _ (by assumption))
                  (first
                    | (go_at_call 15; (with_reducible refine C1.out.mono ?_); rintro e w' ⟨rfl, rfl⟩)
                    | (go_at_call 16; (with_reducible refine (C2.out _ (by assumption)).mono ?_); rintro e w' ⟨rfl, hb4⟩; have hD4 := HDw.below hb4; have hB4 := HBw.below hb4))
                have HB4 := Lib.hid hB4
                have HD4 := Lib.hid hD4
                clear hB4 hD4 C1 C2 HBd HDd d9 HDw HBw
                go_wp2_with fail
                go_meet
                exact ⟨rfl, l, _, HB4.out.mono (by omega), HBD2.out, HD4.out⟩
            · subst hr0
              clear hrem hwr hr4
              rcases foundA AA nn with ⟨q, hq, rfl⟩ | hno
              · have hql : q.2.2.length + yl ≤ (k + 1) * 1048576 := by have := HBD.out q hq; omega
                have C1 := Lib.hid (WriteNH_yes HBd.out HDd.out q hq HIN.out ya yb yl yc HYL.out (HBY.out.on HBd.out.under) HNA.out (by rw [← HYL.out]; omega))
                have C2 := Lib.hid (fun WW h1 h2 => WriteRH_yes (wr := WW) (w := w) (k := 2 * k) (l1 := l) (l2 := l) (A1 := setA AA q.1 (q.2.2 ++ yb)) (A2 := AA) (b := wr.heap.size) (op := op) (n := (q.1 : Int)) (da := ya) (dm := yl) (dc := yc) h1 (by omega) h2 q hq ya yb yl yc HYL.out (HBY.out.on h1.under) HNA.out (by rw [← HYL.out]; omega))
                have HQL : Hid ((q.2.2 ++ yb).length ≤ (k + 1) * 1048576) := Lib.hid (by rw [List.length_append, ← HYL.out]; exact hql)
                clear hql hq
                go_upto_region 15 with fail
                have d9 := hcell _ HDd.out
                go_region_held3 (fun w' => w'.cell? ⟨wr.heap.size, 1, none⟩ = some (.int .i64 q.1) ∧ w'.cell? ⟨wr.heap.size, 2, none⟩ = some (.slice ya yl yc))
                  (first | assumption | exact hcell _ (by assumption))
                  (first
                    | (go_at_call 15; (with_reducible refine C1.out.mono ?_); rintro e w' ⟨rfl, hB3, hD3⟩)
                    | (go_at_call 16; (with_reducible refine (C2.out _ (by assumption) (by assumption)).mono ?_); rintro e w' ⟨rfl, hB4, hD4⟩))
                have HB4 := Lib.hid hB4
                have HD4 := Lib.hid hD4
                clear hB4 hD4 hB3 hD3 C1 C2 HBd HDd d9
                go_wp2_with fail
                go_meet
                exact ⟨rfl, l, _, HB4.out.mono (by omega), HSET.out _ _ HQL.out, HD4.out⟩
              · have C1 := Lib.hid (WriteNH_no HBd.out nn HIN.out hno ya yl yc)
                have C2 := Lib.hid (fun WW h1 => WriteRH_no (wr := WW) (w := w) (k := 2 * k) (l1 := l) (l2 := l) (A1 := AA) (A2 := AA) h1 (by omega) nn hno ya yl yc)
                clear hno
                go_upto_region 15 with fail
                have d9 := hcell _ HDd.out
                have HDw := HDd.out
                have HBw := HBd.out
                go_region_held3 (fun w' => w'.cell? ⟨wr.heap.size, 1, none⟩ = some (.int .i64 nn) ∧ w'.cell? ⟨wr.heap.size, 2, none⟩ = some (.slice ya yl yc))
                  (first | assumption | exact hcell _ (by assumption))
                  (first
                    | (go_at_call 15; (with_reducible refine C1.out.mono ?_); rintro e w' ⟨rfl, rfl⟩)
                    | (go_at_call 16; (with_reducible refine (C2.out _ (by assumption)).mono ?_); rintro e w' ⟨rfl, hb4⟩; have hD4 := HDw.below hb4; have hB4 := HBw.below hb4))
                have HB4 := Lib.hid hB4
                have HD4 := Lib.hid hD4
                clear hB4 hD4 C1 C2 HBd HDd d9 HDw HBw
                go_wp2_with fail
                go_meet
                exact ⟨rfl, l, _, HB4.out.mono (by omega), HBD2.out, HD4.out⟩
            · subst hr0
              clear hrem hwr hr4
              rcases foundA AA nn with ⟨q, hq, rfl⟩ | hno
              · have hql : q.2.2.length ≤ 140737488351232 := by have := HBD.out q hq; omega
                have C1 := Lib.hid (TakeNH_yes HBW.out HDR.out q hq HIN.out hql)
                have C2 := Lib.hid (fun WW h1 h2 => TakeRH_yes (wr := WW) (w := w) (k := 2 * k) (l1 := l) (l2 := l) (A1 := setA AA q.1 []) (A2 := AA) (b := wr.heap.size) (op := op) (n := (q.1 : Int)) (da := ya) (dm := yl) (dc := yc) h1 (by omega) h2 q hq)
                clear hql hq
                go_wp2_with fail
                refine C1.out.mono ?_
                rintro e w3 ⟨u, rfl, hu, hB3, hD3⟩
                obtain ⟨e0, e1, e2⟩ := hD3.cells
                have HB3 := Lib.hid hB3
                have HD3 := Lib.hid hD3
                have HU := Lib.hid hu
                clear hB3 hD3 C1 d0 d1 d2 hu
                go_wp2_with fail
                refine (C2.out _ HB3.out HD3.out).mono ?_
                rintro e w4 ⟨u2, rfl, hu2, hB4, hD4, hkeep⟩
                have HB4 := Lib.hid hB4
                have HD4 := Lib.hid hD4
                obtain ⟨a5, c5, rfl, -, -, -, hb5⟩ := row_bys (hkeep _ _ HU.out)
                obtain ⟨a6, c6, rfl, -, -, -, hb6⟩ := row_bys hu2
                have EQ := Lib.hid (EqualB_any a5 a6 q.2.2 q.2.2 q.2.2.length q.2.2.length c5 c6 w4 hb5 hb6 rfl rfl)
                rw [show (q.2.2 == q.2.2) = true by simp] at EQ
                generalize q.2.2.length = ql at EQ ⊢
                clear hB4 hD4 C2 HB3 HD3 e0 e1 e2 hu2 hkeep hb5 hb6 HU
                go_wp2_with fail
                refine EQ.out.mono ?_
                rintro e w5 ⟨rfl, rfl⟩
                go_wp2_with fail
                go_meet
                exact ⟨rfl, l, _, HB4.out.mono (by omega), HSET.out _ _ (by simp), HD4.out⟩
              · have C1 := Lib.hid (TakeNH_no HBW.out nn HIN.out hno)
                have C2 := Lib.hid (TakeRH_no HBW.out (by omega) nn hno)
                clear hno
                go_wp2_with fail
                refine C1.out.mono ?_
                rintro e w3 ⟨rfl, hw3⟩
                subst hw3
                go_wp2_with fail
                refine C2.out.mono ?_
                rintro e w4 ⟨rfl, hb4⟩
                have HB4 := Lib.hid (HBW.out.below hb4)
                have HD4 := Lib.hid (HDR.out.below hb4)
                have EQ := Lib.hid (EqualB_any none none [] [] 0 0 0 0 w4 (fun h => absurd h (by simp)) (fun h => absurd h (by simp)) rfl rfl)
                rw [show (([] : Bs) == []) = true by simp] at EQ
                clear hb4 C1 C2
                go_wp2_with fail
                refine EQ.out.mono ?_
                rintro e w5 ⟨rfl, rfl⟩
                go_wp2_with fail
                go_meet
                exact ⟨rfl, l, _, HB4.out.mono (by omega), HBD2.out, HD4.out⟩
            · subst hr0
              clear hrem hwr hr4
              rcases foundA AA nn with ⟨q, hq, rfl⟩ | hno
              · have C1 := Lib.hid (DropNH_yes HBd.out HDd.out q hq HIN.out)
                have C2 := Lib.hid (fun WW h1 h2 => DropRH_yes (wr := WW) (w := w) (k := 2 * k) (l1 := l) (l2 := l) (A1 := dropA AA q.1) (A2 := AA) (b := wr.heap.size) (op := op) (n := (q.1 : Int)) (da := ya) (dm := yl) (dc := yc) h1 (by omega) h2 q hq)
                clear hq
                go_upto_region 8 with fail
                have d9 := hcell _ HDd.out
                go_region_held3 (fun w' => w'.cell? ⟨wr.heap.size, 1, none⟩ = some (.int .i64 q.1) ∧ w'.cell? ⟨wr.heap.size, 2, none⟩ = some (.slice ya yl yc))
                  (first | assumption | exact hcell _ (by assumption))
                  (first
                    | (go_at_call 20; (with_reducible refine C1.out.mono ?_); rintro e w' ⟨rfl, hB3, hD3⟩)
                    | (go_at_call 21; (with_reducible refine (C2.out _ (by assumption) (by assumption)).mono ?_); rintro e w' ⟨rfl, hB4, hD4⟩))
                have HB4 := Lib.hid hB4
                have HD4 := Lib.hid hD4
                clear hB4 hD4 hB3 hD3 C1 C2 HBd HDd d9
                go_wp2_with fail
                go_meet
                exact ⟨rfl, l, _, HB4.out.mono (by omega), HDROP.out _, HD4.out⟩
              · have C1 := Lib.hid (DropNH_no HBd.out nn HIN.out hno)
                have C2 := Lib.hid (fun WW h1 => DropRH_no (wr := WW) (w := w) (k := 2 * k) (l1 := l) (l2 := l) (A1 := AA) (A2 := AA) h1 (by omega) nn hno)
                clear hno
                go_upto_region 8 with fail
                have d9 := hcell _ HDd.out
                have HDw := HDd.out
                have HBw := HBd.out
                go_region_held3 (fun w' => w'.cell? ⟨wr.heap.size, 1, none⟩ = some (.int .i64 nn) ∧ w'.cell? ⟨wr.heap.size, 2, none⟩ = some (.slice ya yl yc))
                  (first | assumption | exact hcell _ (by assumption))
                  (first
                    | (go_at_call 20; (with_reducible refine C1.out.mono ?_); rintro e w' ⟨rfl, rfl⟩)
                    | (go_at_call 21; (with_reducible refine (C2.out _ (by assumption)).mono ?_); rintro e w' ⟨rfl, hb4⟩; have hD4 := HDw.below hb4; have hB4 := HBw.below hb4))
                have HB4 := Lib.hid hB4
                have HD4 := Lib.hid hD4
                clear hB4 hD4 C1 C2 HBd HDd d9 HDw HBw
                go_wp2_with fail
                go_meet
                exact ⟨rfl, l, _, HB4.out.mono (by omega), HBD2.out, HD4.out⟩
          case rest =>
            obtain ⟨rfl, l', A', hB5, hbd5, hD5⟩ := hcut
            obtain ⟨e0, e1, e2⟩ := hD5.cells
            clear d0 d1 d2 HBW HDR HW hrem hwr hr4 hrr HIDS HBD ca' cb' cc'
            rcases foundA A' nn with ⟨q, hq, rfl⟩ | hno
            · have C1 := Lib.hid (AddrNH_yes hB5 q hq HIN.out)
              have C2 := Lib.hid (AddrRH_yes hB5 (by omega) q hq)
              generalize q.2.1 = qa at *
              go_wp2_with fail
              refine C1.out.mono ?_
              rintro e w3 ⟨rfl, hw3⟩
              subst hw3
              go_wp2_with fail
              refine C2.out.mono ?_
              rintro e w4 ⟨rfl, b4⟩
              have B6 := Lib.hid (hB5.below b4)
              have CN := Lib.hid (ConnsNH B6.out (by omega))
              have HB5 := Lib.hid hbd5
              clear b4 C1 C2 hB5 hD5 e0 e1 e2 hbd5 hq
              have hil : (A'.map fun q => (q.1 : Int)).length ≤ 1000 := by
                obtain ⟨N, L, v, R, h1, h2, h3, h4, h5, hS, hr, ha, r⟩ := B6.out
                rw [← ha]; unfold aN; simp; omega
              obtain ⟨il, hile⟩ : ∃ il, il = (A'.map fun q => (q.1 : Int)).length := ⟨_, rfl⟩
              rw [← hile] at hil
              have HIL := Lib.hid hile
              clear hile
              go_wp2_with fail
              refine CN.out.mono ?_
              rintro e w5 ⟨u5, rfl, hO5, b5⟩
              have B7 := Lib.hid (B6.out.below b5)
              obtain ⟨a5, c5, hu5, hn5, -⟩ := hO5.nts
              rw [← HIL.out] at hu5
              subst hu5
              have HN5 := Lib.hid hn5
              have CR := Lib.hid (ConnsRH B7.out (by omega))
              clear b5 hO5 hn5 CN
              go_wp2_with fail
              refine CR.out.mono ?_
              rintro e w6 ⟨u6, rfl, hO6, b6⟩
              have B8 := Lib.hid (B7.out.below b6)
              obtain ⟨a6, c6, hu6, hn6, -⟩ := hO6.nts
              rw [← HIL.out] at hu6
              subst hu6
              have EQ := Lib.hid (EqualI_same a5 a6 _ il c5 c6 w6 (HN5.out.on b6) hn6 HIL.out (by omega))
              clear b6 hO6 hn6 CR HN5
              go_wp2_with fail
              refine EQ.out.mono ?_
              rintro e w7 ⟨rfl, b7⟩
              have B9 := Lib.hid (B8.out.below b7)
              clear b7 EQ
              go_wp2_with fail
              go_roundw
              case rel => first | exact ⟨k + 1, by go_num, by omega, by omega, l', A', B9.out, HB5.out⟩ | ((repeat apply Exists.intro); exact ⟨⟨k + 1, by go_num, by omega, by omega, l', A', B9.out, HB5.out⟩, rfl⟩)
              case measure => simp [intOf]; omega

            · have C1 := Lib.hid (AddrNH_no hB5 nn HIN.out hno)
              have C2 := Lib.hid (AddrRH_no hB5 (by omega) nn hno)
              go_wp2_with fail
              refine C1.out.mono ?_
              rintro e w3 ⟨rfl, hw3⟩
              subst hw3
              go_wp2_with fail
              refine C2.out.mono ?_
              rintro e w4 ⟨rfl, b4⟩
              have B6 := Lib.hid (hB5.below b4)
              have CN := Lib.hid (ConnsNH B6.out (by omega))
              have HB5 := Lib.hid hbd5
              clear b4 C1 C2 hB5 hD5 e0 e1 e2 hbd5 hno
              have hil : (A'.map fun q => (q.1 : Int)).length ≤ 1000 := by
                obtain ⟨N, L, v, R, h1, h2, h3, h4, h5, hS, hr, ha, r⟩ := B6.out
                rw [← ha]; unfold aN; simp; omega
              obtain ⟨il, hile⟩ : ∃ il, il = (A'.map fun q => (q.1 : Int)).length := ⟨_, rfl⟩
              rw [← hile] at hil
              have HIL := Lib.hid hile
              clear hile
              go_wp2_with fail
              refine CN.out.mono ?_
              rintro e w5 ⟨u5, rfl, hO5, b5⟩
              have B7 := Lib.hid (B6.out.below b5)
              obtain ⟨a5, c5, hu5, hn5, -⟩ := hO5.nts
              rw [← HIL.out] at hu5
              subst hu5
              have HN5 := Lib.hid hn5
              have CR := Lib.hid (ConnsRH B7.out (by omega))
              clear b5 hO5 hn5 CN
              go_wp2_with fail
              refine CR.out.mono ?_
              rintro e w6 ⟨u6, rfl, hO6, b6⟩
              have B8 := Lib.hid (B7.out.below b6)
              obtain ⟨a6, c6, hu6, hn6, -⟩ := hO6.nts
              rw [← HIL.out] at hu6
              subst hu6
              have EQ := Lib.hid (EqualI_same a5 a6 _ il c5 c6 w6 (HN5.out.on b6) hn6 HIL.out (by omega))
              clear b6 hO6 hn6 CR HN5
              go_wp2_with fail
              refine EQ.out.mono ?_
              rintro e w7 ⟨rfl, b7⟩
              have B9 := Lib.hid (B8.out.below b7)
              clear b7 EQ
              go_wp2_with fail
              go_roundw
              case rel => first | exact ⟨k + 1, by go_num, by omega, by omega, l', A', B9.out, HB5.out⟩ | ((repeat apply Exists.intro); exact ⟨⟨k + 1, by go_num, by omega, by omega, l', A', B9.out, HB5.out⟩, rfl⟩)
              case measure => simp [intOf]; omega
      · obtain rfl : k = n := by omega
        have HF : Hid (Liv w k wr) := Lib.hid ⟨l, AA, hNH, hbd⟩
        clear hNH hbd
        go_wp2_with fail
        go_meet
        exact ⟨k, hk61, HF.out⟩
  case rest =>
    obtain ⟨k, hk, l, AA, hNH, hbd⟩ := hcut
    have C1 := Lib.hid (DialN5 hNH (by omega))
    have C2 := Lib.hid (fun WW h => DialR5 (wr := WW) (w := w) (k := 2 * k + 1) (l1 := l + 1) (l2 := l) (A1 := AA ++ [(l + 1, ((5 : Int), []))]) (A2 := AA) h (by omega))
    clear hNH hbd
    go_wp2_with fail
    refine C1.out.mono ?_
    rintro e w3 ⟨rfl, hB3⟩
    have HB3 := Lib.hid hB3
    clear hB3 C1
    go_wp2_with fail
    refine (C2.out _ HB3.out).mono ?_
    rintro e w4 ⟨rfl, b4⟩
    have B4 := Lib.hid b4
    clear b4 C2
    go_wp2_with fail
    go_ret
    exact ⟨rfl, B4.out⟩
end Go.Proofs.Ytabclpffjpcejaa
