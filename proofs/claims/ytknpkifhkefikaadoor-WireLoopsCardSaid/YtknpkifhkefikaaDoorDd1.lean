/-
  The document's reader: a number, a name.
  The document's reader: a name.
  The document's reader: no record.
-/
import Derived.Test.YtknpkifhkefikaaDoorDc2
import Derived.Test.YtknpkifhkefikaaDoorGb
import Derived.Deep.CutBlock
import Derived.Deep.DeepCutAuto
namespace Go.Proofs.YtknpkifhkefikaaDoor
open Go.RowKit
set_option linter.unusedVariables false
set_option maxRecDepth 100000

theorem w64 {z : Int} (h : -9223372036854775808 ≤ z ∧ z ≤ 9223372036854775807) : wrap64 z = z := by unfold wrap64; omega
theorem w64_mul {N : Nat} (h : N < 65536) : wrap64 ((N : Int) * 256) = (N : Int) * 256 := w64 (by omega)
theorem w64_mad {N x : Nat} (h : N < 65536) (hx : x < 256) : wrap64 ((N : Int) * 256 + (x : Int)) = (N : Int) * 256 + (x : Int) := w64 (by omega)
theorem w64_byte {x : Nat} (hx : x < 256) : wrap64 (x : Int) = x := w64 (by omega)
theorem w64_up {q n : Nat} (h : q < n) (hn : n ≤ 65535) : wrap64 ((q : Int) + 1) = (q : Int) + 1 := w64 (by omega)
/-- The document's reader in memory. -/
structure RfM (w : World) (rb : Nat) (A : Option Addr) (c : Nat) (b : Bs) (p : Nat) : Prop where
  row : w.heap[rb]? = some (.cells #[.slice A b.length c, .int .i64 p] 98 (0, 0))
  sl : Sl w A c b
  off : Off (fun k => k = rb) A
  le : p ≤ b.length
  mx : b.length ≤ 65535
theorem RfM.below {w w1 : World} {rb : Nat} {A : Option Addr} {c : Nat} {b : Bs} {p : Nat} (h : RfM w rb A c b p) (k : Below w.heap.size w w1) : RfM w1 rb A c b p :=
  ⟨(k.block _ (Array.getElem?_eq_some_iff.1 h.row).1).trans h.row, h.sl.on k, h.off, h.le, h.mx⟩
theorem RfM.lt {w : World} {rb : Nat} {A : Option Addr} {c : Nat} {b : Bs} {p : Nat} (h : RfM w rb A c b p) : rb < w.heap.size := (Array.getElem?_eq_some_iff.1 h.row).1
theorem RfM.cells {w : World} {rb : Nat} {A : Option Addr} {c : Nat} {b : Bs} {p : Nat} (h : RfM w rb A c b p) : w.cell? ⟨rb, 0, none⟩ = some (.slice A b.length c) ∧ w.cell? ⟨rb, 1, none⟩ = some (.int .i64 p) ∧ w.frozen? ⟨rb, 1, none⟩ = false :=
  ⟨(cell_of_row _ rb 0 _ _ _ h.row).trans rfl, (cell_of_row _ rb 1 _ _ _ h.row).trans rfl, frozen_of_row _ _ 1 _ _ h.row⟩
theorem RfM.turn {w : World} {rb : Nat} {A : Option Addr} {c : Nat} {b : Bs} {p : Nat} (h : RfM w rb A c b p) (q : Nat) (hq : q ≤ b.length) : RfM (w.setCell ⟨rb, 1, none⟩ (.int .i64 q)) rb A c b q :=
  ⟨row_set (i := 1) (.int .i64 q) h.row, h.sl.mod (mod_setCell w rb 1 _) h.off, h.off, hq, h.mx⟩
/-- What a number's reading comes to. -/
def DnP (w : World) (rb : Nat) (A : Option Addr) (c : Nat) (b : Bs) (p : Nat) : Rd Nat → Ending → World → Prop
  | .ok x z, e, w' => e = .returned (.tuple #[.int .i64 x, .bool true]) ∧ RfM w' rb A c b z ∧ Mod (fun k => k = rb) w w'
  | .no _, e, w' => e = .returned (.tuple #[.int .i64 0, .bool false]) ∧ RfM w' rb A c b p ∧ Mod (fun k => k = rb) w w'
set_option maxHeartbeats 400000 in
theorem dnum_any (w : World) (rb : Nat) (A : Option Addr) (c : Nat) (b : Bs) (p k : Nat) (h : RfM w rb A c b p) (hk : k ≤ 2) :
    Calls Tryd.prog 93 #[.pointer (some ⟨rb, 0, none⟩), .int .i64 k] w (DnP w rb A c b p (numR 20 b p k)) := by
  obtain ⟨c0, c1, f1⟩ := h.cells
  have hle := h.le
  have hmx := h.mx
  have H := Lib.hid h
  obtain ⟨n, hn⟩ : ∃ n, n = b.length := ⟨_, rfl⟩
  rw [← hn] at c0 hle hmx
  have w1 : wrap64 ((n : Int) - p) = (n : Int) - p := by unfold wrap64; omega
  rcases takR_cases 20 b p k with ht | ⟨ht, hle2, hlx⟩
  · rw [numR_no ht]
    have hl' : (n : Int) - p < (k : Int) := by
      unfold takR at ht
      split at ht
      · omega
      · cases ht
    clear h ht hn
    go_enter Tryd.func93, Tryd.ntmps93
    go_wp2_with fail
    go_quiet (fail)
    go_wp2_with fail
    go_ret2
    exact ⟨rfl, H.out.below (below_drewN (Below.refl _ _) _), Mod.below (below_drewN (Below.refl _ _) _)⟩
  · rw [numR_ok ht]
    have hl' : ¬ (n : Int) - p < (k : Int) := by omega
    have HN := Lib.hid hn
    have HLE := Lib.hid hle2
    obtain ⟨t, hte⟩ : ∃ t, t = (b.drop p).take k := ⟨_, rfl⟩
    rw [← hte] at hlx ⊢
    have HT := Lib.hid hte
    have HLX := Lib.hid hlx
    clear h ht hn hle2 hte hlx
    go_enter Tryd.func93, Tryd.ntmps93
    go_wp2_with fail
    go_quiet (fail)
    clear c0 c1 f1 w1
    go_wp2_with fail
    clear hl'
    go_loopw [6, 20] (fun v6 v20 wr => ∃ j : Nat, v20 = .int .i64 j ∧ j ≤ k ∧ v6 = .int .i64 (vN (t.take j) : Nat) ∧ Hid (RfM wr rb A c b (p + j)) ∧ Hid (Mod (fun k => k = rb) w wr)) (fun _ v20 _ => k - (intOf v20).toNat)
    case atStart => exact ⟨0, rfl, by omega, rfl, Lib.hid (H.out.below (below_drewN (Below.refl _ _) _)), Lib.hid (Mod.below (below_drewN (Below.refl _ _) _))⟩
    case round =>
      obtain ⟨j, rfl, hj, rfl, HR, HM⟩ := hrel
      rename World => wo
      by_cases hlt : j < k
      · have hlt' : (j : Int) < (k : Int) := by omega
        have jt : j < t.length := by have := HLX.out; omega
        obtain ⟨q, hq⟩ : ∃ q, q = p + j := ⟨_, rfl⟩
        have hqb : q < b.length := by have := HLE.out; omega
        rw [← hq] at HR
        have hup : p + (j + 1) = q + 1 := by omega
        have HRT : Hid (∀ m, RfM ((wo.drewN m).setCell ⟨rb, 1, none⟩ (.int .i64 ((q : Int) + 1))) rb A c b (p + (j + 1))) := Lib.hid (fun m => by
          rw [hup]
          exact (HR.out.below (below_drewN (Below.refl wo.heap.size wo) m)).turn (q + 1) hqb)
        have HMT := Lib.hid (fun m => (HM.out.then (below_drewN (Below.refl wo.heap.size wo) m)).trans (mod_setCell (wo.drewN m) rb 1 (.int .i64 (q + 1 : Nat))) (fun i hi => .inl hi))
        have hbm := HR.out.mx
        obtain ⟨c0, c1, f1⟩ := HR.out.cells
        obtain ⟨g1, o1, rfl, hc⟩ := HR.out.sl.bys (by omega)
        have y := hc q hqb
        have htj : t[j] = b[q] := by
          have e : t[j]? = b[q]? := by rw [HT.out, List.getElem?_take_of_lt hlt, List.getElem?_drop, hq]
          rw [List.getElem?_eq_getElem jt, List.getElem?_eq_getElem hqb] at e
          injection e
        have HV := Lib.hid (show vN (t.take (j + 1)) = vN (t.take j) * 256 + (b[q]).toNat by rw [List.take_succ_eq_append_getElem jt, vN_snoc, htj])
        have hb : vN (t.take j) < 65536 := by
          have h1 := vN_lt (t.take j).length (t.take j) rfl
          have h2 : (t.take j).length ≤ 2 := by rw [List.length_take]; omega
          have h3 : 256 ^ (t.take j).length ≤ 65536 := Nat.le_trans (Nat.pow_le_pow_right (by decide) h2) (by decide)
          exact Nat.lt_of_lt_of_le h1 h3
        have hx := (b[q]).toNat_lt
        have hw1 : wrap64 ((vN (t.take j) : Int) * 256) = (vN (t.take j) : Int) * 256 := w64_mul hb
        have hw2 : wrap64 ((vN (t.take j) : Int) * 256 + wrap64 ((b[q]).toNat : Int)) = (vN (t.take j) : Int) * 256 + ((b[q]).toNat : Int) := by
          rw [w64_byte hx]
          exact w64_mad hb hx
        have hw3 : wrap64 ((q : Int) + 1) = (q : Int) + 1 := w64_up hqb hbm
        have hq1 : 0 ≤ (q : Int) ∧ (q : Int) < ((b.length : Nat) : Int) := ⟨Int.natCast_nonneg q, Int.ofNat_lt.2 hqb⟩
        have HQ := Lib.hid hq
        have HQB := Lib.hid hqb
        generalize (b[q]).toNat = x at *
        generalize vN (t.take j) = N at *
        generalize b.length = bn at c0 hq1
        clear hc htj hq hqb hb hx hbm
        go_wp2_with fail
        go_quiet (fail)
        go_wp2_with fail
        go_roundw
        case rel => exact ⟨j + 1, by go_num, by omega, by rw [HV.out, hw2]; rfl, Lib.hid (HRT.out _), Lib.hid (HMT.out _)⟩
        case measure => simp only [intOf, Int.toNat_natCast]; omega
      · have hlt' : ¬ (j : Int) < (k : Int) := by omega
        obtain rfl : j = k := by omega
        have htk : t.take j = t := by rw [← HLX.out, List.take_length]
        rw [htk]
        clear htk
        go_wp2_with fail
        go_ret2
        exact ⟨rfl, HR.out, HM.out⟩
end Go.Proofs.YtknpkifhkefikaaDoor
namespace Go.Proofs.YtknpkifhkefikaaDoor
open Go.RowKit
set_option linter.unusedVariables false
set_option maxRecDepth 100000

/-- What a name's reading comes to. -/
def DmP (w : World) (rb : Nat) (A : Option Addr) (c : Nat) (b : Bs) : Rd Bs → Ending → World → Prop
  | .ok x z, e, w' => e = .returned (.tuple #[.string (bs x), .int .i64 0]) ∧ RfM w' rb A c b z ∧ Mod (fun k => k = rb) w w'
  | .no k, e, w' => e = .returned (.tuple #[.string ⟨#[]⟩, .int .i64 k]) ∧ Mod (fun k => k = rb) w w'
theorem DmP.yes {w w' : World} {rb : Nat} {A : Option Addr} {c : Nat} {b : Bs} {R : Rd Bs} {e : Ending} {x : Bs} {z : Nat} (hR : R = .ok x z) (h : RfM w' rb A c b z) (hm : Mod (fun k => k = rb) w w') (he : e = .returned (.tuple #[.string (bs x), .int .i64 0])) : DmP w rb A c b R e w' := by
  subst hR
  exact ⟨he, h, hm⟩
theorem DmP.not {w w' : World} {rb : Nat} {A : Option Addr} {c : Nat} {b : Bs} {R : Rd Bs} {e : Ending} {k : Nat} (hR : R = .no k) (hm : Mod (fun k => k = rb) w w') (he : e = .returned (.tuple #[.string ⟨#[]⟩, .int .i64 k])) : DmP w rb A c b R e w' := by
  subst hR
  exact ⟨he, hm⟩
theorem meas_back {P g n q : Nat} (hg : P < g) : P * (n + 1) + (n - P) < g * (n + 1) + (n - q) := by
  have h1 : (P + 1) * (n + 1) ≤ g * (n + 1) := Nat.mul_le_mul_right _ hg
  rw [Nat.add_mul] at h1
  omega
theorem meas_on {g n q x : Nat} (h : q < n) : g * (n + 1) + (n - (q + 1 + x)) < g * (n + 1) + (n - q) := by omega
/-- Within a name. -/
structure DmS (w : World) (rb : Nat) (A : Option Addr) (c : Nat) (b : Bs) (p : Nat) (R : Rd Bs) (g q bh : Nat) (ac : Bs) (wr : World) : Prop where
  rd : RfM wr rb A c b (if bh = 0 then p else bh)
  mod : Mod (fun k => k = rb) w wr
  len : ac.length ≤ 254
  hbh : bh ≤ b.length
  eq : R = nmR 20 b g q bh ac
set_option maxHeartbeats 4000000 in
set_option maxRecDepth 100000 in
theorem dname_any (w : World) (rb : Nat) (A : Option Addr) (c : Nat) (b : Bs) (p : Nat) (h : RfM w rb A c b p) :
    Calls Tryd.prog 92 #[.pointer (some ⟨rb, 0, none⟩), .int .i64 b.length] w (DmP w rb A c b (nmR 20 b p p 0 [])) := by
  obtain ⟨c0, c1, f1⟩ := h.cells
  have hle := h.le
  have hmx := h.mx
  obtain ⟨R, hR⟩ : ∃ R, R = nmR 20 b p p 0 [] := ⟨_, rfl⟩
  rw [← hR]
  have HS0 : Hid (∀ m, DmS w rb A c b p R p p 0 [] (w.drewN m)) := Lib.hid (fun m => ⟨h.below (below_drewN (Below.refl _ _) m), Mod.below (below_drewN (Below.refl _ _) m), by simp, by omega, hR⟩)
  have HJ0 : Hid (false = decide ((0 : Nat) ≠ 0)) := Lib.hid rfl
  obtain ⟨n, hn⟩ : ∃ n, n = b.length := ⟨_, rfl⟩
  rw [← hn] at c0 hle hmx ⊢
  have HN := Lib.hid hn
  clear h hR hn
  go_enter Tryd.func92, Tryd.ntmps92
  go_wp2_with fail
  go_quiet (fail)
  clear c0 c1 f1
  go_wp2_with fail
  go_loopw [6, 7, 8, 9] (fun v6 v7 v8 v9 wr => ∃ (g q bh : Nat) (ac : Bs) (j : Bool), v7 = .int .i64 q ∧ v8 = .int .i64 g ∧ v9 = .bool j ∧ v6 = .string (bs ac) ∧ g ≤ 65535 ∧ q ≤ 65535 ∧ Hid (j = decide (bh ≠ 0)) ∧ Hid (DmS w rb A c b p R g q bh ac wr)) (fun _ v7 v8 _ _ => (intOf v8).toNat * (n + 1) + (n - (intOf v7).toNat))
  case atStart => exact ⟨p, p, 0, [], false, rfl, rfl, rfl, rfl, by omega, by omega, HJ0, Lib.hid (HS0.out _)⟩
  case round =>
    obtain ⟨g, q, bh, ac, j, rfl, rfl, rfl, rfl, hgb, hqb, HJ, HS⟩ := hrel
    rename World => wo
    clear HS0 HJ0
    cases j with
    | false =>
      have hbz : bh = 0 := by have := HJ.out; simpa using this
      have hplace : (if bh = 0 then p else bh) = p := if_pos hbz
      have HRD : Hid (RfM wo rb A c b p) := Lib.hid (by have := HS.out.rd; rw [hplace] at this; exact this)
      have HBZ := Lib.hid hbz
      obtain ⟨c0, c1, f1⟩ := HRD.out.cells
      rw [← HN.out] at c0
      clear hplace hbz
      by_cases hq : q < b.length
      · have hqn : q < n := by rw [HN.out]; exact hq
        have hq' : ¬ (n : Int) ≤ (q : Int) := by omega
        obtain ⟨g1, o1, rfl, hc⟩ := HRD.out.sl.bys (by omega)
        have y := hc q hq
        obtain ⟨x, hx⟩ : ∃ x, x = b[q].toNat := ⟨_, rfl⟩
        rw [← hx] at y
        have HX := Lib.hid hx
        have hxl : x < 256 := by rw [hx]; exact (b[q]).toNat_lt
        have hiq : 0 ≤ (q : Int) ∧ (q : Int) < (n : Int) := by omega
        clear hx
        by_cases hz : x = 0
        · have hz' : ((x : Int) == 0) = true := by simp [hz]
          have HE := Lib.hid (HS.out.eq.trans (nmR_root hq (by rw [← HX.out]; exact hz)))
          have hal := HS.out.len
          have hbs := bs_size ac
          have hlong : ¬ (255 : Int) < ((bs ac).size : Int) + 1 := by omega
          have HAP : Hid (bs ac ++ ⟨#[0]⟩ = bs (ac ++ [0])) := Lib.hid (bs_append ac [0])
          have HRT := Lib.hid (HRD.out.turn (q + 1) (by omega))
          have HMT := Lib.hid (HS.out.mod.trans (mod_setCell wo rb 1 (.int .i64 (q + 1 : Nat))) (fun i hi => .inl hi))
          have HE2 : Hid (R = .ok (ac ++ [0]) (q + 1)) := Lib.hid (by rw [HE.out, if_pos HBZ.out])
          have HP := Lib.hid (DmP.yes (e := .returned (.tuple #[.string (bs ac ++ ⟨#[0]⟩), .int .i64 0])) HE2.out HRT.out HMT.out (by rw [HAP.out]))
          clear hc hz hal
          go_wp2_with fail
          go_ret2
          exact HP.out
        · have hz' : ((x : Int) == 0) = false := by simp [hz]
          by_cases h192 : 192 ≤ x
          · have h192' : (192 : Int) ≤ (x : Int) := by omega
            by_cases hq2 : q + 1 < b.length
            · have hq2' : ¬ (n : Int) ≤ (q : Int) + 1 := by have := HN.out; omega
              have y2 := hc (q + 1) hq2
              obtain ⟨x2, hx2⟩ : ∃ x, x = b[q + 1].toNat := ⟨_, rfl⟩
              rw [← hx2] at y2
              have HX2 := Lib.hid hx2
              have hx2l : x2 < 256 := by rw [hx2]; exact (b[q + 1]).toNat_lt
              have hiq2 : 0 ≤ (q : Int) + 1 ∧ (q : Int) + 1 < (n : Int) := by omega
              have hit : ((q : Int) + 1).toNat = q + 1 := by omega
              obtain ⟨P, hP⟩ : ∃ P, P = (x - 192) * 256 + x2 := ⟨_, rfl⟩
              have hPI : ((x : Int) - 192) * 256 + (x2 : Int) = (P : Int) := by omega
              have HPE := Lib.hid hPI
              have HPP : Hid (P = (b[q].toNat - 192) * 256 + b[q + 1].toNat) := Lib.hid (by rw [← HX.out, ← HX2.out]; exact hP)
              have hPb : P < 65536 := by omega
              clear hx2 hP hPI hz
              by_cases hg : P < g
              · have hg' : ¬ (g : Int) ≤ ((x : Int) - 192) * 256 + (x2 : Int) := by rw [HPE.out]; omega
                have HE := Lib.hid (HS.out.eq.trans (nmR_back hq (by rw [← HX.out]; exact h192) hq2 (by rw [← HPP.out]; exact hg)))
                rw [← HPP.out] at HE
                have HRT := Lib.hid (HRD.out.turn (q + 2) (by omega))
                have HMT := Lib.hid (HS.out.mod.trans (mod_setCell wo rb 1 (.int .i64 (q + 2 : Nat))) (fun i hi => .inl hi))
                have HE2 : Hid (R = nmR 20 b P P (q + 2) ac) := Lib.hid (by have := HE.out; rw [if_pos HBZ.out] at this; exact this)
                have HNEW := Lib.hid (show ∀ wx, RfM wx rb (some ⟨g1, o1, none⟩) c b (q + 2) → Mod (fun k => k = rb) w wx → DmS w rb (some ⟨g1, o1, none⟩) c b p R P P (q + 2) ac wx from fun wx h1 h2 => ⟨by rw [if_neg (by omega)]; exact h1, h2, HS.out.len, by omega, HE2.out⟩)
                have HNB := Lib.hid (HNEW.out _ HRT.out HMT.out)
                have HJB : Hid (true = decide (q + 2 ≠ 0)) := Lib.hid (by simp)
                have HMS : Hid (P * (n + 1) + (n - P) < g * (n + 1) + (n - q)) := Lib.hid (meas_back hg)
                have HPB : Hid (P ≤ 65535) := Lib.hid (by omega)
                clear hc HE
                go_wp2_with fail
                go_roundw
                case rel => exact ⟨P, P, q + 2, ac, true, by rw [HPE.out], by rw [HPE.out], rfl, rfl, HPB.out, HPB.out, HJB, HNB⟩
                case measure =>
                  rw [HPE.out]
                  exact HMS.out
              · have hg' : (g : Int) ≤ ((x : Int) - 192) * 256 + (x2 : Int) := by rw [HPE.out]; omega
                have HE := Lib.hid (HS.out.eq.trans (nmR_ahead hq (by rw [← HX.out]; exact h192) hq2 (by rw [← HPP.out]; exact hg)))
                have HP := Lib.hid (DmP.not (e := .returned (.tuple #[.string ⟨#[]⟩, .int .i64 40])) (rb := rb) (A := some ⟨g1, o1, none⟩) (c := c) (b := b) HE.out HS.out.mod rfl)
                clear hc
                go_wp2_with fail
                go_ret2
                exact HP.out
            · have hq2' : (n : Int) ≤ (q : Int) + 1 := by have := HN.out; omega
              have HE := Lib.hid (HS.out.eq.trans (nmR_half hq (by rw [← HX.out]; exact h192) hq2))
              have HP := Lib.hid (DmP.not (e := .returned (.tuple #[.string ⟨#[]⟩, .int .i64 20])) (rb := rb) (A := some ⟨g1, o1, none⟩) (c := c) (b := b) HE.out HS.out.mod rfl)
              clear hc hz
              go_wp2_with fail
              go_ret2
              exact HP.out
          · have h192' : ¬ (192 : Int) ≤ (x : Int) := by omega
            by_cases h63 : 63 < x
            · have h63' : (64 : Int) ≤ (x : Int) := by omega
              have HE := Lib.hid (HS.out.eq.trans (nmR_wide hq (by rw [← HX.out]; exact h192) (by rw [← HX.out]; exact h63)))
              have HP := Lib.hid (DmP.not (e := .returned (.tuple #[.string ⟨#[]⟩, .int .i64 10])) (rb := rb) (A := some ⟨g1, o1, none⟩) (c := c) (b := b) HE.out HS.out.mod rfl)
              clear hc hz
              go_wp2_with fail
              go_ret2
              exact HP.out
            · have h63' : ¬ (64 : Int) ≤ (x : Int) := by omega
              by_cases hcut : q + 1 + x ≤ b.length
              · have hcut' : ¬ (n : Int) < (q : Int) + 1 + (x : Int) := by have := HN.out; omega
                obtain ⟨A9, s9, hs9, -⟩ := HRD.out.sl.midB q (1 + x) (q : Int) ((q : Int) + 1 + (x : Int)) (by omega) rfl (by omega)
                have hd : (b.drop q).take (1 + x) = b[q] :: (b.drop (q + 1)).take x := by rw [List.drop_eq_getElem_cons hq, Nat.add_comm, List.take_succ_cons]
                rw [hd] at hs9
                obtain ⟨xs, hxs⟩ : ∃ xs, xs = b[q] :: (b.drop (q + 1)).take x := ⟨_, rfl⟩
                rw [← hxs] at hs9
                have hxsl : xs.length = 1 + x := by rw [hxs, List.length_cons, List.length_take, List.length_drop]; omega
                have C9 := string_bys A9 xs (c - q) wo hs9.bys
                rw [hxsl] at C9
                rw [← HN.out] at s9
                obtain ⟨x1, hx1⟩ : ∃ y, y = 1 + x := ⟨_, rfl⟩
                rw [← hx1] at s9 C9 hxsl
                have hbs := bs_size ac
                have hbx := bs_size xs
                have hal := HS.out.len
                obtain ⟨a2, ha2⟩ : ∃ z, z = ac ++ xs := ⟨_, rfl⟩
                have HA2 : Hid (bs ac ++ bs xs = bs a2) := Lib.hid (by rw [ha2, bs_append])
                have ha2l : a2.length = ac.length + x1 := by rw [ha2, List.length_append, hxsl]
                have hbz2 : (bs ac ++ bs xs).size = ac.length + x1 := by rw [HA2.out, bs_size, ha2l]
                have hxb : xs.length ≤ 64 := by omega
                by_cases hlong : 255 < ac.length + x + 2
                · have hlong' : (255 : Int) < (ac.length : Int) + (xs.length : Int) + 1 := by omega
                  have HE := Lib.hid (HS.out.eq.trans (nmR_long hq (by rw [← HX.out]; exact h63) (by rw [← HX.out]; exact hcut) (by rw [← HX.out]; exact hz) (by rw [← HX.out]; exact hlong)))
                  have HP := Lib.hid (DmP.not (e := .returned (.tuple #[.string ⟨#[]⟩, .int .i64 11])) (rb := rb) (A := some ⟨g1, o1, none⟩) (c := c) (b := b) HE.out HS.out.mod rfl)
                  have HX1 := Lib.hid hx1
                  clear hc hz hd hxs hs9 ha2 ha2l hbz2 hx1 hxsl
                  go_wp2_with fail
                  go_ret2
                  exact HP.out
                · have hlong' : ¬ (255 : Int) < (ac.length : Int) + (xs.length : Int) + 1 := by omega
                  have HE := Lib.hid (HS.out.eq.trans (nmR_label hq (by rw [← HX.out]; exact h63) (by rw [← HX.out]; exact hcut) (by rw [← HX.out]; exact hz) (by rw [← HX.out]; exact hlong)))
                  rw [← HX.out, ← hxs, ← ha2] at HE
                  have HNB : Hid (DmS w rb (some ⟨g1, o1, none⟩) c b p R g (q + 1 + x) bh a2 wo) := Lib.hid ⟨HS.out.rd, HS.out.mod, by omega, HS.out.hbh, HE.out⟩
                  have HX1 := Lib.hid hx1
                  have HMS : Hid (g * (n + 1) + (n - (q + 1 + x)) < g * (n + 1) + (n - q)) := Lib.hid (meas_on hqn)
                  have HGB := Lib.hid hgb
                  have HQB : Hid (q + 1 + x ≤ 65535) := Lib.hid (by have := HN.out; omega)
                  have HQX : Hid ((q : Int) + (1 + (x : Int)) = (q + 1 + x : Nat)) := Lib.hid (by omega)
                  clear hc hz hd hxs hs9 ha2 ha2l hbz2 hx1 hxsl HE
                  go_wp2_with fail
                  go_roundw
                  case rel => exact ⟨g, q + 1 + x, bh, a2, false, by rw [HQX.out], rfl, rfl, by rw [HA2.out], HGB.out, HQB.out, HJ, HNB⟩
                  case measure =>
                    rw [HQX.out]
                    exact HMS.out
              · have hcut' : (n : Int) < (q : Int) + 1 + (x : Int) := by have := HN.out; omega
                have HE := Lib.hid (HS.out.eq.trans (nmR_cut hq (by rw [← HX.out]; exact h63) (by rw [← HX.out]; exact hcut)))
                have HP := Lib.hid (DmP.not (e := .returned (.tuple #[.string ⟨#[]⟩, .int .i64 20])) (rb := rb) (A := some ⟨g1, o1, none⟩) (c := c) (b := b) HE.out HS.out.mod rfl)
                clear hc hz
                go_wp2_with fail
                go_ret2
                exact HP.out
      · have hq' : (n : Int) ≤ (q : Int) := by have := HN.out; omega
        have HE := Lib.hid (HS.out.eq.trans (nmR_end hq))
        have HP := Lib.hid (DmP.not (e := .returned (.tuple #[.string ⟨#[]⟩, .int .i64 20])) (rb := rb) (A := A) (c := c) (b := b) HE.out HS.out.mod rfl)
        go_wp2_with fail
        go_ret2
        exact HP.out
    | true =>
      have hbz : bh ≠ 0 := fun e => by have := HJ.out; rw [e] at this; simp at this
      have hplace : (if bh = 0 then p else bh) = bh := if_neg hbz
      have HRD : Hid (RfM wo rb A c b bh) := Lib.hid (by have := HS.out.rd; rw [hplace] at this; exact this)
      have HBZ := Lib.hid hbz
      obtain ⟨c0, c1, f1⟩ := HRD.out.cells
      rw [← HN.out] at c0
      clear hplace hbz
      by_cases hq : q < b.length
      · have hqn : q < n := by rw [HN.out]; exact hq
        have hq' : ¬ (n : Int) ≤ (q : Int) := by omega
        obtain ⟨g1, o1, rfl, hc⟩ := HRD.out.sl.bys (by omega)
        have y := hc q hq
        obtain ⟨x, hx⟩ : ∃ x, x = b[q].toNat := ⟨_, rfl⟩
        rw [← hx] at y
        have HX := Lib.hid hx
        have hxl : x < 256 := by rw [hx]; exact (b[q]).toNat_lt
        have hiq : 0 ≤ (q : Int) ∧ (q : Int) < (n : Int) := by omega
        clear hx
        by_cases hz : x = 0
        · have hz' : ((x : Int) == 0) = true := by simp [hz]
          have HE := Lib.hid (HS.out.eq.trans (nmR_root hq (by rw [← HX.out]; exact hz)))
          have hal := HS.out.len
          have hbs := bs_size ac
          have hlong : ¬ (255 : Int) < ((bs ac).size : Int) + 1 := by omega
          have HAP : Hid (bs ac ++ ⟨#[0]⟩ = bs (ac ++ [0])) := Lib.hid (bs_append ac [0])
          have HRT := HRD
          have HMT := Lib.hid HS.out.mod
          have HE2 : Hid (R = .ok (ac ++ [0]) bh) := Lib.hid (by rw [HE.out, if_neg HBZ.out])
          have HP := Lib.hid (DmP.yes (e := .returned (.tuple #[.string (bs ac ++ ⟨#[0]⟩), .int .i64 0])) HE2.out HRT.out HMT.out (by rw [HAP.out]))
          clear hc hz hal
          go_wp2_with fail
          go_ret2
          exact HP.out
        · have hz' : ((x : Int) == 0) = false := by simp [hz]
          by_cases h192 : 192 ≤ x
          · have h192' : (192 : Int) ≤ (x : Int) := by omega
            by_cases hq2 : q + 1 < b.length
            · have hq2' : ¬ (n : Int) ≤ (q : Int) + 1 := by have := HN.out; omega
              have y2 := hc (q + 1) hq2
              obtain ⟨x2, hx2⟩ : ∃ x, x = b[q + 1].toNat := ⟨_, rfl⟩
              rw [← hx2] at y2
              have HX2 := Lib.hid hx2
              have hx2l : x2 < 256 := by rw [hx2]; exact (b[q + 1]).toNat_lt
              have hiq2 : 0 ≤ (q : Int) + 1 ∧ (q : Int) + 1 < (n : Int) := by omega
              have hit : ((q : Int) + 1).toNat = q + 1 := by omega
              obtain ⟨P, hP⟩ : ∃ P, P = (x - 192) * 256 + x2 := ⟨_, rfl⟩
              have hPI : ((x : Int) - 192) * 256 + (x2 : Int) = (P : Int) := by omega
              have HPE := Lib.hid hPI
              have HPP : Hid (P = (b[q].toNat - 192) * 256 + b[q + 1].toNat) := Lib.hid (by rw [← HX.out, ← HX2.out]; exact hP)
              have hPb : P < 65536 := by omega
              clear hx2 hP hPI hz
              by_cases hg : P < g
              · have hg' : ¬ (g : Int) ≤ ((x : Int) - 192) * 256 + (x2 : Int) := by rw [HPE.out]; omega
                have HE := Lib.hid (HS.out.eq.trans (nmR_back hq (by rw [← HX.out]; exact h192) hq2 (by rw [← HPP.out]; exact hg)))
                rw [← HPP.out] at HE
                have HE2 : Hid (R = nmR 20 b P P bh ac) := Lib.hid (by have := HE.out; rw [if_neg HBZ.out] at this; exact this)
                have HNB : Hid (DmS w rb (some ⟨g1, o1, none⟩) c b p R P P bh ac wo) := Lib.hid ⟨by rw [if_neg HBZ.out]; exact HRD.out, HS.out.mod, HS.out.len, HS.out.hbh, HE2.out⟩
                have HJB : Hid (true = decide (bh ≠ 0)) := HJ
                have HMS : Hid (P * (n + 1) + (n - P) < g * (n + 1) + (n - q)) := Lib.hid (meas_back hg)
                have HPB : Hid (P ≤ 65535) := Lib.hid (by omega)
                clear hc HE
                go_wp2_with fail
                go_roundw
                case rel => exact ⟨P, P, bh, ac, true, by rw [HPE.out], by rw [HPE.out], rfl, rfl, HPB.out, HPB.out, HJB, HNB⟩
                case measure =>
                  rw [HPE.out]
                  exact HMS.out
              · have hg' : (g : Int) ≤ ((x : Int) - 192) * 256 + (x2 : Int) := by rw [HPE.out]; omega
                have HE := Lib.hid (HS.out.eq.trans (nmR_ahead hq (by rw [← HX.out]; exact h192) hq2 (by rw [← HPP.out]; exact hg)))
                have HP := Lib.hid (DmP.not (e := .returned (.tuple #[.string ⟨#[]⟩, .int .i64 40])) (rb := rb) (A := some ⟨g1, o1, none⟩) (c := c) (b := b) HE.out HS.out.mod rfl)
                clear hc
                go_wp2_with fail
                go_ret2
                exact HP.out
            · have hq2' : (n : Int) ≤ (q : Int) + 1 := by have := HN.out; omega
              have HE := Lib.hid (HS.out.eq.trans (nmR_half hq (by rw [← HX.out]; exact h192) hq2))
              have HP := Lib.hid (DmP.not (e := .returned (.tuple #[.string ⟨#[]⟩, .int .i64 20])) (rb := rb) (A := some ⟨g1, o1, none⟩) (c := c) (b := b) HE.out HS.out.mod rfl)
              clear hc hz
              go_wp2_with fail
              go_ret2
              exact HP.out
          · have h192' : ¬ (192 : Int) ≤ (x : Int) := by omega
            by_cases h63 : 63 < x
            · have h63' : (64 : Int) ≤ (x : Int) := by omega
              have HE := Lib.hid (HS.out.eq.trans (nmR_wide hq (by rw [← HX.out]; exact h192) (by rw [← HX.out]; exact h63)))
              have HP := Lib.hid (DmP.not (e := .returned (.tuple #[.string ⟨#[]⟩, .int .i64 10])) (rb := rb) (A := some ⟨g1, o1, none⟩) (c := c) (b := b) HE.out HS.out.mod rfl)
              clear hc hz
              go_wp2_with fail
              go_ret2
              exact HP.out
            · have h63' : ¬ (64 : Int) ≤ (x : Int) := by omega
              by_cases hcut : q + 1 + x ≤ b.length
              · have hcut' : ¬ (n : Int) < (q : Int) + 1 + (x : Int) := by have := HN.out; omega
                obtain ⟨A9, s9, hs9, -⟩ := HRD.out.sl.midB q (1 + x) (q : Int) ((q : Int) + 1 + (x : Int)) (by omega) rfl (by omega)
                have hd : (b.drop q).take (1 + x) = b[q] :: (b.drop (q + 1)).take x := by rw [List.drop_eq_getElem_cons hq, Nat.add_comm, List.take_succ_cons]
                rw [hd] at hs9
                obtain ⟨xs, hxs⟩ : ∃ xs, xs = b[q] :: (b.drop (q + 1)).take x := ⟨_, rfl⟩
                rw [← hxs] at hs9
                have hxsl : xs.length = 1 + x := by rw [hxs, List.length_cons, List.length_take, List.length_drop]; omega
                have C9 := string_bys A9 xs (c - q) wo hs9.bys
                rw [hxsl] at C9
                rw [← HN.out] at s9
                obtain ⟨x1, hx1⟩ : ∃ y, y = 1 + x := ⟨_, rfl⟩
                rw [← hx1] at s9 C9 hxsl
                have hbs := bs_size ac
                have hbx := bs_size xs
                have hal := HS.out.len
                obtain ⟨a2, ha2⟩ : ∃ z, z = ac ++ xs := ⟨_, rfl⟩
                have HA2 : Hid (bs ac ++ bs xs = bs a2) := Lib.hid (by rw [ha2, bs_append])
                have ha2l : a2.length = ac.length + x1 := by rw [ha2, List.length_append, hxsl]
                have hbz2 : (bs ac ++ bs xs).size = ac.length + x1 := by rw [HA2.out, bs_size, ha2l]
                have hxb : xs.length ≤ 64 := by omega
                by_cases hlong : 255 < ac.length + x + 2
                · have hlong' : (255 : Int) < (ac.length : Int) + (xs.length : Int) + 1 := by omega
                  have HE := Lib.hid (HS.out.eq.trans (nmR_long hq (by rw [← HX.out]; exact h63) (by rw [← HX.out]; exact hcut) (by rw [← HX.out]; exact hz) (by rw [← HX.out]; exact hlong)))
                  have HP := Lib.hid (DmP.not (e := .returned (.tuple #[.string ⟨#[]⟩, .int .i64 11])) (rb := rb) (A := some ⟨g1, o1, none⟩) (c := c) (b := b) HE.out HS.out.mod rfl)
                  have HX1 := Lib.hid hx1
                  clear hc hz hd hxs hs9 ha2 ha2l hbz2 hx1 hxsl
                  go_wp2_with fail
                  go_ret2
                  exact HP.out
                · have hlong' : ¬ (255 : Int) < (ac.length : Int) + (xs.length : Int) + 1 := by omega
                  have HE := Lib.hid (HS.out.eq.trans (nmR_label hq (by rw [← HX.out]; exact h63) (by rw [← HX.out]; exact hcut) (by rw [← HX.out]; exact hz) (by rw [← HX.out]; exact hlong)))
                  rw [← HX.out, ← hxs, ← ha2] at HE
                  have HNB : Hid (DmS w rb (some ⟨g1, o1, none⟩) c b p R g (q + 1 + x) bh a2 wo) := Lib.hid ⟨HS.out.rd, HS.out.mod, by omega, HS.out.hbh, HE.out⟩
                  have HX1 := Lib.hid hx1
                  have HMS : Hid (g * (n + 1) + (n - (q + 1 + x)) < g * (n + 1) + (n - q)) := Lib.hid (meas_on hqn)
                  have HGB := Lib.hid hgb
                  have HQB : Hid (q + 1 + x ≤ 65535) := Lib.hid (by have := HN.out; omega)
                  have HQX : Hid ((q : Int) + (1 + (x : Int)) = (q + 1 + x : Nat)) := Lib.hid (by omega)
                  clear hc hz hd hxs hs9 ha2 ha2l hbz2 hx1 hxsl HE
                  go_wp2_with fail
                  go_roundw
                  case rel => exact ⟨g, q + 1 + x, bh, a2, true, by rw [HQX.out], rfl, rfl, by rw [HA2.out], HGB.out, HQB.out, HJ, HNB⟩
                  case measure =>
                    rw [HQX.out]
                    exact HMS.out
              · have hcut' : (n : Int) < (q : Int) + 1 + (x : Int) := by have := HN.out; omega
                have HE := Lib.hid (HS.out.eq.trans (nmR_cut hq (by rw [← HX.out]; exact h63) (by rw [← HX.out]; exact hcut)))
                have HP := Lib.hid (DmP.not (e := .returned (.tuple #[.string ⟨#[]⟩, .int .i64 20])) (rb := rb) (A := some ⟨g1, o1, none⟩) (c := c) (b := b) HE.out HS.out.mod rfl)
                clear hc hz
                go_wp2_with fail
                go_ret2
                exact HP.out
      · have hq' : (n : Int) ≤ (q : Int) := by have := HN.out; omega
        have HE := Lib.hid (HS.out.eq.trans (nmR_end hq))
        have HP := Lib.hid (DmP.not (e := .returned (.tuple #[.string ⟨#[]⟩, .int .i64 20])) (rb := rb) (A := A) (c := c) (b := b) HE.out HS.out.mod rfl)
        go_wp2_with fail
        go_ret2
        exact HP.out
end Go.Proofs.YtknpkifhkefikaaDoor
namespace Go.Proofs.YtknpkifhkefikaaDoor
open Go.RowKit
set_option linter.unusedVariables false
set_option maxRecDepth 100000

theorem drec0_any (w : World) (rb : Nat) :
    Calls Tryd.prog 54 #[.pointer (some ⟨rb, 0, none⟩), .int .i64 0] w fun e w' => e = .returned (.tuple #[.slice none 0 0, .int .i64 0]) ∧ w' = w := by
  go_enter Tryd.func54, Tryd.ntmps54
  go_wp2_with fail
  go_loopw [6, 10] (fun v6 v10 wr => v6 = .slice none 0 0 ∧ v10 = .int .i64 0 ∧ wr = w) (fun _ _ _ => 0)
  case atStart => exact ⟨rfl, rfl, rfl⟩
  case round =>
    obtain ⟨rfl, rfl, rfl⟩ := hrel
    go_wp2_with fail
    go_ret2
    exact ⟨rfl, rfl⟩
end Go.Proofs.YtknpkifhkefikaaDoor
