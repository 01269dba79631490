/-
  The landed Records.
-/
import Derived.Test.YtbeggckkgaoacaaLr
import Derived.Test.YtbeggckkgaoacaaRrA
import Derived.Test.YtbeggckkgaoacaaSp
import Derived.Test.YtbeggckkgaoacaaGe
import Derived.Deep.RegionHeld3
namespace Go.Proofs.Ytbeggckkgaoacaa
open Go.RowKit
set_option linter.unusedVariables false
set_option maxRecDepth 100000

def recP (s : St) (left : Int) (d : Bs) : Rr := ⟨s.n, s.t, s.c, left, d⟩
def recsP (s : St) (now : Int) : List Rr := if s.kd = 0 ∧ freshN s now = true then s.ds.map (recP s (s.ex - clockN now)) else []
theorem recsP_kind {s : St} {now : Int} (h : s.kd ≠ 0) : recsP s now = [] := by unfold recsP; rw [if_neg (by simp [h])]
theorem recsP_stale {s : St} {now : Int} (h : freshN s now = false) : recsP s now = [] := by unfold recsP; rw [if_neg (by simp [h])]
theorem recsP_live {s : St} {now : Int} (h : s.kd = 0) (h2 : freshN s now = true) : recsP s now = s.ds.map (recP s (s.ex - clockN now)) := by unfold recsP; rw [if_pos ⟨h, h2⟩]

attribute [local go_sem ↓] exec_loadSt exec_appRr
set_option maxHeartbeats 4000000 in
set_option maxRecDepth 100000 in
theorem records_any (s : St) (A : Option Addr) (c : Nat) (now : Int) (w : World) (hS : Byss w A s.ds) (hl : (s.ds.length + 1) * 64 ≤ 140737488351232) (hd : ∀ x ∈ s.ds, x.length ≤ 140737488351232) (he : -9223372036854775808 ≤ s.ex ∧ s.ex ≤ 9223372036854775807) :
    Calls Try.prog 17 #[.agg (stC s A c), .int .i64 now] w fun e w' => ∃ v, e = .returned v ∧ OwnO w' w.heap.size v (recsP s now) ∧ Below w.heap.size w w' := by
  have r2 := row_new (w := w) (k := w.heap.size) (.cells (stC s A c) 29 (0, 0)) rfl
  have b0 : Below w.heap.size w (w.alloc (.cells (stC s A c) 29 (0, 0))) := Below.alloc (Below.refl _ _) (Nat.le_refl _) _
  obtain ⟨W0, hW0⟩ : ∃ W0, W0 = w.alloc (.cells (stC s A c) 29 (0, 0)) := ⟨_, rfl⟩
  have hz : W0.heap.size = w.heap.size + 1 := by rw [hW0]; exact Array.size_push _
  rw [← hW0] at r2 b0
  have S0 := hS.on b0
  have FS := Lib.hid (fun W => fresh_any s A c now W)
  obtain ⟨-, -, -, -, c4, -, -, -⟩ := st_cell r2
  have CE := Lib.hid (fun (W : World) (h : Below W0.heap.size W0 W) => st_cell ((h.block _ (by omega)).trans r2))
  have L1 := loadSt_row r2 info_st
  obtain ⟨C, hC⟩ : ∃ C, C = stC s A c := ⟨_, rfl⟩
  rw [← hC] at L1 FS hW0 ⊢
  have HB0 := Lib.hid b0
  have HW0 := Lib.hid hW0
  have HD := Lib.hid hd
  have HZ := Lib.hid hz
  have HS0 := Lib.hid S0
  have R2 := Lib.hid r2
  have HX := Lib.hid he
  have HL := Lib.hid hl
  clear hS hd he hC hW0 b0 S0 r2 hz hl
  go_enter Try.func17, Try.ntmps17
  by_cases hkd : s.kd = 0
  · go_wp2_with (first | rw [← HW0.out] | fail)
    refine (FS.out _).mono ?_
    rintro e w1 ⟨rfl, b1⟩
    cases hfr : freshN s now with
    | false =>
      have HF := Lib.hid (recsP_stale hfr)
      have HB1 := Lib.hid (Below.trans HB0.out (b1.mono HB0.out.size))
      clear b1 L1 FS
      go_wp2_with fail
      go_ret
      rw [HF.out]
      exact ⟨.slice none 0 0, rfl, OwnO.nil _ _, HB1.out⟩
    | true =>
      have hfr' : clockN now < s.ex := by unfold freshN at hfr; simpa using hfr
      have hck := clock_bd now
      have hlf : IntKind.i64.wrap (s.ex - clockN now) = s.ex - clockN now := IntWalk.i64_in _ (by have := HX.out; omega)
      have HF := Lib.hid (recsP_live hkd hfr)
      obtain ⟨lf, hlfe⟩ : ∃ lf, lf = s.ex - clockN now := ⟨_, rfl⟩
      rw [← hlfe] at HF
      replace hlf := hlf.trans hlfe.symm
      obtain ⟨-, -, -, -, -, c5, -, c7⟩ := CE.out w1 b1
      have CLK := Lib.hid (fun W => clock_any now W)
      obtain ⟨n, hn⟩ : ∃ n, n = s.ds.length := ⟨_, rfl⟩
      have hnl : (n + 1) * 64 ≤ 140737488351232 := by rw [hn]; exact HL.out
      rw [← hn] at c7
      have HN := Lib.hid hn
      have HB1 := Lib.hid b1
      generalize clockN now = ck at *
      generalize s.ex = ex at *
      clear hfr' hck hlfe b1 L1 FS c4 hn hfr
      go_wp2_with fail
      go_quiet ((go_at_call 44; exact Calls.quiet_of_same ((CLK.out _).mono fun _ _ ⟨h1, h2⟩ => ⟨h1, h2.symm⟩)))
      go_wp2_with fail
      have hz1 := HZ.out
      go_loopw [6, 26] (fun v6 v26 wr => ∃ k : Nat, v26 = .int .i64 k ∧ k ≤ n ∧ Hid (OwnO wr W0.heap.size v6 ((s.ds.take k).map (recP s lf))) ∧ Below W0.heap.size W0 wr) (fun _ v26 _ => n - (intOf v26).toNat)
      case atStart => exact ⟨0, rfl, by omega, Lib.hid (OwnO.nil _ _), below_drewN HB1.out _⟩
      case round =>
        obtain ⟨k, rfl, hk, HO, hB⟩ := hrel
        rename World => wr
        by_cases hlt : k < n
        · have hlt' : (k : Int) < (n : Int) := by omega
          have kL : k < s.ds.length := by have := HN.out; omega
          obtain ⟨g0, of0, hA0, hc0⟩ := (HS0.out.on hB) (by omega)
          obtain ⟨a, dc, cj, by1, m1, m2, m3⟩ := hc0 k kL
          subst hA0
          have hdx := HD.out s.ds[k] (List.getElem_mem kL)
          have htk : s.ds.take (k + 1) = s.ds.take k ++ [s.ds[k]] := List.take_succ_eq_append_getElem kL
          have hmp : (s.ds.take (k + 1)).map (recP s lf) = (s.ds.take k).map (recP s lf) ++ [recP s lf s.ds[k]] := by rw [htk, List.map_append]; rfl
          have hml : ((s.ds.take k).map (recP s lf)).length = k := by rw [List.length_map, List.length_take]; omega
          have hO := HO.out
          have hrn : (recP s lf s.ds[k]).n = s.n ∧ (recP s lf s.ds[k]).t = s.t ∧ (recP s lf s.ds[k]).c = s.c ∧ (recP s lf s.ds[k]).ttl = lf ∧ (recP s lf s.ds[k]).d = s.ds[k] := ⟨rfl, rfl, rfl, rfl, rfl⟩
          generalize (s.ds.take k).map (recP s lf) = acc at *
          have AP := Lib.hid (fun (W : World) (h : OwnO W W0.heap.size u6 acc) (hb : W0.heap.size ≤ W.heap.size) (A5 : Option Addr) (c5 : Nat) (ho : OwnR W W0.heap.size (.slice A5 (s.ds[k]).length c5) s.ds[k]) => run_appO h (recP s lf s.ds[k]) A5 c5 #[.string (bs s.n), .int .i64 s.t, .int .i64 s.c, .int .i64 lf, .slice A5 (s.ds[k]).length c5] rfl ho (by omega) hb)
          have CL := Lib.hid (fun (W : World) (h : Below wr.heap.size wr W) => CloneR_any a s.ds[k] (s.ds[k]).length dc W (by1.on h) rfl hdx (by1.on h).inside)
          generalize recP s lf s.ds[k] = rc at *
          generalize s.ds[k] = x at *
          obtain ⟨xn, hxn⟩ : ∃ xn, xn = x.length := ⟨_, rfl⟩
          rw [← hxn] at cj CL
          have HMP := Lib.hid hmp
          have HXN := Lib.hid hxn
          have hSR := hB
          have HOW := Lib.hid hO
          have FC := fun (W : World) (h : Below W0.heap.size W0 W) => CE.out W h
          have F1 := fun W h => (FC W h).1
          have F2 := fun W h => (FC W h).2.1
          have F3 := fun W h => (FC W h).2.2.1
          clear hc0 by1 m1 m2 m3 hdx htk hmp hml hrn hxn FC HO hB c7 c5 hO CLK hlf
          generalize s.n = sn at *
          generalize s.t = stt at *
          generalize s.c = sc at *
          go_wp2_with fail
          have hs1 := hSR.size
          clear hz1
          go_region_held3 (fun w' => Below W0.heap.size W0 w')
            (first | assumption | exact Below.drew (by assumption) | exact Below.alloc (by assumption) (by first | assumption | exact (by assumption : Below W0.heap.size W0 _).size) _ | exact Below.trans hS5 hab)
            (first
              | (go_at_call 30; (with_reducible refine (CL.out _ (by first | exact Below.refl _ _ | exact Below.drew (Below.refl _ _))).mono ?_); rintro e w5 ⟨v5, rfl, hOw, -, hBx⟩; obtain ⟨A5, c5, rfl, -, -⟩ := hOw.ownB.bys; have hS5 : Below W0.heap.size W0 w5 := (by first | exact Below.trans hSR (Below.mono hBx hs1) | exact Below.trans (Below.drew hSR) (Below.mono hBx hs1)); have hb5 : W0.heap.size ≤ w5.heap.size := hS5.size; have hO5 : OwnO w5 W0.heap.size u6 acc := (by first | exact HOW.out.below hBx | exact (HOW.out.below (Below.drew (Below.refl _ _))).below hBx); have hd5 := hOw.mono hs1; obtain ⟨hap, hao, hab⟩ := AP.out w5 hO5 hb5 A5 c5 hd5))
          rw [← HMP.out] at hao
          have HAO := Lib.hid hao
          have HAB := Lib.hid (Below.trans hS5 hab)
          clear hap hao hab hd5 hO5 hb5 hS5 hBx hOw AP CL F1 F2 F3
          generalize apV u6 (.slice (some ⟨w5.heap.size, 0, none⟩) 1 1) (w5.alloc (.cells #[.string (bs sn), .int .i64 stt, .int .i64 sc, .int .i64 lf, .slice A5 x.length c5] 39)) = v9 at *
          generalize apW u6 (.slice (some ⟨w5.heap.size, 0, none⟩) 1 1) (w5.alloc (.cells #[.string (bs sn), .int .i64 stt, .int .i64 sc, .int .i64 lf, .slice A5 x.length c5] 39)) = w9 at *
          go_wp2_with fail
          go_roundw
          case rel => exact ⟨k + 1, by go_num, by omega, HAO, HAB.out⟩
          case measure => simp [intOf]; omega
        · have hlt' : ¬ (k : Int) < (n : Int) := by omega
          obtain rfl : k = n := by omega
          have hO := HO.out
          rw [HN.out, List.take_length, ← HF.out] at hO
          have HO2 := Lib.hid (hO.mono HB0.out.size)
          have HB2 := Lib.hid (Below.trans HB0.out (hB.mono HB0.out.size))
          clear hO hB HO
          go_wp2_with fail
          go_ret
          exact ⟨_, rfl, HO2.out, HB2.out⟩
  · have HF := Lib.hid (recsP_kind (now := now) hkd)
    go_wp2_with (first | rw [← HW0.out] | fail)
    go_ret
    rw [HF.out]
    exact ⟨.slice none 0 0, rfl, OwnO.nil _ _, HB0.out⟩
end Go.Proofs.Ytbeggckkgaoacaa
