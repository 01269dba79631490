/-
  The document's Group.
-/
import Derived.Test.YtbeggckkgaoacaaGm
import Derived.Test.YtbeggckkgaoacaaGmp
import Derived.Test.YtbeggckkgaoacaaOrF
import Derived.Test.YtbeggckkgaoacaaGrG
import Derived.Test.YtbeggckkgaoacaaGe
namespace Go.Proofs.Ytbeggckkgaoacaa
open Go.RowKit
set_option linter.unusedVariables false
set_option maxRecDepth 100000

theorem loadRr_mid {w1 : World} {g o : Nat} {r : Rr} {A : Option Addr} {c : Nat} (h : w1.rangeAt g o (rrL r A c)) : loadRr (.pointer (some ⟨g, o, none⟩)) w1 = .ok (.value (.agg (rrC r A c))) w1 := by
  unfold loadRr
  rw [run_loadAt_mid w1 g o 39 (rrL r A c) _ h Try.underlying39 rfl info_rr]
  rfl
theorem slot_injG {k a c : Nat} (h : a < c) {n i j : Nat} (hi : i < n) (hj : j < n) (e : (fun i => if i = k then a else c + i) i = (fun i => if i = k then a else c + i) j) : i = j := by
  have e : (if i = k then a else c + i) = (if j = k then a else c + j) := e
  split at e <;> split at e <;> omega
theorem canRR_n {r : Rr} (h : canRR r = true) : can r.n = true := by
  unfold canRR at h
  simp only [Bool.and_eq_true] at h
  exact h.1
theorem hit_of {x y : Rr} (hy : canRR y = true) (hx : canRR x = true) : sameK y x = hit x y := by
  unfold hit
  rw [hy, sameK_is (canRR_n hy) (canRR_n hx)]
  rfl
def GDK (g9 B0 B1 : Nat) (xn : Bs) (ds : List Bs) (xt xc rk now ck ls ex : Int) (v14 : Value) : Nat → Value → World → Prop
  | 0, v, _ => v = .pointer (some ⟨g9, 0, none⟩)
  | 1, v, _ => v = .string (bs xn)
  | 2, v, _ => v = .pointer (some ⟨g9, 1, none⟩)
  | 3, v, _ => v = .int .i64 xt
  | 4, v, _ => v = .pointer (some ⟨g9, 2, none⟩)
  | 5, v, _ => v = .int .i64 xc
  | 6, v, _ => v = .int .i64 rk
  | 7, v, _ => v = .int .i64 now
  | 8, v, _ => v = .int .i64 ck
  | 9, v, _ => v = .int .i64 ls
  | 10, v, _ => v = .int .i64 ex
  | 11, v, _ => v = v14
  | 12, v, w => ∃ (a0 : Option Addr) (c0 : Nat), v = .slice a0 (orderP ds).length c0 ∧ OwnL w B0 (.slice a0 (orderP ds).length c0) (orderP ds)
  | 13, v, w => ∃ (a0 : Option Addr) (c0 : Nat), v = .agg #[.string (bs xn), .int .i64 xt, .int .i64 xc, .int .i64 rk, .int .i64 0, .int .i64 ex, .string ⟨#[]⟩, .slice a0 (orderP ds).length c0] ∧ OwnL w B0 (.slice a0 (orderP ds).length c0) (orderP ds)
  | 14, v, w => ∃ gb : Nat, v = .pointer (some ⟨gb, 0, none⟩) ∧ B1 ≤ gb ∧ w.heap[gb]? = some (.cells #[.string ⟨#[]⟩, .int .i64 0, .int .i64 0, .int .i64 0, .int .i64 0, .int .i64 0, .string ⟨#[]⟩, .slice none 0 0] 29 (0, 0))
  | _, _, _ => True
theorem GDK_on {g9 B0 B1 : Nat} {xn : Bs} {ds : List Bs} {xt xc rk now ck ls ex : Int} {v14 : Value} (i : Nat) (v : Value) (w w' : World) (h : GDK g9 B0 B1 xn ds xt xc rk now ck ls ex v14 i v w) (hB : Below w.heap.size w w') : GDK g9 B0 B1 xn ds xt xc rk now ck ls ex v14 i v w' := by
  match i, h with
  | 0, h => exact h
  | 1, h => exact h
  | 2, h => exact h
  | 3, h => exact h
  | 4, h => exact h
  | 5, h => exact h
  | 6, h => exact h
  | 7, h => exact h
  | 8, h => exact h
  | 9, h => exact h
  | 10, h => exact h
  | 11, h => exact h
  | 12, h => obtain ⟨a0, c0, e, h1⟩ := h; exact ⟨a0, c0, e, h1.below hB⟩
  | 13, h => obtain ⟨a0, c0, e, h1⟩ := h; exact ⟨a0, c0, e, h1.below hB⟩
  | 14, h => obtain ⟨gb, e, h1, h2⟩ := h; exact ⟨gb, e, h1, (hB.block _ (Array.getElem?_eq_some_iff.1 h2).1).trans h2⟩
  | _ + 15, _ => trivial

attribute [local go_sem ↓] exec_loadRr exec_storeSt exec_loadSt
set_option maxHeartbeats 4000000 in
set_option maxRecDepth 100000 in
theorem dGroup_any (A : Option Addr) (L : List Rr) (c : Nat) (rank now : Int) (w : World) (hS : Rs w A L) (hk : L.length ≤ c ∧ c ≤ 9223372036854775807) (hl : (L.length + 1) * 96 ≤ 140737488351232) :
    Calls Try.prog 12 #[.slice A L.length c, .int .i64 rank, .int .i64 now] w fun e w' => ∃ v, e = .returned v ∧ OwnS w' w.heap.size v (groupP rank now L) ∧ Below w.heap.size w w' := by
  obtain ⟨k1, k2⟩ := hk
  obtain ⟨n, hn⟩ : ∃ n, n = L.length := ⟨_, rfl⟩
  rw [← hn] at k1 hl ⊢
  have HN := Lib.hid hn
  have HS := Lib.hid hS
  have HL := Lib.hid hl
  clear hn hS hl
  go_enter Try.func12, Try.ntmps12
  go_wp2_with fail
  go_loopw [7, 20] (fun v7 v20 wr => ∃ i : Nat, v20 = .int .i64 i ∧ i ≤ n ∧ Hid (OwnS wr w.heap.size v7 (outD rank now L (firstsP ((L.take i).filter canRR)))) ∧ Below w.heap.size w wr) (fun _ v20 _ => n - (intOf v20).toNat)
  case atStart => exact ⟨0, rfl, by omega, Lib.hid (OwnS.nil _ _), Below.refl _ _⟩
  case round =>
    obtain ⟨i, rfl, hi, HO, hB⟩ := hrel
    rename World => wr
    by_cases hlt : i < n
    · have hlt' : (i : Int) < (n : Int) := by omega
      have iL : i < L.length := by have := HN.out; omega
      have hic : i ≤ c := by omega
      obtain ⟨g1, o1, rfl, hc1⟩ := id HS.out (by omega)
      have HCC := Lib.hid hc1
      obtain ⟨a1, d1, D1, R1⟩ := hc1 i iL
      have R1' := range_on R1 hB
      have hnf := next_firsts iL
      have hgh := @grp_head L i iL
      generalize L[i] = x at *
      have HNF := Lib.hid hnf
      have HGH := Lib.hid hgh
      clear hc1 hnf hgh R1
      have LM1 := loadRr_mid R1'
      have i1 : Hid ((Try.prog.info? 39).map (·.size) = some (rrC x a1 d1).size) := Lib.hid info_rr
      have one1 := Lib.hid (rr_one x a1 d1)
      have z1 : Hid ((rrZ).size = (rrC x a1 d1).size) := Lib.hid rfl
      have rZ1 := row_new (w := wr) (k := wr.heap.size) (.cells rrZ 39 (0, 0)) rfl
      have r1 := setRow_heap _ _ _ (rrC x a1 d1) _ _ rZ1
      have q1 : Below wr.heap.size wr ((wr.alloc (.cells rrZ 39)).setRow wr.heap.size (rrC x a1 d1)) := Below.setRow (Below.alloc (Below.refl _ _) (Nat.le_refl _) _) (Nat.le_refl _) _
      rw [rrZ_lit] at rZ1 r1 q1 z1
      obtain ⟨W1, hW1⟩ : ∃ W1, W1 = (wr.alloc (.cells #[.string ⟨#[]⟩, .int .i64 0, .int .i64 0, .int .i64 0, .slice none 0 0] 39)).setRow wr.heap.size (rrC x a1 d1) := ⟨_, rfl⟩
      rw [← hW1] at r1 q1
      have HW1 := Lib.hid hW1
      have RR1 := Lib.hid r1
      have LR1 := loadRr_row r1 i1.out
      have bW1 := Below.trans hB (q1.mono hB.size)
      have MY := Lib.hid (may_any x a1 d1 W1 ((D1.on hB).on q1))
      obtain ⟨C1, hC1⟩ : ∃ C1, C1 = rrC x a1 d1 := ⟨_, rfl⟩
      rw [← hC1] at LM1 i1 one1 z1 HW1 LR1 MY
      have HC1 := Lib.hid hC1
      have HOW := Lib.hid (HO.out.below q1)
      have HBW := Lib.hid bW1
      have HD1 := Lib.hid D1
      clear hW1 q1 r1 bW1 hB hC1 D1 R1' HO
      go_wp2_with (first
        | (refine wpList_store_row rfl 39 (.tmp 9) (.tmp 24) rfl wr.heap.size C1 rfl rfl 39 _ rZ1 i1.out (by first | exact z1.out | exact z1.out.symm) one1.out ?_; rw [← HW1.out])
        | fail)
      refine MY.out.mono ?_
      rintro e w2 ⟨rfl, b2⟩
      have HO2 := Lib.hid (HOW.out.below b2)
      have HB2 := Lib.hid (Below.trans HBW.out (b2.mono HBW.out.size))
      have R12 := Lib.hid ((b2.block _ (Array.getElem?_eq_some_iff.1 RR1.out).1).trans RR1.out)
      clear MY HOW HBW RR1 b2 LM1 LR1 HW1 rZ1
      obtain ⟨b0, hb0⟩ : ∃ b0, b0 = canRR x := ⟨_, rfl⟩
      rw [← hb0]
      have HB0 := Lib.hid hb0
      clear hb0
      go_wp2_with fail
      go_loopw [10, 31] (fun v10 v31 ws => ∃ (j : Nat) (b : Bool), v31 = .int .i64 j ∧ v10 = .bool b ∧ j ≤ i ∧ Hid (b = (canRR x && !((L.take j).any (hit x)))) ∧ Below w2.heap.size w2 ws) (fun _ v31 _ => i - (intOf v31).toNat)
      case atStart => exact ⟨0, b0, rfl, rfl, by omega, Lib.hid (by rw [HB0.out]; simp), Below.refl _ _⟩
      case round =>
        obtain ⟨j, b, rfl, rfl, hj, HBb, hB3⟩ := hrel
        rename World => ws
        by_cases hlt2 : j < i
        · have hlt2' : (j : Int) < (i : Int) := by omega
          have jL : j < L.length := by omega
          have hBs := Below.trans HB2.out (hB3.mono HB2.out.size)
          obtain ⟨a2, d2, D2, R2⟩ := HCC.out j jL
          have R2' := range_on R2 hBs
          have hnx := anyhit_next jL x
          generalize L[j] = y at *
          have HNX := Lib.hid hnx
          clear hnx R2
          have LM2 := loadRr_mid R2'
          have i2 : Hid ((Try.prog.info? 39).map (·.size) = some (rrC y a2 d2).size) := Lib.hid info_rr
          have one2 := Lib.hid (rr_one y a2 d2)
          have z2 : Hid ((rrZ).size = (rrC y a2 d2).size) := Lib.hid rfl
          have rZ2 := row_new (w := ws) (k := ws.heap.size) (.cells rrZ 39 (0, 0)) rfl
          have r2 := setRow_heap _ _ _ (rrC y a2 d2) _ _ rZ2
          have q2 : Below ws.heap.size ws ((ws.alloc (.cells rrZ 39)).setRow ws.heap.size (rrC y a2 d2)) := Below.setRow (Below.alloc (Below.refl _ _) (Nat.le_refl _) _) (Nat.le_refl _) _
          rw [rrZ_lit] at rZ2 r2 q2 z2
          obtain ⟨W2, hW2⟩ : ∃ W2, W2 = (ws.alloc (.cells #[.string ⟨#[]⟩, .int .i64 0, .int .i64 0, .int .i64 0, .slice none 0 0] 39)).setRow ws.heap.size (rrC y a2 d2) := ⟨_, rfl⟩
          rw [← hW2] at r2 q2
          have HW2 := Lib.hid hW2
          have RR2 := Lib.hid r2
          have LR2 := loadRr_row r2 i2.out
          have b23 := Below.trans hB3 (q2.mono hB3.size)
          have HB23 := Lib.hid b23
          have MY := Lib.hid (may_any y a2 d2 W2 ((D2.on hBs).on q2))
          have ON := Lib.hid (fun (W : World) => one_any y x a2 a1 d2 d1 W)
          obtain ⟨C2, hC2⟩ : ∃ C2, C2 = rrC y a2 d2 := ⟨_, rfl⟩
          rw [← hC2] at LM2 i2 one2 z2 HW2 LR2 MY ON
          have HC2 := Lib.hid hC2
          rw [← HC1.out] at ON
          have HR12 := R12.out
          rw [← HC1.out] at HR12
          have HRX := Lib.hid HR12
          have hRY := RR2.out
          rw [← HC2.out] at hRY
          have HRY := Lib.hid hRY
          clear hW2 q2 r2 b23 hC2 D2 R2' hB3 hBs HR12 hRY RR2
          cases b with
          | false =>
            have HF : Hid (false = (canRR x && !((L.take (j + 1)).any (hit x)))) := Lib.hid (by
              have h := HBb.out
              rw [HNX.out]
              cases hc : canRR x
              · rfl
              · rw [hc] at h
                cases ha : (L.take j).any (hit x)
                · rw [ha] at h; cases h
                · rfl)
            clear HBb HNX MY ON LR2
            go_wp2_with (first
              | (refine wpList_store_row rfl 39 (.tmp 12) (.tmp 34) rfl ws.heap.size C2 rfl rfl 39 _ rZ2 i2.out (by first | exact z2.out | exact z2.out.symm) one2.out ?_; rw [← HW2.out])
              | fail)
            go_roundw
            case rel => exact ⟨j + 1, false, by go_num, rfl, by omega, HF, HB23.out⟩
            case measure => simp [intOf]; omega
          | true =>
            have hxy : canRR x = true ∧ (L.take j).any (hit x) = false := by
              have h := HBb.out
              cases hc : canRR x
              · rw [hc] at h; cases h
              · cases ha : (L.take j).any (hit x)
                · exact ⟨rfl, rfl⟩
                · rw [hc, ha] at h; cases h
            have HX1 := Lib.hid hxy.1
            have HX2 := Lib.hid hxy.2
            clear hxy
            go_wp2_with (first
              | (refine wpList_store_row rfl 39 (.tmp 12) (.tmp 34) rfl ws.heap.size C2 rfl rfl 39 _ rZ2 i2.out (by first | exact z2.out | exact z2.out.symm) one2.out ?_; rw [← HW2.out])
              | fail)
            refine MY.out.mono ?_
            rintro e w3 ⟨rfl, b3⟩
            have HB3 := Lib.hid (Below.trans HB23.out (b3.mono HB23.out.size))
            have rX := (HB3.out.block _ (Array.getElem?_eq_some_iff.1 HRX.out).1).trans HRX.out
            have rY := (b3.block _ (Array.getElem?_eq_some_iff.1 HRY.out).1).trans HRY.out
            have LX := loadRr_row rX i1.out
            have LY := loadRr_row rY i2.out
            clear rX rY b3 LM2 LR2 HW2 rZ2 MY
            cases hmy : canRR y with
            | false =>
              have HF : Hid (true = (canRR x && !((L.take (j + 1)).any (hit x)))) := Lib.hid (by rw [HNX.out, HX1.out, HX2.out]; unfold hit; rw [hmy]; rfl)
              clear LX LY ON
              go_wp2_with fail
              go_roundw
              case rel => exact ⟨j + 1, true, by go_num, rfl, by omega, HF, HB3.out⟩
              case measure => simp [intOf]; omega
            | true =>
              have hh := hit_of hmy HX1.out
              rw [hh] at ON
              have HF : Hid ((!(hit x y)) = (canRR x && !((L.take (j + 1)).any (hit x)))) := Lib.hid (by rw [HNX.out, HX1.out, HX2.out]; rfl)
              generalize hit x y = ht at *
              clear hh
              go_wp2_with fail
              refine (ON.out _).mono ?_
              rintro e w4 ⟨rfl, b4⟩
              have HB4 := Lib.hid (Below.trans HB3.out (b4.mono HB3.out.size))
              clear b4 LX LY ON
              go_wp2_with fail
              go_roundw
              case rel => exact ⟨j + 1, !ht, by go_num, rfl, by omega, HF, HB4.out⟩
              case measure => simp [intOf]; omega
        · have hlt2' : ¬ (j : Int) < (i : Int) := by omega
          obtain rfl : j = i := by omega
          have HBs := Lib.hid (Below.trans HB2.out (hB3.mono HB2.out.size))
          have HOs := Lib.hid (HO2.out.below hB3)
          have HRX := Lib.hid ((hB3.block _ (Array.getElem?_eq_some_iff.1 R12.out).1).trans R12.out)
          have HDF : Hid (b = docFirst (L.take j) x) := HBb
          clear hB3 HO2 HB2 R12 HBb HB0
          cases b with
          | false =>
            have HF : Hid (OwnS ws w.heap.size u7 (outD rank now L (firstsP ((L.take (j + 1)).filter canRR)))) := Lib.hid (by rw [HNF.out, ← HDF.out]; exact HOs.out)
            go_wp2_with fail
            go_roundw
            case rel => exact ⟨j + 1, by go_num, by omega, HF, HBs.out⟩
            case measure => simp [intOf]; omega
          | true =>
            have HH := Lib.hid (HGH.out HDF.out.symm)
            have HXC : Hid (canRR x = true) := Lib.hid (by
              have h := HDF.out.symm
              unfold docFirst at h
              simp only [Bool.and_eq_true] at h
              exact h.1)
            obtain ⟨cx0, cx1, cx2, cx3, -⟩ := rr_cell HRX.out
            have LST := Lib.hid (fun W => last_ref x.ttl W)
            clear HGH
            go_wp2_with fail
            refine (LST.out _).mono ?_
            rintro e w3 ⟨rfl, rfl⟩
            clear LST cx0 cx1 cx2 cx3
            go_wp2_with fail
            go_loopw [13, 14, 54] (fun v13 v14 v54 wt => ∃ (k : Nat) (ls : Int), v13 = .int .i64 ls ∧ v54 = .int .i64 k ∧ k ≤ n ∧ Hid (ls = leastP (lastN x.ttl) ((L.take k).filter (hit x))) ∧ Hid (NxA w wt ws.heap.size v14 (((L.take k).filter (hit x)).map (·.d))) ∧ Below ws.heap.size ws wt) (fun _ _ v54 _ => n - (intOf v54).toNat)
            case atStart => exact ⟨0, lastN x.ttl, rfl, rfl, by omega, Lib.hid rfl, Lib.hid (NxA.nil _ _ _), Below.refl _ _⟩
            case round =>
              obtain ⟨k, ls, rfl, rfl, hk, HLS, HNA, hB4⟩ := hrel
              rename World => wt
              by_cases hlt3 : k < n
              · have hlt3' : (k : Int) < (n : Int) := by omega
                have kL : k < L.length := by have := HN.out; omega
                have hBt := Below.trans HBs.out (hB4.mono HBs.out.size)
                obtain ⟨a2, d2, D2, R2⟩ := HCC.out k kL
                have R2' := range_on R2 hBt
                have hnx := hit_next kL x
                have hal : (((L.take k).filter (hit x)).map (·.d)).length ≤ k := by
                  rw [List.length_map]
                  exact Nat.le_trans (List.length_filter_le _ _) (by rw [List.length_take]; omega)
                generalize L[k] = y at *
                have HNX := Lib.hid hnx
                have HAL := Lib.hid hal
                clear hnx R2 hal
                have LM2 := loadRr_mid R2'
                have i2 : Hid ((Try.prog.info? 39).map (·.size) = some (rrC y a2 d2).size) := Lib.hid info_rr
                have one2 := Lib.hid (rr_one y a2 d2)
                have z2 : Hid ((rrZ).size = (rrC y a2 d2).size) := Lib.hid rfl
                have rZ2 := row_new (w := wt) (k := wt.heap.size) (.cells rrZ 39 (0, 0)) rfl
                have r2 := setRow_heap _ _ _ (rrC y a2 d2) _ _ rZ2
                have q2 : Below wt.heap.size wt ((wt.alloc (.cells rrZ 39)).setRow wt.heap.size (rrC y a2 d2)) := Below.setRow (Below.alloc (Below.refl _ _) (Nat.le_refl _) _) (Nat.le_refl _) _
                rw [rrZ_lit] at rZ2 r2 q2 z2
                obtain ⟨W2, hW2⟩ : ∃ W2, W2 = (wt.alloc (.cells #[.string ⟨#[]⟩, .int .i64 0, .int .i64 0, .int .i64 0, .slice none 0 0] 39)).setRow wt.heap.size (rrC y a2 d2) := ⟨_, rfl⟩
                rw [← hW2] at r2 q2
                have HW2 := Lib.hid hW2
                have RR2 := Lib.hid r2
                have LR2 := loadRr_row r2 i2.out
                have b23 := Below.trans hB4 (q2.mono hB4.size)
                have HB23 := Lib.hid b23
                have MY := Lib.hid (may_any y a2 d2 W2 ((D2.on hBt).on q2))
                have ON := Lib.hid (fun (W : World) => one_any y x a2 a1 d2 d1 W)
                have HNA2 := Lib.hid (HNA.out.below q2)
                have S2 : Hid (Sl w a2 d2 y.d) := Lib.hid ⟨D2.bys, D2.le, D2.max, D2.nil⟩
                have hRY2 := RR2.out
                have HRYL := Lib.hid hRY2
                obtain ⟨C2, hC2⟩ : ∃ C2, C2 = rrC y a2 d2 := ⟨_, rfl⟩
                rw [← hC2] at LM2 i2 one2 z2 HW2 LR2 MY ON
                have HC2 := Lib.hid hC2
                rw [← HC1.out] at ON
                have HR12 := HRX.out
                rw [← HC1.out] at HR12
                have HRX2 := Lib.hid HR12
                have hRY := RR2.out
                rw [← HC2.out] at hRY
                have HRY := Lib.hid hRY
                clear hW2 q2 r2 b23 hC2 D2 R2' hB4 hBt HR12 hRY hRY2 RR2 HNA
                go_wp2_with (first
                  | (refine wpList_store_row rfl 39 (.tmp 16) (.tmp 57) rfl wt.heap.size C2 rfl rfl 39 _ rZ2 i2.out (by first | exact z2.out | exact z2.out.symm) one2.out ?_; rw [← HW2.out])
                  | fail)
                refine MY.out.mono ?_
                rintro e w3 ⟨rfl, b3⟩
                have HB3 := Lib.hid (Below.trans HB23.out (b3.mono HB23.out.size))
                have HNA3 := Lib.hid (HNA2.out.below b3)
                have rX := (HB3.out.block _ (Array.getElem?_eq_some_iff.1 HRX2.out).1).trans HRX2.out
                have rY := (b3.block _ (Array.getElem?_eq_some_iff.1 HRY.out).1).trans HRY.out
                have rYL := Lib.hid ((b3.block _ (Array.getElem?_eq_some_iff.1 HRYL.out).1).trans HRYL.out)
                have LX := loadRr_row rX i1.out
                have LY := loadRr_row rY i2.out
                clear rX rY b3 LM2 LR2 HW2 rZ2 MY HNA2
                cases hmy : canRR y with
                | false =>
                  have hh : hit x y = false := by unfold hit; rw [hmy]; rfl
                  have HF : Hid ((L.take (k + 1)).filter (hit x) = (L.take k).filter (hit x)) := Lib.hid (by rw [HNX.out, hh]; simp)
                  clear LX LY ON hh
                  go_wp2_with fail
                  go_roundw
                  case rel => exact ⟨k + 1, ls, rfl, by go_num, by omega, (by rw [HF.out]; exact HLS), (by rw [HF.out]; exact HNA3), HB3.out⟩
                  case measure => simp [intOf]; omega
                | true =>
                  have hh := hit_of hmy HXC.out
                  rw [hh] at ON
                  cases hxy : hit x y with
                  | false =>
                    rw [hxy] at ON
                    have HF : Hid ((L.take (k + 1)).filter (hit x) = (L.take k).filter (hit x)) := Lib.hid (by rw [HNX.out, hxy]; simp)
                    clear hh
                    go_wp2_with fail
                    refine (ON.out _).mono ?_
                    rintro e w4 ⟨rfl, b4⟩
                    have HNA4 := Lib.hid (HNA3.out.below b4)
                    have HB4 := Lib.hid (Below.trans HB3.out (b4.mono HB3.out.size))
                    clear b4 LX LY ON HNA3
                    go_wp2_with fail
                    go_roundw
                    case rel => exact ⟨k + 1, ls, rfl, by go_num, by omega, (by rw [HF.out]; exact HLS), (by rw [HF.out]; exact HNA4), HB4.out⟩
                    case measure => simp [intOf]; omega
                  | true =>
                    rw [hxy] at ON
                    have hF : (L.take (k + 1)).filter (hit x) = (L.take k).filter (hit x) ++ [y] := by rw [HNX.out, hxy]; simp
                    have HFL : Hid (min ls (lastN y.ttl) = leastP (lastN x.ttl) ((L.take (k + 1)).filter (hit x))) := Lib.hid (by rw [hF, least_snoc, HLS.out])
                    have HFM : Hid (((L.take (k + 1)).filter (hit x)).map (·.d) = ((L.take k).filter (hit x)).map (·.d) ++ [y.d]) := Lib.hid (by rw [hF, List.map_append]; rfl)
                    have LST := Lib.hid (fun W => last_ref y.ttl W)
                    obtain ⟨yn, hyn⟩ : ∃ yn, yn = y.d.length := ⟨_, rfl⟩
                    have HYN := Lib.hid hyn
                    generalize ((L.take k).filter (hit x)).map (·.d) = acc at *
                    have HLB : Hid ((acc.length + 1) * 24 ≤ 140737488355328) := Lib.hid (by have := HAL.out; have := HL.out; omega)
                    clear hh hF
                    go_wp2_with fail
                    refine (ON.out _).mono ?_
                    rintro e w4 ⟨rfl, b4⟩
                    have HNA4 := Lib.hid (HNA3.out.below b4)
                    have HB4 := Lib.hid (Below.trans HB3.out (b4.mono HB3.out.size))
                    obtain ⟨-, -, -, cy3, cy4⟩ := rr_cell ((b4.block _ (Array.getElem?_eq_some_iff.1 rYL.out).1).trans rYL.out)
                    rw [← hyn] at cy4
                    generalize lastN y.ttl = ly at *
                    generalize y.ttl = yt at *
                    have HWB : Hid (ws.heap.size ≤ w4.heap.size) := Lib.hid HB4.out.size
                    clear b4 LX LY ON HNA3 hyn
                    go_wp2_with fail
                    refine (LST.out _).mono ?_
                    rintro e w5 ⟨rfl, rfl⟩
                    go_wp2_with (first
                      | (at_builtin; refine wpList_snocA rfl _ _ rfl w ws.heap.size _ acc rfl HNA4.out rfl a2 d2 yn y.d HYN.out S2.out HLB.out HWB.out ?_)
                      | fail)
                    intro v14' w6 nx6 b6
                    have HNA6 := Lib.hid nx6
                    rw [← HFM.out] at HNA6
                    have HB6 := Lib.hid (Below.trans HB4.out b6)
                    clear nx6 b6 HNA4 HB4 HLB HWB cy3 cy4 LST
                    go_wp2_with fail
                    go_roundw
                    case rel => exact ⟨k + 1, _, rfl, by go_num, by omega, HFL, HNA6, HB6.out⟩
                    case measure => simp [intOf]; omega
              · have hlt3' : ¬ (k : Int) < (n : Int) := by omega
                obtain rfl : k = n := by omega
                have hLS := HLS.out
                have hNA := HNA.out
                rw [HN.out, List.take_length] at hLS hNA
                have HBt := Lib.hid (Below.trans HBs.out (hB4.mono HBs.out.size))
                have HOt := Lib.hid (HOs.out.below hB4)
                have rX := (hB4.block _ (Array.getElem?_eq_some_iff.1 HRX.out).1).trans HRX.out
                obtain ⟨cx0, cx1, cx2, -, -⟩ := rr_cell rX
                obtain ⟨A8, c8, rfl, by8, -⟩ := hNA.byss HBt.out
                obtain ⟨G, hG⟩ : ∃ G, G = L.filter (hit x) := ⟨_, rfl⟩
                have hsp : setP rank now G = ⟨x.n, x.t, x.c, rank, 0, clockN now + ls, [], orderP (G.map (·.d))⟩ := by
                  rw [hLS, hG, least_start HH.out]
                  exact set_head HH.out
                have hcd : ∀ y ∈ G, canRR y = true := fun y hy => by
                  rw [hG] at hy
                  have := (List.mem_filter.1 hy).2
                  unfold hit at this
                  simp only [Bool.and_eq_true] at this
                  exact this.1
                have hGl : G.length ≤ k := by rw [hG, HN.out]; exact List.length_filter_le _ _
                have hlb : 0 ≤ ls ∧ ls ≤ 86400 := by
                  rw [hLS]
                  have h1 := last_bdN x.ttl
                  have h2 := least_bd (L.filter (hit x)) (lastN x.ttl) h1.1
                  omega
                have hck := clock_bd now
                obtain ⟨ex, hex⟩ : ∃ ex, ex = clockN now + ls := ⟨_, rfl⟩
                have hwr : IntKind.i64.wrap (clockN now + ls) = ex := by rw [hex]; exact IntWalk.i64_in _ (by omega)
                have CLK := Lib.hid (fun W => clock_ref now W)
                rw [← hex] at hsp
                rw [← hG] at by8
                obtain ⟨ds, hds⟩ : ∃ ds, ds = G.map (·.d) := ⟨_, rfl⟩
                have hdl : ds.length = G.length := by rw [hds, List.length_map]
                have hgl0 : (L.filter (hit x)).map (·.d) = ds := by rw [hds, hG]
                rw [← hds] at by8 hsp
                have hdd : ∀ z ∈ ds, z.length ≤ 140737488351232 := fun z hz => by
                  rw [hds] at hz
                  obtain ⟨y, hy, rfl⟩ := List.mem_map.1 hz
                  have := (canRR_len (hcd y hy)).1
                  omega
                have hln := HL.out
                have ORD := Lib.hid (fun (W : World) (h : Below wt.heap.size wt W) => (dOrder_any A8 ds c8 W (by8.on h) (by omega) hdd).mono (R' := fun e w' => ∃ (a0 : Option Addr) (c0 : Nat), e = .returned (.slice a0 (orderP ds).length c0) ∧ OwnL w' w.heap.size (.slice a0 (orderP ds).length c0) (orderP ds) ∧ Below W.heap.size W w') (by
                  rintro e w' ⟨v, rfl, ho, hb⟩
                  obtain ⟨a0, c0, rfl, -, -⟩ := ho.byss
                  exact ⟨a0, c0, rfl, ho.mono (Nat.le_trans HBt.out.size h.size), hb⟩))
                have hol : (orderP ds).length ≤ 9223372036854775806 := by
                  have := order_len ds
                  omega
                obtain ⟨S, hSe⟩ : ∃ S, S = setP rank now G := ⟨_, rfl⟩
                have hS8 : ∀ a c, stC S a c = #[.string (bs x.n), .int .i64 x.t, .int .i64 x.c, .int .i64 rank, .int .i64 0, .int .i64 ex, .string ⟨#[]⟩, .slice a (orderP ds).length c] := fun a c => by rw [hSe, hsp]; rfl
                have hSd : S.ds = orderP ds := by rw [hSe, hsp]
                have hnx : outD rank now L (firstsP ((L.take (j + 1)).filter canRR)) = outD rank now L (firstsP ((L.take j).filter canRR)) ++ (if canS S then [S] else []) := by
                  rw [HNF.out, ← HDF.out]
                  simp only [if_true]
                  rw [outD_next, hSe, hG]
                have hacc : (outD rank now L (firstsP ((L.take j).filter canRR))).length ≤ j := Nat.le_trans (outD_len _ _ _ _) (Nat.le_trans (firsts_len _) (Nat.le_trans (List.length_filter_le _ _) (by rw [List.length_take]; omega)))
                rw [hgl0]
                have hdn : ds.length = ds.length := rfl
                obtain ⟨D8, hD8⟩ : ∃ D8 : Value, D8 = .slice A8 ds.length c8 := ⟨_, rfl⟩
                rw [← hD8] at ORD ⊢
                generalize outD rank now L (firstsP ((L.take j).filter canRR)) = acc at *
                have HNX := Lib.hid hnx
                have HS8 := Lib.hid hS8
                have HSD := Lib.hid hSd
                have HOL := Lib.hid hol
                have HLB : Hid ((acc.length + 1) * 96 ≤ 140737488355328) := Lib.hid (by omega)
                have F0 := fun (W : World) (h : Below wt.heap.size wt W) => cell_on cx0 h
                have F1 := fun (W : World) (h : Below wt.heap.size wt W) => cell_on cx1 h
                have F2 := fun (W : World) (h : Below wt.heap.size wt W) => cell_on cx2 h
                generalize clockN now = ck at *
                clear hLS hNA hB4 rX cx0 cx1 cx2 by8 hsp hcd hGl hlb hck hex hG hds hdl hgl0 hdd hln hol hSe hS8 hSd hnx hacc hdn hD8 HLS HNA HOs HBs HRX HH HDF HNF
                go_wp2_with fail
                refine wp_region_under 15 (by kernel_rfl) (by kernel_rfl) (by kernel_rfl) rfl (d := fun i => (if i = 14 then 17 else 76 + i)) (R := GDK wr.heap.size w.heap.size wt.heap.size x.n ds x.t x.c rank now ck ls ex D8) (B := wt.heap.size) (Nat.le_refl _) (fun i j hi hj e => slot_injG (by omega) hi hj e) (fun i hi => by show (if i = 14 then 17 else 76 + i) < _; split <;> first | omega | (simp; omega) | simp) GDK_on (fun i hi b a' w' un hr => ?_) (fun V w' hV hB hs => ?_)
                · obtain ⟨_, o, ho, hall⟩ := mem_ready.1 hr
                  have t1 : (a'.tmps[1]?).getD undef = .int .i64 rank := slot_of ((un.old 1 (fun i _ => by show (if i = 14 then 17 else 76 + i) ≠ 1; split <;> omega)).trans rfl)
                  have t2 : (a'.tmps[2]?).getD undef = .int .i64 now := slot_of ((un.old 2 (fun i _ => by show (if i = 14 then 17 else 76 + i) ≠ 2; split <;> omega)).trans rfl)
                  have t9 : (a'.tmps[9]?).getD undef = .pointer (some ⟨wr.heap.size, 0, none⟩) := slot_of ((un.old 9 (fun i _ => by show (if i = 14 then 17 else 76 + i) ≠ 9; split <;> omega)).trans rfl)
                  have t13 : (a'.tmps[13]?).getD undef = .int .i64 ls := slot_of ((un.old 13 (fun i _ => by show (if i = 14 then 17 else 76 + i) ≠ 13; split <;> omega)).trans rfl)
                  have t14 : (a'.tmps[14]?).getD undef = D8 := slot_of ((un.old 14 (fun i _ => by show (if i = 14 then 17 else 76 + i) ≠ 14; split <;> omega)).trans rfl)
                  have cc0 := F0 _ un.bel
                  have cc1 := F1 _ un.bel
                  have cc2 := F2 _ un.bel
                  match i, hi with
                  | 0, _ =>
                    obtain rfl := Option.some.inj ho
                    refine ⟨_, rfl, rfl, ?_⟩
                    clear ho hall hr  un
                    unfold Oper.wp
                    go_simp
                    exact ⟨_, rfl, rfl, Below.refl _ _⟩
                  | 1, _ =>
                    obtain rfl := Option.some.inj ho
                    have h0 := getD_both_true (hall ⟨0, .data⟩ (by simp) rfl)
                    obtain ⟨v0, hv0, hr0⟩ := un.got 0 (by simp) h0
                    obtain rfl := hr0
                    have s0 := slot_of (j := 76) hv0
                    refine ⟨_, rfl, rfl, ?_⟩
                    clear ho hall hr hv0 un
                    unfold Oper.wp
                    go_simp
                    exact ⟨_, rfl, rfl, Below.refl _ _⟩
                  | 2, _ =>
                    obtain rfl := Option.some.inj ho
                    refine ⟨_, rfl, rfl, ?_⟩
                    clear ho hall hr  un
                    unfold Oper.wp
                    go_simp
                    exact ⟨_, rfl, rfl, Below.refl _ _⟩
                  | 3, _ =>
                    obtain rfl := Option.some.inj ho
                    have h2 := getD_both_true (hall ⟨2, .data⟩ (by simp) rfl)
                    obtain ⟨v2, hv2, hr2⟩ := un.got 2 (by simp) h2
                    obtain rfl := hr2
                    have s2 := slot_of (j := 78) hv2
                    refine ⟨_, rfl, rfl, ?_⟩
                    clear ho hall hr hv2 un
                    unfold Oper.wp
                    go_simp
                    exact ⟨_, rfl, rfl, Below.refl _ _⟩
                  | 4, _ =>
                    obtain rfl := Option.some.inj ho
                    refine ⟨_, rfl, rfl, ?_⟩
                    clear ho hall hr  un
                    unfold Oper.wp
                    go_simp
                    exact ⟨_, rfl, rfl, Below.refl _ _⟩
                  | 5, _ =>
                    obtain rfl := Option.some.inj ho
                    have h4 := getD_both_true (hall ⟨4, .data⟩ (by simp) rfl)
                    obtain ⟨v4, hv4, hr4⟩ := un.got 4 (by simp) h4
                    obtain rfl := hr4
                    have s4 := slot_of (j := 80) hv4
                    refine ⟨_, rfl, rfl, ?_⟩
                    clear ho hall hr hv4 un
                    unfold Oper.wp
                    go_simp
                    exact ⟨_, rfl, rfl, Below.refl _ _⟩
                  | 6, _ =>
                    obtain rfl := Option.some.inj ho
                    refine ⟨_, rfl, rfl, ?_⟩
                    clear ho hall hr  un
                    unfold Oper.wp
                    go_simp
                    exact ⟨_, rfl, rfl, Below.refl _ _⟩
                  | 7, _ =>
                    obtain rfl := Option.some.inj ho
                    refine ⟨_, rfl, rfl, ?_⟩
                    clear ho hall hr  un
                    unfold Oper.wp
                    go_simp
                    exact ⟨_, rfl, rfl, Below.refl _ _⟩
                  | 8, _ =>
                    obtain rfl := Option.some.inj ho
                    have h7 := getD_both_true (hall ⟨7, .data⟩ (by simp) rfl)
                    obtain ⟨v7, hv7, hr7⟩ := un.got 7 (by simp) h7
                    obtain rfl := hr7
                    have s7 := slot_of (j := 83) hv7
                    refine ⟨_, rfl, rfl, ?_⟩
                    clear ho hall hr hv7 un
                    unfold Oper.wp
                    go_simp
                    refine (CLK.out _).mono ?_
                    rintro e w2 ⟨rfl, rfl⟩
                    exact ⟨_, rfl, rfl, Below.refl _ _⟩
                  | 9, _ =>
                    obtain rfl := Option.some.inj ho
                    refine ⟨_, rfl, rfl, ?_⟩
                    clear ho hall hr  un
                    unfold Oper.wp
                    go_simp
                    exact ⟨_, rfl, rfl, Below.refl _ _⟩
                  | 10, _ =>
                    obtain rfl := Option.some.inj ho
                    have h8 := getD_both_true (hall ⟨8, .data⟩ (by simp) rfl)
                    obtain ⟨v8, hv8, hr8⟩ := un.got 8 (by simp) h8
                    obtain rfl := hr8
                    have s8 := slot_of (j := 84) hv8
                    have h9 := getD_both_true (hall ⟨9, .data⟩ (by simp) rfl)
                    obtain ⟨v9, hv9, hr9⟩ := un.got 9 (by simp) h9
                    obtain rfl := hr9
                    have s9 := slot_of (j := 85) hv9
                    refine ⟨_, rfl, rfl, ?_⟩
                    clear ho hall hr hv8 hv9 un
                    unfold Oper.wp
                    go_simp
                    exact ⟨_, rfl, rfl, Below.refl _ _⟩
                  | 11, _ =>
                    obtain rfl := Option.some.inj ho
                    refine ⟨_, rfl, rfl, ?_⟩
                    clear ho hall hr  un
                    unfold Oper.wp
                    go_simp
                    exact ⟨_, rfl, rfl, Below.refl _ _⟩
                  | 12, _ =>
                    obtain rfl := Option.some.inj ho
                    have h11 := getD_both_true (hall ⟨11, .data⟩ (by simp) rfl)
                    obtain ⟨v11, hv11, hr11⟩ := un.got 11 (by simp) h11
                    obtain rfl := hr11
                    have s11 := slot_of (j := 87) hv11
                    refine ⟨_, rfl, rfl, ?_⟩
                    clear ho hall hr hv11
                    unfold Oper.wp
                    go_simp
                    refine (ORD.out _ un.bel).mono ?_
                    rintro e w2 ⟨a0, c0, rfl, ho, hBx⟩
                    exact ⟨_, rfl, ⟨a0, c0, rfl, ho⟩, hBx⟩
                  | 13, _ =>
                    obtain rfl := Option.some.inj ho
                    have h1 := getD_both_true (hall ⟨1, .data⟩ (by simp) rfl)
                    obtain ⟨v1, hv1, hr1⟩ := un.got 1 (by simp) h1
                    obtain rfl := hr1
                    have s1 := slot_of (j := 77) hv1
                    have h3 := getD_both_true (hall ⟨3, .data⟩ (by simp) rfl)
                    obtain ⟨v3, hv3, hr3⟩ := un.got 3 (by simp) h3
                    obtain rfl := hr3
                    have s3 := slot_of (j := 79) hv3
                    have h5 := getD_both_true (hall ⟨5, .data⟩ (by simp) rfl)
                    obtain ⟨v5, hv5, hr5⟩ := un.got 5 (by simp) h5
                    obtain rfl := hr5
                    have s5 := slot_of (j := 81) hv5
                    have h6 := getD_both_true (hall ⟨6, .data⟩ (by simp) rfl)
                    obtain ⟨v6, hv6, hr6⟩ := un.got 6 (by simp) h6
                    obtain rfl := hr6
                    have s6 := slot_of (j := 82) hv6
                    have h10 := getD_both_true (hall ⟨10, .data⟩ (by simp) rfl)
                    obtain ⟨v10, hv10, hr10⟩ := un.got 10 (by simp) h10
                    obtain rfl := hr10
                    have s10 := slot_of (j := 86) hv10
                    have h12 := getD_both_true (hall ⟨12, .data⟩ (by simp) rfl)
                    obtain ⟨v12, hv12, hr12⟩ := un.got 12 (by simp) h12
                    have s12 := slot_of (j := 88) hv12
                    obtain ⟨a0, c0, rfl, hL⟩ := hr12
                    refine ⟨_, rfl, rfl, ?_⟩
                    clear ho hall hr hv1 hv3 hv5 hv6 hv10 hv12 un
                    unfold Oper.wp
                    go_simp
                    exact ⟨_, rfl, ⟨a0, c0, rfl, hL⟩, Below.refl _ _⟩
                  | 14, _ =>
                    obtain rfl := Option.some.inj ho
                    refine ⟨_, rfl, rfl, ?_⟩
                    clear ho hall hr 
                    unfold Oper.wp
                    go_simp
                    exact ⟨_, rfl, ⟨_, rfl, un.big, row_new _ rfl⟩, Below.alloc (Below.refl _ _) (Nat.le_refl _) _⟩
                · have h13 : ∃ (a0 : Option Addr) (c0 : Nat), V 13 = .agg #[.string (bs x.n), .int .i64 x.t, .int .i64 x.c, .int .i64 rank, .int .i64 0, .int .i64 ex, .string ⟨#[]⟩, .slice a0 (orderP ds).length c0] ∧ OwnL w' w.heap.size (.slice a0 (orderP ds).length c0) (orderP ds) := hV 13 (by omega)
                  have h14 : ∃ gb : Nat, V 14 = .pointer (some ⟨gb, 0, none⟩) ∧ wt.heap.size ≤ gb ∧ w'.heap[gb]? = some (.cells #[.string ⟨#[]⟩, .int .i64 0, .int .i64 0, .int .i64 0, .int .i64 0, .int .i64 0, .string ⟨#[]⟩, .slice none 0 0] 29 (0, 0)) := hV 14 (by omega)
                  obtain ⟨a0, c0, u13, hL0⟩ := h13
                  obtain ⟨gb, u14, hgb, hrb⟩ := h14
                  simp only [putAll, Act.put, u13, u14, reduceIte, Nat.reduceEqDiff, Nat.reduceAdd, List.setIfInBounds_toArray, List.set_cons_succ, List.set_cons_zero, List.drop_succ_cons, List.drop_zero]
                  generalize V 0 = y0, V 1 = y1, V 2 = y2, V 3 = y3, V 4 = y4, V 5 = y5, V 6 = y6, V 7 = y7, V 8 = y8, V 9 = y9, V 10 = y10, V 11 = y11, V 12 = y12
                  clear hV u13 u14
                  have STF := storeSt_row (D := #[.string (bs x.n), .int .i64 x.t, .int .i64 x.c, .int .i64 rank, .int .i64 0, .int .i64 ex, .string ⟨#[]⟩, .slice a0 (orderP ds).length c0]) hrb info_st rfl (by simp [Value.oneCell'])
                  obtain ⟨D, hD⟩ : ∃ D : Array Value, D = #[.string (bs x.n), .int .i64 x.t, .int .i64 x.c, .int .i64 rank, .int .i64 0, .int .i64 ex, .string ⟨#[]⟩, .slice a0 (orderP ds).length c0] := ⟨_, rfl⟩
                  rw [← hD] at STF ⊢
                  have oF := hL0.keptE (grownBy_setRow (w := w') (g := gb) D) (elsewhere_cells hrb (by decide)) (elsewhere_cells hrb (by decide))
                  have rF := setRow_heap _ _ _ D _ _ hrb
                  have bF : Below wt.heap.size wt (w'.setRow gb D) := Below.setRow hB hgb _
                  have HO5 := Lib.hid (HOt.out.below bF)
                  have HB5 := Lib.hid (Below.trans HBt.out (bF.mono HBt.out.size))
                  have hDS : D = stC S a0 c0 := hD.trans (HS8.out _ _).symm
                  have hSl : S.ds.length = (orderP ds).length := by rw [HSD.out]
                  have by5 : Byss (w'.setRow gb D) a0 S.ds := by
                    obtain ⟨A', c', e, h, -⟩ := oF.byss
                    injection e with e1 _ _
                    subst e1
                    rw [HSD.out]
                    exact h.byss
                  have CN := Lib.hid (dCan8_any S a0 c0 (w'.setRow gb D) by5 (by rw [hSl]; exact HOL.out))
                  rw [← hDS] at CN
                  have I5 : (Try.prog.info? 29).map (·.size) = some D.size := by rw [hD]; exact info_st
                  have LD5 := loadSt_row rF I5
                  have oF2 : OwnL (w'.setRow gb D) w.heap.size (.slice a0 S.ds.length c0) S.ds := by rw [HSD.out]; exact oF
                  have HL5 := Lib.hid oF2
                  have RF := Lib.hid rF
                  have HI5 := Lib.hid I5
                  have HDS := Lib.hid hDS
                  clear hL0 hrb oF rF bF hSl by5 I5 oF2 hDS hD hB hs F0 F1 F2 CLK ORD hwr HOt HBt
                  generalize w'.setRow gb D = W5 at *
                  go_wp2_with fail
                  refine CN.out.mono ?_
                  rintro e w6 ⟨rfl, b6⟩
                  have HO6 := Lib.hid (HO5.out.below b6)
                  have HL6 := Lib.hid (HL5.out.below b6)
                  have HB6 := Lib.hid (Below.trans HB5.out (b6.mono HB5.out.size))
                  have r6 := (b6.block _ (Array.getElem?_eq_some_iff.1 RF.out).1).trans RF.out
                  have LD6 := loadSt_row r6 HI5.out
                  clear b6 r6 HO5 HL5 HB5 RF CN LD5 STF
                  cases hcs : canS S with
                  | false =>
                    have HF : Hid (outD rank now L (firstsP ((L.take (j + 1)).filter canRR)) = acc) := Lib.hid (by rw [HNX.out, hcs]; simp)
                    clear LD6
                    go_wp2_with fail
                    go_roundw
                    case rel => exact ⟨j + 1, by go_num, by omega, (by rw [HF.out]; exact HO6), HB6.out⟩
                    case measure => simp [intOf]; omega
                  | true =>
                    have HF : Hid (outD rank now L (firstsP ((L.take (j + 1)).filter canRR)) = acc ++ [S]) := Lib.hid (by rw [HNX.out, hcs]; simp)
                    have HBW : Hid (w.heap.size ≤ w6.heap.size) := Lib.hid HB6.out.size
                    have hDl : D = #[.string (bs S.n), .int .i64 S.t, .int .i64 S.c, .int .i64 S.rk, .int .i64 S.kd, .int .i64 S.ex, .string (bs S.z), .slice a0 S.ds.length c0] := HDS.out
                    rw [hDl] at LD6
                    clear hDl
                    go_wp2_with (first
                      | (at_builtin; refine wpList_snocS rfl _ _ rfl w.heap.size _ acc rfl HO6.out rfl S a0 c0 _ rfl HL6.out HLB.out HBW.out ?_)
                      | fail)
                    intro v7 w7 o7 b7
                    have HO7 := Lib.hid o7
                    have HB7 := Lib.hid (Below.trans HB6.out b7)
                    clear o7 b7 HO6 HL6 HB6 HBW LD6
                    go_wp2_with fail
                    go_roundw
                    case rel => exact ⟨j + 1, by go_num, by omega, (by rw [HF.out]; exact HO7), HB7.out⟩
                    case measure => simp [intOf]; omega
    · have hlt' : ¬ (i : Int) < (n : Int) := by omega
      obtain rfl : i = n := by omega
      have hO := HO.out
      rw [HN.out, List.take_length, outD_all] at hO
      have HF := Lib.hid hO
      have HBF := Lib.hid hB
      clear HO hO hB
      go_wp2_with fail
      go_ret
      exact ⟨_, rfl, HF.out, HBF.out⟩
end Go.Proofs.Ytbeggckkgaoacaa
