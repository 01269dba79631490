/-
  The document's Paired.
-/
import Derived.Test.YtkihlcecjcjmlaaAuG
import Derived.Deep.RegionHeld3
namespace Go.Proofs.Ytkihlcecjcjmlaa
open Go.RowKit
set_option linter.unusedVariables false
set_option maxRecDepth 100000

noncomputable def loadEv (v : Value) (w : World) : Result Next := ((Instr.loadAt 31 v).run Try.prog w).andThen fun a w' => .ok (.value a) w'
theorem exec_loadEv (ev : Operand → Value) (d : Option Tmp) (x : Operand) (t : TypeId) (p : String) (f : Array Edge) (gd : Option (Nat × Bool)) (w : World) : (execOp ev { dst := d, op := .load 31 x, type := t, pos := p, after := f, guard := gd }).run Try.prog w = loadEv (ev x) w := by
  unfold execOp loadEv
  simp only [Sem.run_bind, Sem.run_pure]
theorem loadEv_mid {w1 : World} {g o : Nat} {l : List Value} (h : w1.rangeAt g o l) (hC : (Try.prog.info? 31).map (·.size) = some l.length) : loadEv (.pointer (some ⟨g, o, none⟩)) w1 = .ok (.value (.agg l.toArray)) w1 := by
  unfold loadEv
  rw [run_loadAt_mid w1 g o 31 l _ h Try.underlying31 rfl hC]
  rfl
theorem loadEv_row {w1 : World} {g : Nat} {C : Array Value} (h : w1.heap[g]? = some (.cells C 31 (0, 0))) (hC : (Try.prog.info? 31).map (·.size) = some C.size) : loadEv (.pointer (some ⟨g, 0, none⟩)) w1 = .ok (.value (.agg C)) w1 := by
  unfold loadEv
  simp only [Instr.loadAt, Instr.sureAddr, Sem.run_bind, Sem.run_pure, Result.andThen_ok, run_loadVar_row w1 g 31 31 C (0, 0) _ h Try.underlying31 rfl hC]
attribute [local go_sem ↓] exec_loadEv

theorem info_bool : (Try.prog.info? 4).map (fun i => (i.zero, i.size, i.bytes)) = some (some (.bool false), 1, 1) := by kernel_rfl
/-- Which are done, in memory. -/
def DnR (w : World) (g : Nat) (dn : List Bool) : Prop := w.heap[g]? = some (.cells (dn.map Value.bool).toArray 4 (0, 0))
theorem DnR.at {w : World} {g : Nat} {dn : List Bool} (h : DnR w g dn) {j : Nat} (hj : j < dn.length) : w.cell? ⟨g, j, none⟩ = some (.bool (dn.getD j false)) := by
  refine (cell_of_row _ _ _ _ _ _ h).trans ?_
  simp [hj]
theorem DnR.set {w : World} {g : Nat} {dn : List Bool} (h : DnR w g dn) (j : Nat) : DnR (w.setCell ⟨g, j, none⟩ (.bool true)) g (dn.set j true) := by
  unfold DnR
  have := row_set (i := j) (.bool true) h
  rw [this]
  congr 2
  simp [List.map_set]
theorem DnR.below {w w' : World} {g : Nat} {dn : List Bool} (h : DnR w g dn) (hB : Below w.heap.size w w') : DnR w' g dn := (hB.block _ (Array.getElem?_eq_some_iff.1 h).1).trans h
theorem run_makeB (m : Nat) (hm : m ≤ 1000000) (w : World) : (Instr.makeSlice 42 (.int .i64 m) (.int .i64 m)).run Try.prog w = .ok (.slice (some ⟨w.heap.size, 0, none⟩) m m) (w.alloc (.cells ((List.replicate m false).map Value.bool).toArray 4)) := by
  obtain ⟨i0, hi, hz0, hz1, hz2⟩ := info_parts info_bool
  have h := run_make (P := Try.prog) w 42 4 i0 (.bool false) Try.underlying42 hi hz0 .i64 .i64 m m (by omega) (by omega) (by rw [hz2]; omega) (by omega)
  rw [hz1] at h
  have e : madeCells #[.bool false] m = ((List.replicate m false).map Value.bool).toArray := by
    apply Array.ext'; rw [toList_madeCells_one]; simp
  rw [← e]
  simpa [Value.cells] using h
theorem may_at {L : List Ev} {dn : List Bool} {r x : Ev} {j : Nat} (hj : j < L.length) (hx : x = L[j]) : may L dn r j = (!(dn.getD j false) && pairsE x r) := by
  unfold may
  rw [List.getElem?_eq_getElem hj, hx]
theorem fnd_step (p : Nat → Bool) (i m j : Nat) (hj : j = i - 1 - m) : fnd p i (m + 1) = if p j then (j : Int) else fnd p i m := by
  subst hj; rfl

set_option maxHeartbeats 4000000 in
set_option maxRecDepth 100000 in
theorem pairedR_any (A : Option Addr) (L : List Ev) (c : Nat) (w : World) (hS : Evs w A L) (hl : L.length ≤ 1000000) :
    Calls Try.prog 7 #[.slice A L.length c] w fun e w' => e = .returned (.bool (pairedP L)) ∧ Below w.heap.size w w' := by
  obtain ⟨n, hn⟩ : ∃ n, n = L.length := ⟨_, rfl⟩
  have hmk := run_makeB n (by omega) w
  have D0 : Hid (DnR (w.alloc (.cells ((List.replicate n false).map Value.bool).toArray 4)) w.heap.size (List.replicate n false)) := Lib.hid (row_new _ rfl)
  have B0 : Hid (Below w.heap.size w (w.alloc (.cells ((List.replicate n false).map Value.bool).toArray 4))) := Lib.hid (Below.alloc (Below.refl _ _) (Nat.le_refl _) _)
  have I0 : Hid (Inv L (List.replicate n false) 0) := Lib.hid (by rw [hn]; exact Inv.start L)
  rw [← hn]
  rw [← hn] at hl
  have HN := Lib.hid hn
  have HS := Lib.hid hS
  generalize ((List.replicate n false).map Value.bool).toArray = Z at *
  clear hn hS
  go_enter Try.func7, Try.ntmps7
  go_wp2_with fail
  clear hmk
  go_loopw [13] (fun v13 wr => ∃ (k : Nat) (dn : List Bool), v13 = .int .i64 k ∧ k ≤ n ∧ Hid (Inv L dn k) ∧ Hid (DnR wr w.heap.size dn) ∧ Hid (Below w.heap.size w wr)) (fun v13 _ => n - (intOf v13).toNat)
  case atStart => exact ⟨0, _, rfl, by omega, I0, D0, B0⟩
  case round =>
    obtain ⟨k, dn, rfl, hk, HI, HD, HB⟩ := hrel
    rename World => wr
    clear I0 D0 B0
    by_cases hlt : k < n
    · have hlt' : (k : Int) < (n : Int) := by omega
      have kL : k < L.length := by have := HN.out; omega
      obtain ⟨g1, o1, rfl, hc1⟩ := id HS.out (by omega)
      obtain ⟨v, E1, R1⟩ := hc1 k kL
      have R1' := range_on R1 HB.out
      have IQ := Lib.hid (fun h => HI.out.query kL h)
      have IB := Lib.hid (fun h => HI.out.bad kL h)
      have IR := Lib.hid (fun h (q : Nat) => HI.out.reply kL h (k := q))
      obtain ⟨x, hx⟩ : ∃ x, x = L[k] := ⟨_, rfl⟩
      rw [← hx] at R1' IQ IB IR E1
      have HE1 := Lib.hid (E1.on HB.out)
      have hsz := HB.out.size
      have i1 : Hid ((Try.prog.info? 31).map (·.size) = some (evC x v).size) := Lib.hid info_ev
      have j1 : Hid ((Try.prog.info? 31).map (·.size) = some (evL x v).length) := Lib.hid info_ev
      have one1 := Lib.hid (ev_one x v)
      have z1 : Hid ((#[.bool false, .int .i64 0, .int .i64 0, .int .i64 0, .bool false, .int .i64 0, .bool false, .bool false, .bool false, .bool false, .int .i64 0, .slice none 0 0, .slice none 0 0, .slice none 0 0, .slice none 0 0] : Array Value).size = (evC x v).size) := Lib.hid rfl
      have rZ := row_new (w := wr) (k := wr.heap.size) (.cells #[.bool false, .int .i64 0, .int .i64 0, .int .i64 0, .bool false, .int .i64 0, .bool false, .bool false, .bool false, .bool false, .int .i64 0, .slice none 0 0, .slice none 0 0, .slice none 0 0, .slice none 0 0] 31 (0, 0)) rfl
      have r5 := setRow_heap _ _ _ (evC x v) _ _ rZ
      have q1 : Below wr.heap.size wr ((wr.alloc (.cells #[.bool false, .int .i64 0, .int .i64 0, .int .i64 0, .bool false, .int .i64 0, .bool false, .bool false, .bool false, .bool false, .int .i64 0, .slice none 0 0, .slice none 0 0, .slice none 0 0, .slice none 0 0] 31 (0, 0))).setRow wr.heap.size (evC x v)) := Below.setRow (Below.alloc (Below.refl _ _) (Nat.le_refl _) _) (Nat.le_refl _) _
      obtain ⟨W1, hW1⟩ : ∃ W1, W1 = (wr.alloc (.cells #[.bool false, .int .i64 0, .int .i64 0, .int .i64 0, .bool false, .int .i64 0, .bool false, .bool false, .bool false, .bool false, .int .i64 0, .slice none 0 0, .slice none 0 0, .slice none 0 0, .slice none 0 0] 31 (0, 0))).setRow wr.heap.size (evC x v) := ⟨_, rfl⟩
      rw [← hW1] at r5 q1
      obtain ⟨c0, -, -, -⟩ := ev_cell r5
      have HW1 := Lib.hid hW1
      have R5 := Lib.hid r5
      have D1 := Lib.hid (HD.out.below q1)
      have IC : Hid ((Try.prog.info? 31).map (·.size) = some (evC x v).size) := Lib.hid info_ev
      have B1 := Lib.hid (Below.trans HB.out (q1.mono hsz))
      have HEV := Lib.hid (HE1.out.on q1)
      have HLN := Lib.hid HI.out.len
      have PR := Lib.hid (fun (a : Ev) (u : EV) (W : World) (h : EvAt W a u) (h2 : EvAt W x v) => pairs_any a x u v W h h2)
      obtain ⟨C, hC⟩ : ∃ C, C = evC x v := ⟨_, rfl⟩
      obtain ⟨l1, hl1⟩ : ∃ l1, l1 = evL x v := ⟨_, rfl⟩
      have hCl : C = l1.toArray := by rw [hC, hl1]; rfl
      rw [← hl1] at R1' j1
      rw [← hC] at i1 one1 z1 HW1 R5 PR IC
      have HCL := Lib.hid hCl
      clear hc1 E1 R1 r5 q1 hW1 hC hl1 hCl hx HB HD HI
      cases hrep : x.rep with
      | false =>
        rw [hrep] at c0
        have I2 := Lib.hid (IQ.out hrep)
        clear hrep IQ IB IR PR
        go_wp2_with (first
          | (refine wpList_load_mid rfl 31 (.tmp 16) rfl g1 (o1 + k * 15) rfl l1 _ R1' Try.underlying31 rfl j1.out ?_; rw [← HCL.out])
          | (refine wpList_store_row rfl 31 (.tmp 5) (.tmp 17) rfl wr.heap.size C rfl rfl 31 _ rZ i1.out (by first | exact z1.out | exact z1.out.symm) one1.out ?_; rw [← HW1.out])
          | fail)
        go_roundw
        case rel => exact ⟨k + 1, dn, by go_num, by omega, I2, D1, B1⟩
        case measure => simp [intOf]; omega
      | true =>
        rw [hrep] at c0
        have IB2 := Lib.hid (IB.out hrep)
        have IR2 := Lib.hid (IR.out hrep)
        clear hrep IQ IB IR
        have hkm : -9223372036854775808 ≤ (k : Int) - 1 ∧ (k : Int) - 1 ≤ 9223372036854775807 := by omega
        go_wp2_with (first
          | (refine wpList_load_mid rfl 31 (.tmp 16) rfl g1 (o1 + k * 15) rfl l1 _ R1' Try.underlying31 rfl j1.out ?_; rw [← HCL.out])
          | (refine wpList_store_row rfl 31 (.tmp 5) (.tmp 17) rfl wr.heap.size C rfl rfl 31 _ rZ i1.out (by first | exact z1.out | exact z1.out.symm) one1.out ?_; rw [← HW1.out])
          | fail)
        clear R1' rZ j1 i1 one1 z1 HW1 HCL c0 hkm
        go_loopw [6, 7] (fun v6 v7 wq => ∃ m : Nat, m ≤ k ∧ v6 = .int .i64 (fnd (may L dn x) k m) ∧ v7 = .int .i64 ((k : Int) - 1 - m) ∧ Hid (Below W1.heap.size W1 wq)) (fun _ v7 _ => (intOf v7 + 1).toNat)
        case atStart => exact ⟨0, by omega, rfl, by simp, Lib.hid (Below.refl _ _)⟩
        case round =>
          obtain ⟨m, hm, rfl, rfl, HQ⟩ := hrel
          rename World => wq
          by_cases hmk : m < k
          · obtain ⟨j, hj⟩ : ∃ j, j = k - 1 - m := ⟨_, rfl⟩
            have hji : (k : Int) - 1 - m = (j : Int) := by omega
            have hjk : j < k := by omega
            have hjL : j < L.length := by omega
            have FS := Lib.hid (fnd_step (may L dn x) k m j hj)
            obtain ⟨g2, o2, e2, hc2⟩ := id HS.out (by omega)
            injection e2 with e2
            injection e2 with e2a e2b _
            subst e2a e2b
            obtain ⟨u, E2, R2⟩ := hc2 j hjL
            have HMJ := Lib.hid (may_at (dn := dn) (r := x) hjL rfl)
            have bq := Below.trans B1.out (HQ.out.mono B1.out.size)
            have R2' := range_on R2 bq
            have E2' := E2.on bq
            have E3 := HEV.out.on HQ.out
            have r53 := (HQ.out.block _ (Array.getElem?_eq_some_iff.1 R5.out).1).trans R5.out
            have cd := ((D1.out.below HQ.out).at (j := j) (by rw [HLN.out]; exact hjL))
            obtain ⟨y, hy⟩ : ∃ y, y = L[j] := ⟨_, rfl⟩
            rw [← hy] at R2' E2' HMJ
            have hjn : (j : Int) < (n : Int) := by omega
            have hj0 : (0 : Int) ≤ (j : Int) := by omega
            have hw : IntKind.i64.wrap ((j : Int) - 1) = (k : Int) - 1 - ((m + 1 : Nat) : Int) := by rw [IntWalk.i64_in _ (by omega)]; omega
            have HJI := Lib.hid hji
            rw [hji]
            cases hd : dn.getD j false with
            | true =>
              rw [hd] at cd HMJ
              have FT : Hid (fnd (may L dn x) k (m + 1) = fnd (may L dn x) k m) := Lib.hid (by rw [FS.out, HMJ.out]; simp)
              clear hd FS HMJ hj hy E2 R2 hc2 R2' E2' E3 r53 bq hji PR hw
              obtain ⟨f, hf⟩ : ∃ f, f = fnd (may L dn x) k m := ⟨_, rfl⟩
              rw [← hf] at FT ⊢
              clear hf
              go_wp2_with fail
              go_quiet (fail)
              go_wp2_with fail
              go_roundw
              case rel => exact ⟨m + 1, by omega, by rw [FT.out], by rw [show (j : Int) - 1 = (k : Int) - 1 - ((m + 1 : Nat) : Int) by have := HJI.out; omega], Lib.hid (below_drewN HQ.out _)⟩
              case measure => simp [intOf]
            | false =>
              rw [hd] at cd HMJ
              have L1 := fun (W : World) (h : Below wq.heap.size wq W) => loadEv_mid (l := evL y u) (range_on R2' h) info_ev
              have L2 := fun (W : World) (h : Below wq.heap.size wq W) => loadEv_row ((h.block _ (Array.getElem?_eq_some_iff.1 r53).1).trans r53) (by have := R5.out; exact IC.out)
              have SM := Lib.hid (fun (W : World) (h : Below wq.heap.size wq W) => PR.out y u W (E2'.on h) (E3.on h))
              obtain ⟨Y, hY⟩ : ∃ Y, Y = evC y u := ⟨_, rfl⟩
              have hY2 : (evL y u).toArray = Y := by rw [hY]; rfl
              rw [hY2] at L1
              rw [← hY] at SM
              have hs4 : Below wq.heap.size wq wq := Below.refl _ _
              have hs5 : Below wq.heap.size wq wq.drew := Below.drew hs4
              have cdd : wq.drew.cell? ⟨w.heap.size, j, none⟩ = some (.bool false) := cd
              obtain ⟨f, hf⟩ : ∃ f, f = fnd (may L dn x) k m := ⟨_, rfl⟩
              obtain ⟨b, hb⟩ : ∃ b, b = pairsE y x := ⟨_, rfl⟩
              rw [← hb] at SM HMJ
              have FT : Hid (fnd (may L dn x) k (m + 1) = if b = true then (j : Int) else f) := Lib.hid (by rw [FS.out, HMJ.out, hf]; simp)
              rw [← hf]
              clear hd FS HMJ hj hy E2 R2 hc2 R2' E2' E3 r53 bq hji PR hw hY hY2 hf hb
              go_wp2_with fail
              go_region_held3 (fun w' => Below wq.heap.size wq w' ∧ w'.cell? ⟨w.heap.size, j, none⟩ = some (.bool false))
                (refine ⟨?_, ?_⟩ <;> first | assumption | exact Below.drew (by assumption) | exact hX9 | exact cell_on cd hX9)
                (first
                  | (go_at_call 10; (with_reducible refine (SM.out _ (by assumption)).mono ?_); rintro e w9 ⟨rfl, hBx⟩; have hX9 : Below wq.heap.size wq w9 := (by first | exact Below.trans hs4 hBx | exact Below.trans (Below.drew hs4) (Below.mono hBx (Below.drew hs4).size))))
              have HQ9 := Lib.hid (Below.trans HQ.out (hX9.mono HQ.out.size))
              clear L1 L2 SM hs4 hs5 hX9 hBx cdd cd
              cases b with
              | true =>
                go_wp2_with fail
                go_roundw
                case rel => exact ⟨m + 1, by omega, by rw [FT.out]; rfl, by rw [show (j : Int) - 1 = (k : Int) - 1 - ((m + 1 : Nat) : Int) by have := HJI.out; omega], HQ9⟩
                case measure => simp [intOf]
              | false =>
                go_wp2_with fail
                go_roundw
                case rel => exact ⟨m + 1, by omega, by rw [FT.out]; rfl, by rw [show (j : Int) - 1 = (k : Int) - 1 - ((m + 1 : Nat) : Int) by have := HJI.out; omega], HQ9⟩
                case measure => simp [intOf]
          · obtain rfl : m = k := by omega
            have hneg : ¬ ((m : Int) - 1 - m ≥ 0) := by omega
            have hb := fnd_lt (may L dn x) m m (Nat.le_refl _)
            obtain ⟨f, hf⟩ : ∃ f, f = fnd (may L dn x) m m := ⟨_, rfl⟩
            rw [← hf] at IB2 IR2 hb ⊢
            have D2 := Lib.hid (D1.out.below HQ.out)
            have B2 := Lib.hid (Below.trans B1.out (HQ.out.mono B1.out.size))
            rw [show (m : Int) - 1 - m = -1 by omega]
            clear hf PR hneg
            by_cases hf0 : f < 0
            · have HF := Lib.hid (IB2.out hf0)
              clear IB2 IR2
              go_wp2_with fail
              go_ret
              exact ⟨by rw [HF.out]; rfl, B2.out⟩
            · obtain ⟨q, rfl⟩ : ∃ q : Nat, f = (q : Int) := ⟨f.toNat, by omega⟩
              obtain ⟨q1, q2⟩ := IR2.out q rfl
              have cq := D2.out.at (j := q) (by rw [HLN.out]; exact q1)
              have hqn : (q : Int) < (n : Int) := by have := HN.out; omega
              have D3 := Lib.hid (D2.out.set q)
              have B3 := Lib.hid (Below.setCell (p := ⟨w.heap.size, q, none⟩) B2.out (Nat.le_refl _) (.bool true))
              have I3 := Lib.hid q2
              have fz : wq.frozen? ⟨w.heap.size, q, none⟩ = false := frozen_of_row _ _ _ _ _ D2.out
              clear IB2 IR2 q1 q2 hb
              go_wp2_with fail
              go_roundw
              case rel => exact ⟨m + 1, dn.set q true, by go_num, by omega, I3, D3, B3⟩
              case measure => simp [intOf]; omega
    · have hlt' : ¬ (k : Int) < (n : Int) := by omega
      obtain rfl : k = n := by omega
      have HF : Hid (pairedP L = true) := Lib.hid ((pairedP_iff L).2 (fun i hi => HI.out.ok i hi (by rw [HN.out]; exact hi)))
      clear HI HD HS
      go_wp2_with fail
      go_ret
      exact ⟨by rw [HF.out]; rfl, HB.out⟩
end Go.Proofs.Ytkihlcecjcjmlaa
