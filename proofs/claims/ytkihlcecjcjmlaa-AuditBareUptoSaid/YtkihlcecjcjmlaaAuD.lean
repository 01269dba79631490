/-
  The landed Paired.
-/
import Derived.Test.YtkihlcecjcjmlaaAuC
namespace Go.Proofs.Ytkihlcecjcjmlaa
open Go.RowKit Go.Maps
set_option linter.unusedVariables false
set_option maxRecDepth 100000

noncomputable def loadAk (v : Value) (w : World) : Result Next := ((Instr.loadAt 39 v).run Try.prog w).andThen fun a w' => .ok (.value a) w'
theorem exec_loadAk (ev : Operand → Value) (d : Option Tmp) (x : Operand) (t : TypeId) (p : String) (f : Array Edge) (gd : Option (Nat × Bool)) (w : World) : (execOp ev { dst := d, op := .load 39 x, type := t, pos := p, after := f, guard := gd }).run Try.prog w = loadAk (ev x) w := by
  unfold execOp loadAk
  simp only [Sem.run_bind, Sem.run_pure]
theorem loadAk_row {w1 : World} {g : Nat} {C : Array Value} (h : w1.heap[g]? = some (.cells C 39 (0, 0))) (hC : (Try.prog.info? 39).map (·.size) = some C.size) : loadAk (.pointer (some ⟨g, 0, none⟩)) w1 = .ok (.value (.agg C)) w1 := by
  unfold loadAk
  simp only [Instr.loadAt, Instr.sureAddr, Sem.run_bind, Sem.run_pure, Result.andThen_ok, run_loadVar_row w1 g 39 39 C (0, 0) _ h Try.underlying39 rfl hC]
attribute [local go_sem ↓] exec_loadAk

/-- What a round does with the numbers. -/
theorem cnt_step {L : List Ev} {k : Nat} (h : k < L.length) (a : Ask) : cntE (L.take (k + 1)) a = if askE L[k] = some a then (if L[k].rep then cntE (L.take k) a - 1 else cntE (L.take k) a + 1) else cntE (L.take k) a := by
  rw [List.take_succ_eq_append_getElem h, cntE_snoc]

set_option maxHeartbeats 4000000 in
set_option maxRecDepth 100000 in
theorem paired_any (A : Option Addr) (L : List Ev) (c : Nat) (w : World) (hS : Evs w A L) (hl : L.length ≤ 1000000) :
    Calls Try.prog 6 #[.slice A L.length c] w fun e w' => e = .returned (.bool (pairedP L)) ∧ Below w.heap.size w w' := by
  obtain ⟨n, hn⟩ : ∃ n, n = L.length := ⟨_, rfl⟩
  rw [← hn]
  rw [← hn] at hl
  have HN := Lib.hid hn
  have HS := Lib.hid hS
  have P0 := Lib.hid (CtM.new w)
  have B0 : Hid (Below w.heap.size w (w.alloc (.map #[] 0))) := Lib.hid (Below.alloc (Below.refl _ _) (Nat.le_refl _) _)
  have hmm := @run_makeMap Try.prog
  clear hn hS
  go_enter Try.func6, Try.ntmps6
  go_wp2_with fail
  clear hmm
  go_loopw [11] (fun v11 wr => ∃ k : Nat, v11 = .int .i64 k ∧ k ≤ n ∧ Hid (CtM wr w.heap.size k (cntE (L.take k))) ∧ Hid (Below w.heap.size w wr) ∧ Hid (∀ i (h : i < L.length), i < k → okE (L.take i) L[i] = true)) (fun v11 _ => n - (intOf v11).toNat)
  case atStart => exact ⟨0, rfl, by omega, P0, B0, Lib.hid (fun i _ h => absurd h (by omega))⟩
  case round =>
    obtain ⟨k, rfl, hk, HP, HB, HOK⟩ := hrel
    rename World => wr
    clear P0 B0
    by_cases hlt : k < n
    · have hlt' : (k : Int) < (n : Int) := by omega
      have kL : k < L.length := by have := HN.out; omega
      obtain ⟨g1, o1, rfl, hc1⟩ := id HS.out (by omega)
      obtain ⟨v, E1, R1⟩ := hc1 k kL
      have R1' := range_on R1 HB.out
      have CS := Lib.hid (cnt_step kL)
      have hbd := cntE_le (L.take k)
      rw [List.length_take] at hbd
      have HFA : Hid (okE (L.take k) L[k] = false → pairedP L = false) := Lib.hid (fun h => pairedP_false kL h)
      have HNX : Hid (okE (L.take k) L[k] = true → ∀ i (h : i < L.length), i < k + 1 → okE (L.take i) L[i] = true) := Lib.hid (fun h i hi hik => by
        by_cases e : i = k
        · subst e; exact h
        · exact HOK.out i hi (by omega))
      have E1' := E1.on HB.out
      obtain ⟨x, hx⟩ : ∃ x, x = L[k] := ⟨_, rfl⟩
      rw [← hx] at R1' E1' CS HFA HNX
      have hsz := HB.out.size
      have i1 : Hid ((Try.prog.info? 31).map (·.size) = some (evC x v).size) := Lib.hid info_ev
      have j1 : Hid ((Try.prog.info? 31).map (·.size) = some (evL x v).length) := Lib.hid info_ev
      have one1 := Lib.hid (ev_one x v)
      have z1 : Hid ((#[.bool false, .int .i64 0, .int .i64 0, .int .i64 0, .bool false, .int .i64 0, .bool false, .bool false, .bool false, .bool false, .int .i64 0, .slice none 0 0, .slice none 0 0, .slice none 0 0, .slice none 0 0] : Array Value).size = (evC x v).size) := Lib.hid rfl
      have rZ := row_new (w := wr) (k := wr.heap.size) (.cells #[.bool false, .int .i64 0, .int .i64 0, .int .i64 0, .bool false, .int .i64 0, .bool false, .bool false, .bool false, .bool false, .int .i64 0, .slice none 0 0, .slice none 0 0, .slice none 0 0, .slice none 0 0] 31 (0, 0)) rfl
      have r5 := setRow_heap _ _ _ (evC x v) _ _ rZ
      have q1 : Below wr.heap.size wr ((wr.alloc (.cells #[.bool false, .int .i64 0, .int .i64 0, .int .i64 0, .bool false, .int .i64 0, .bool false, .bool false, .bool false, .bool false, .int .i64 0, .slice none 0 0, .slice none 0 0, .slice none 0 0, .slice none 0 0] 31 (0, 0))).setRow wr.heap.size (evC x v)) := Below.setRow (Below.alloc (Below.refl _ _) (Nat.le_refl _) _) (Nat.le_refl _) _
      obtain ⟨W1, hW1⟩ : ∃ W1, W1 = (wr.alloc (.cells #[.bool false, .int .i64 0, .int .i64 0, .int .i64 0, .bool false, .int .i64 0, .bool false, .bool false, .bool false, .bool false, .int .i64 0, .slice none 0 0, .slice none 0 0, .slice none 0 0, .slice none 0 0] 31 (0, 0))).setRow wr.heap.size (evC x v) := ⟨_, rfl⟩
      rw [← hW1] at r5 q1
      have KO := Lib.hid (askOf_any x v W1 (E1'.on q1))
      have HEO := Lib.hid E1'.ok
      have HW1 := Lib.hid hW1
      have R5 := Lib.hid r5
      have Q1 := Lib.hid q1
      have EC := Lib.hid (fun (W : World) (h : W.heap[wr.heap.size]? = some (.cells (evC x v) 31 (0, 0))) => ev_cell h)
      obtain ⟨C, hC⟩ : ∃ C, C = evC x v := ⟨_, rfl⟩
      obtain ⟨l1, hl1⟩ : ∃ l1, l1 = evL x v := ⟨_, rfl⟩
      have hCl : C = l1.toArray := by rw [hC, hl1]; rfl
      rw [← hl1] at R1' j1
      rw [← hC] at i1 one1 z1 HW1 R5 KO EC
      have HCL := Lib.hid hCl
      have HBD := Lib.hid hbd
      clear hc1 E1 R1 E1' r5 q1 hW1 hC hl1 hCl hx hbd HOK HS
      go_wp2_with (first
        | (refine wpList_load_mid rfl 31 (.tmp 13) rfl g1 (o1 + k * 15) rfl l1 _ R1' Try.underlying31 rfl j1.out ?_; rw [← HCL.out])
        | (refine wpList_store_row rfl 31 (.tmp 5) (.tmp 14) rfl wr.heap.size C rfl rfl 31 _ rZ i1.out (by first | exact z1.out | exact z1.out.symm) one1.out ?_; rw [← HW1.out])
        | (refine wpList_load_row rfl 31 (.tmp 5) rfl wr.heap.size rfl 31 _ (0, 0) _ R5.out Try.underlying31 rfl i1.out ?_)
        | fail)
      refine KO.out.mono ?_
      rintro e w2 ⟨b2, D, b, rfl, hD7, hD1, hask⟩
      have sz1 : wr.heap.size < W1.heap.size := (Array.getElem?_eq_some_iff.1 R5.out).1
      have sz2 := b2.size
      have r52 := (b2.block _ sz1).trans R5.out
      have bw2 : Below w.heap.size w w2 := Below.trans (Below.trans HB.out (Q1.out.mono hsz)) (b2.mono (by omega))
      have bq2 : Below wr.heap.size wr w2 := Below.trans Q1.out (b2.mono (by omega))
      have rZ2 := row_new (w := w2) (k := w2.heap.size) (.cells #[.int .i64 0, .int .i64 0, .int .i64 0, .bool false, .string ⟨#[]⟩, .int .i64 0, .int .i64 0] 39 (0, 0)) rfl
      have r9 := setRow_heap _ _ _ D _ _ rZ2
      have q3 : Below w2.heap.size w2 ((w2.alloc (.cells #[.int .i64 0, .int .i64 0, .int .i64 0, .bool false, .string ⟨#[]⟩, .int .i64 0, .int .i64 0] 39 (0, 0))).setRow w2.heap.size D) := Below.setRow (Below.alloc (Below.refl _ _) (Nat.le_refl _) _) (Nat.le_refl _) _
      obtain ⟨W3, hW3⟩ : ∃ W3, W3 = (w2.alloc (.cells #[.int .i64 0, .int .i64 0, .int .i64 0, .bool false, .string ⟨#[]⟩, .int .i64 0, .int .i64 0] 39 (0, 0))).setRow w2.heap.size D := ⟨_, rfl⟩
      rw [← hW3] at r9 q3
      have r53 := (q3.block _ (by omega)).trans r52
      have bw3 := Below.trans bw2 (q3.mono bw2.size)
      have P3 := HP.out.below (Below.trans bq2 (q3.mono (by omega)))
      obtain ⟨c0, -, c4, c9⟩ := EC.out W3 r53
      have HW3 := Lib.hid hW3
      have R9 := Lib.hid r9
      have P3H := Lib.hid P3
      have BW3 := Lib.hid bw3
      have HMB := Lib.hid P3.lt
      have I2 : Hid ((Try.prog.info? 39).map (·.size) = some D.size) := Lib.hid (by rw [hD7]; exact info_ask)
      have O2 := Lib.hid hD1
      have Z2 : Hid ((#[.int .i64 0, .int .i64 0, .int .i64 0, .bool false, .string ⟨#[]⟩, .int .i64 0, .int .i64 0] : Array Value).size = D.size) := Lib.hid (by rw [hD7]; rfl)
      have rZ5 := Lib.hid rZ2
      clear b2 hW3 r9 q3 r52 r53 bw2 bw3 bq2 P3 hD1 hD7 rZ2 EC sz2 sz1 HP KO R5 HW1 Q1 rZ i1 one1 z1 j1 R1'
      rcases hask with ⟨rfl, hno⟩ | ⟨k0, rfl, hyes, hDk⟩
      · cases hrep : x.rep with
        | false =>
          rw [hrep] at c0
          have HN2 : Hid (CtM W3 w.heap.size (k + 1) (cntE (L.take (k + 1)))) := Lib.hid (by
            have e : cntE (L.take (k + 1)) = cntE (L.take k) := funext fun a => by rw [CS.out a, if_neg (by rw [hno]; simp)]
            rw [e]; exact P3H.out.more (Nat.le_succ _))
          have HO2 := Lib.hid (HNX.out (by unfold okE; rw [hrep]; rfl))
          clear hrep hno
          go_wp2_with (first
            | (refine wpList_store_row rfl 39 (.tmp 6) (.tmp 18) rfl w2.heap.size D rfl rfl 39 _ rZ5.out I2.out (by first | exact Z2.out | exact Z2.out.symm) O2.out ?_; rw [← HW3.out])
            | fail)
          go_roundw
          case rel => exact ⟨k + 1, by go_num, by omega, HN2, BW3, HO2⟩
          case measure => simp [intOf]; omega
        | true =>
          rw [hrep] at c0
          have HF : Hid (pairedP L = false) := Lib.hid (HFA.out (by unfold okE; rw [hrep, hno]; rfl))
          clear hrep hno
          go_wp2_with (first
            | (refine wpList_store_row rfl 39 (.tmp 6) (.tmp 18) rfl w2.heap.size D rfl rfl 39 _ rZ5.out I2.out (by first | exact Z2.out | exact Z2.out.symm) O2.out ?_; rw [← HW3.out])
            | fail)
          go_ret
          exact ⟨by rw [HF.out]; rfl, BW3.out⟩
      · have hok := askE_ok HEO.out hyes
        have lk := P3H.out.look hok D hDk
        have L3 := loadAk_row R9.out I2.out
        obtain ⟨f, hf⟩ : ∃ f, f = cntE (L.take k) k0 := ⟨_, rfl⟩
        have hfb : -1000000 ≤ f ∧ f ≤ 1000000 := by have := HBD.out k0; omega
        rw [← hf] at lk
        have P3d : CtM W3.drew w.heap.size k (cntE (L.take k)) := P3H.out
        have lkd := P3d.look hok D hDk
        rw [← hf] at lkd
        have L3d : loadAk (.pointer (some ⟨w2.heap.size, 0, none⟩)) W3.drew = .ok (.value (.agg D)) W3.drew := loadAk_row (w1 := W3.drew) R9.out I2.out
        obtain ⟨u, st, W4, m1, P4, g4, m2⟩ := P3d.bump (by omega) hok D hDk
        have lk4 := P4.look hok D hDk
        rw [← hf] at lk4
        cases hrep : x.rep with
        | false =>
          rw [hrep] at c0
          obtain ⟨W5, m3, P5, g5⟩ := m2 (f + 1)
          have hw : IntKind.i64.wrap (f + 1) = f + 1 := IntWalk.i64_in _ (by omega)
          have HN2 : Hid (CtM W5 w.heap.size (k + 1) (cntE (L.take (k + 1)))) := Lib.hid (by
            have e : cntE (L.take (k + 1)) = fun j => if j = k0 then f + 1 else cntE (L.take k) j := funext fun a => by
              rw [CS.out a, hyes, hrep]
              by_cases ea : a = k0
              · subst ea; simp [hf]
              · rw [if_neg (by intro h; injection h with h; exact ea h.symm), if_neg ea]
            rw [e]; exact P5)
          have HO2 := Lib.hid (HNX.out (by unfold okE; rw [hrep]; rfl))
          have HB5 : Hid (Below w.heap.size w W5) := Lib.hid (Below.grown BW3.out.drew g5 BW3.out.size (fun j hj => by injection hj with hj; omega))
          have HG := Lib.hid hf
          clear hrep hyes hf P4 g4 m2 P5 g5 P3d lk L3 hok hDk HBD
          go_wp2_with (first
            | (refine wpList_store_row rfl 39 (.tmp 6) (.tmp 18) rfl w2.heap.size D rfl rfl 39 _ rZ5.out I2.out (by first | exact Z2.out | exact Z2.out.symm) O2.out ?_; rw [← HW3.out])
            | fail)
          go_region
          all_goals (go_wp2_with fail; go_roundw)
          case rel => exact ⟨k + 1, by go_num, by omega, HN2, HB5, HO2⟩
          case measure => simp [intOf]; omega
        | true =>
          rw [hrep] at c0
          have bad : ∀ (h : (cntE (L.take k) k0 != 0 && (x.h.r && x.h.ra)) = false), pairedP L = false := fun h => HFA.out (by unfold okE; rw [hrep, hyes]; exact h)
          rw [← hf] at bad
          have BAD := Lib.hid bad
          clear bad
          by_cases hf0 : f = 0
          · have HF := Lib.hid (BAD.out (by rw [hf0]; rfl))
            have hz : (f == 0) = true := by rw [hf0]; rfl
            clear hrep hyes hf P4 g4 m2 P3d L3d lkd lk4 m1 hok hDk HBD hfb BAD
            go_wp2_with (first
            | (refine wpList_store_row rfl 39 (.tmp 6) (.tmp 18) rfl w2.heap.size D rfl rfl 39 _ rZ5.out I2.out (by first | exact Z2.out | exact Z2.out.symm) O2.out ?_; rw [← HW3.out])
            | fail)
            go_ret
            exact ⟨by rw [HF.out]; rfl, BW3.out⟩
          · have hz : (f == 0) = false := by rw [beq_eq_false_iff_ne]; exact hf0
            cases hr : x.h.r with
            | false =>
              rw [hr] at c4
              have HF := Lib.hid (BAD.out (by rw [hr]; simp))
              clear hrep hyes hf P4 g4 m2 P3d L3d lkd lk4 m1 hok hDk HBD hfb BAD hf0 hr
              go_wp2_with (first
            | (refine wpList_store_row rfl 39 (.tmp 6) (.tmp 18) rfl w2.heap.size D rfl rfl 39 _ rZ5.out I2.out (by first | exact Z2.out | exact Z2.out.symm) O2.out ?_; rw [← HW3.out])
            | fail)
              go_ret
              exact ⟨by rw [HF.out]; rfl, BW3.out⟩
            | true =>
              rw [hr] at c4
              cases hra : x.h.ra with
              | false =>
                rw [hra] at c9
                have HF := Lib.hid (BAD.out (by rw [hr, hra]; simp))
                clear hrep hyes hf P4 g4 m2 P3d L3d lkd lk4 m1 hok hDk HBD hfb BAD hf0 hr hra
                go_wp2_with (first
            | (refine wpList_store_row rfl 39 (.tmp 6) (.tmp 18) rfl w2.heap.size D rfl rfl 39 _ rZ5.out I2.out (by first | exact Z2.out | exact Z2.out.symm) O2.out ?_; rw [← HW3.out])
            | fail)
                go_ret
                exact ⟨by rw [HF.out]; rfl, BW3.out⟩
              | true =>
                rw [hra] at c9
                obtain ⟨W5, m3, P5, g5⟩ := m2 (f - 1)
                have hw : IntKind.i64.wrap (f - 1) = f - 1 := IntWalk.i64_in _ (by omega)
                have HN2 : Hid (CtM W5 w.heap.size (k + 1) (cntE (L.take (k + 1)))) := Lib.hid (by
                  have e : cntE (L.take (k + 1)) = fun j => if j = k0 then f - 1 else cntE (L.take k) j := funext fun a => by
                    rw [CS.out a, hyes, hrep]
                    by_cases ea : a = k0
                    · subst ea; simp [hf]
                    · rw [if_neg (by intro h; injection h with h; exact ea h.symm), if_neg ea]
                  rw [e]; exact P5)
                have HO2 := Lib.hid (HNX.out (by unfold okE; rw [hrep, hyes]; simp only [hr, hra, ← hf]; simp [hf0]))
                have HB5 : Hid (Below w.heap.size w W5) := Lib.hid (Below.grown BW3.out.drew g5 BW3.out.size (fun j hj => by injection hj with hj; omega))
                have HG := Lib.hid hf
                clear hrep hyes hf P4 g4 m2 P5 g5 P3d hok hDk HBD hr hra hf0 BAD
                go_wp2_with (first
            | (refine wpList_store_row rfl 39 (.tmp 6) (.tmp 18) rfl w2.heap.size D rfl rfl 39 _ rZ5.out I2.out (by first | exact Z2.out | exact Z2.out.symm) O2.out ?_; rw [← HW3.out])
            | fail)
                go_region
                all_goals (go_wp2_with fail; go_roundw)
                case rel => exact ⟨k + 1, by go_num, by omega, HN2, HB5, HO2⟩
                case measure => simp [intOf]; omega
    · have hlt' : ¬ (k : Int) < (n : Int) := by omega
      obtain rfl : k = n := by omega
      have HF : Hid (pairedP L = true) := Lib.hid ((pairedP_iff L).2 (fun i hi => HOK.out i hi (by rw [HN.out]; exact hi)))
      clear HOK HP HS
      go_wp2_with fail
      go_ret
      exact ⟨by rw [HF.out]; rfl, HB.out⟩
end Go.Proofs.Ytkihlcecjcjmlaa
