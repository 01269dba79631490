/-
  The landed entry: Encode.
-/
import Derived.Test.YtocbcobaodefgaaEnI
import Derived.Test.YtocbcobaodefgaaQi
namespace Go.Proofs.Ytocbcobaodefgaa
open Go.RowKit
set_option linter.unusedVariables false
set_option maxRecDepth 100000
attribute [local go_sem ↓] exec_loadSt

/-- An entry's bytes. -/
def headB (d : Bool) (s : St) : Bs := [if d then 1 else 0] ++ partB 1 s.n ++ bigs 2 [s.t.toNat, s.c.toNat]
def tailB (s : St) : Bs := bigs 1 [s.rk.toNat, s.kd.toNat] ++ bigs 8 [s.ex.toNat] ++ partB 1 s.z ++ bigs 2 [s.ds.length] ++ partsB 2 s.ds
def encB (d : Bool) (s : St) : Bs := if d then headB d s else headB d s ++ tailB s
def EncPost (w : World) (d : Bool) (s : St) (e : Ending) (w' : World) : Prop :=
  Below w.heap.size w w' ∧ ((canE d s = false ∧ e = .returned (.tuple #[.slice none 0 0, .int .i64 1])) ∨ (canE d s = true ∧ ∃ v, e = .returned (.tuple #[v, .int .i64 0]) ∧ OwnB w' w.heap.size v (encB d s)))

theorem ints_new (L : List Nat) (w : World) (T : TypeId) (fr : Nat × Nat) : ∀ j (h : j < L.length), (w.alloc (.cells (L.map fun n : Nat => Value.int .i64 n).toArray T fr)).cell? ⟨w.heap.size, j, none⟩ = some (.int .i64 L[j]) := fun j h => by
  have hb : (w.alloc (.cells (L.map fun n : Nat => Value.int .i64 n).toArray T fr)).heap[w.heap.size]? = some (.cells (L.map fun n : Nat => Value.int .i64 n).toArray T fr) := row_new _ rfl
  unfold World.cell?
  rw [hb]
  simp [h]

/-- What the operations of Encode's drawn region yield. -/
def RE (g B : Nat) (C : Array Value) : Nat → Value → World → Prop
  | 0, x, _ => x = .pointer (some ⟨g, 1, none⟩)
  | 1, x, _ => x = .agg C
  | 2, x, w => ∃ p, x = .pointer (some ⟨p, 0, none⟩) ∧ B ≤ p ∧ w.heap[p]? = some (.cells #[.string ⟨#[]⟩, .int .i64 0, .int .i64 0, .int .i64 0, .int .i64 0, .int .i64 0, .string ⟨#[]⟩, .slice none 0 0] 26 (0, 0))
  | 3, x, _ => x = .int .i64 0
  | _, _, _ => True
theorem RE_on {g B : Nat} {C : Array Value} (i : Nat) (v : Value) (w w' : World) (h : RE g B C i v w) (hB : Below w.heap.size w w') : RE g B C i v w' := by
  match i, h with
  | 0, h => exact h
  | 1, h => exact h
  | 2, ⟨p, h1, h2, h3⟩ => exact ⟨p, h1, h2, (hB.block _ (Array.getElem?_eq_some_iff.1 h3).1).trans h3⟩
  | 3, h => exact h
  | _ + 4, _ => trivial
def dE (i : Nat) : Nat := if i = 0 then 10 else if i = 1 then 11 else if i = 2 then 5 else 4
theorem dE_ne (i : Nat) : dE i ≠ 1 := by
  unfold dE
  split
  · omega
  · split
    · omega
    · split <;> omega
theorem getD_both_true {b : Array Bool} {k : Nat} (h : b.getD k false = true) : b.getD k true = true := by
  rcases Nat.lt_or_ge k b.size with h' | h'
  · simp [h'] at h ⊢; exact h
  · simp [Array.getElem?_eq_none h'] at h
theorem slot_of {a : Act} {j : Nat} {v : Value} (h : a.tmps[j]? = some v) : (a.tmps[j]?).getD undef = v := by rw [h]; rfl
theorem dsz_ge : ∀ L : List Bs, L.length ≤ dsz L
  | [] => by simp
  | x :: L => by
    have := dsz_ge L
    unfold dsz partsB at *
    rw [List.flatMap_cons, List.length_append, List.length_cons]
    have : 2 ≤ (partB 2 x).length := by simp [partB, big_len]
    omega
theorem key_nat {s : St} (h : canKeyS s = true) : can s.n = true ∧ ∃ t c : Nat, s.t = t ∧ s.c = c ∧ t ≤ 65535 ∧ c ≤ 65535 := by
  simp [canKeyS, shortN] at h
  exact ⟨h.1, s.t.toNat, s.c.toNat, by omega, by omega, by omega, by omega⟩
theorem can_nat {s : St} (h : canS s = true) : canKeyS s = true ∧ (∃ rk kd ex : Nat, s.rk = rk ∧ s.kd = kd ∧ s.ex = ex ∧ rk ≤ 3 ∧ kd ≤ 2 ∧ ex ≤ 1099511627776) ∧ 19 + s.n.length + s.z.length + dsz s.ds ≤ 4000 ∧ s.ds.length ≤ 4000 := by
  simp only [canS, Bool.and_eq_true] at h
  obtain ⟨h1, h2, h3, h4⟩ := h
  simp [canTimeS] at h2
  simp [fitsS] at h3
  have hk : s.kd = 0 ∨ s.kd = 1 ∨ s.kd = 2 := by
    unfold kindS at h4
    by_cases a : s.kd = 0
    · exact .inl a
    by_cases b : s.kd = 1
    · exact .inr (.inl b)
    by_cases c : s.kd = 2
    · exact .inr (.inr c)
    rw [if_neg a, if_neg b, if_neg c] at h4
    cases h4
  have hd : s.ds.length ≤ dsz s.ds := dsz_ge s.ds
  exact ⟨h1, ⟨s.rk.toNat, s.kd.toNat, s.ex.toNat, by omega, by omega, by omega, by omega, by omega, by omega⟩, by omega, by omega⟩
theorem shortN_nat {n : Int} (h : shortN n = true) : ∃ m : Nat, n = m ∧ m ≤ 65535 := by
  simp [shortN] at h
  exact ⟨n.toNat, by omega, by omega⟩

set_option maxHeartbeats 4000000 in
set_option maxRecDepth 100000 in
theorem Enc_any (d : Bool) (s : St) (A : Option Addr) (c : Nat) (w : World) (hS : Byss w A s.ds) (hz : Sized s) : Calls Try.prog 43 #[.agg (enC d s A c)] w (EncPost w d s) := by
  have r1 := row_new (w := w) (k := w.heap.size) (.cells (enC d s A c) 28 (0, 0)) rfl
  have b0 : Below w.heap.size w (w.alloc (.cells (enC d s A c) 28 (0, 0))) := Below.alloc (Below.refl _ _) (Nat.le_refl _) _
  have hS0 := Lib.hid (hS.on b0)
  have E1 := Lib.hid (fun W hW => can8_any d s A c W hW hz)
  have I1 : Hid ((Try.prog.info? 28).map (·.size) = some (enC d s A c).size) := Lib.hid info_en
  have lt1 : w.heap.size < (w.alloc (.cells (enC d s A c) 28)).heap.size := by simp
  obtain ⟨R, hR⟩ : ∃ R, R = canE d s := ⟨_, rfl⟩
  rw [← hR] at E1
  have HR := Lib.hid hR
  obtain ⟨D, hD⟩ : ∃ D, D = enC d s A c := ⟨_, rfl⟩
  rw [← hD] at r1 b0 E1 I1 lt1
  rw [← hD]
  have HD := Lib.hid hD
  rw [← hD] at hS0
  clear hR hD
  go_enter Try.func43, Try.ntmps43
  go_wp2_with (first
    | (refine wpList_load_row rfl 28 (.tmp 1) rfl w.heap.size rfl 28 D (0, 0) _ r1 Try.underlying28 rfl I1.out ?_)
    | fail)
  refine (E1.out _ hS0.out).mono ?_
  rintro e w1 ⟨rfl, q1⟩
  replace r1 := (q1.block _ lt1).trans r1
  replace hS1 := Lib.hid (hS0.out.on q1)
  replace lt1 := Nat.lt_of_lt_of_le lt1 q1.size
  obtain ⟨bb, s1⟩ := Below.next b0 b0.size q1
  clear q1 b0 E1 hS0
  cases R with
  | false =>
    have HF := Lib.hid HR.out.symm
    clear HR
    go_wp2_with fail
    go_ret2
    exact ⟨bb, .inl ⟨HF.out, rfl⟩⟩
  | true =>
    have hD2 := HD.out
    rw [hD2] at r1
    obtain ⟨d0, _, _, _⟩ := en_cell r1
    have hmid := en_mid r1
    rw [← hD2] at r1
    have R1 := Lib.hid r1
    have MID := Lib.hid (fun (W : World) (h : W.heap[w.heap.size]? = some (.cells D 28 (0, 0))) => by rw [HD.out] at h; exact (⟨(en_cell h).1, en_mid h⟩ : W.cell? ⟨w.heap.size, 0, none⟩ = some (.bool d) ∧ W.rangeAt w.heap.size 1 (stL s A c)))
    clear hD2 r1 d0 hmid
    go_wp2_with fail
    refine wp_region_under 4 (by kernel_rfl) (by kernel_rfl) (by kernel_rfl) rfl (d := dE) (R := RE w.heap.size w1.heap.size (stC s A c)) (B := w1.heap.size) (Nat.le_refl _) (fun i j hi hj e => ?_) (fun i hi => ?_) RE_on (fun i hi b a' w' un hr => ?_) (fun V w2 hV hB hs => ?_)
    · unfold dE at e
      repeat' split at e
      all_goals omega
    · unfold dE
      repeat' split
      all_goals simp
    · obtain ⟨_, o, ho, hall⟩ := mem_ready.1 hr
      have t1 : (a'.tmps[1]?).getD undef = .pointer (some ⟨w.heap.size, 0, none⟩) := slot_of ((un.old 1 (fun i _ => dE_ne i)).trans rfl)
      have hrow := (un.bel.block _ lt1).trans R1.out
      have L1 := loadSt_mid (MID.out _ hrow).2
      generalize stC s A c = C at *
      clear hrow
      match i, hi with
      | 0, _ =>
        refine ⟨_, rfl, rfl, ?_⟩
        clear ho hall hr un
        unfold Oper.wp
        go_simp
        exact ⟨_, rfl, rfl, Below.refl _ _⟩
      | 1, _ =>
        obtain rfl := Option.some.inj ho
        have h0 := getD_both_true (hall ⟨0, .data⟩ (by simp) rfl)
        obtain ⟨v, hv, rfl⟩ := un.got 0 (by simp) h0
        have t7 := slot_of (j := 10) hv
        refine ⟨_, rfl, rfl, ?_⟩
        clear ho hall hr hv
        unfold Oper.wp
        change Oper.upon _ _ _ _ _ (Sem.run _ (execOp a'.eval { dst := some 11, op := .load 26 (.tmp 10), type := 26, pos := _, after := _, guard := none }) w')
        rw [exec_loadSt]
        have he : a'.eval (.tmp 10) = .pointer (some ⟨w.heap.size, 1, none⟩) := by simpa [Act.eval] using t7
        rw [he, L1]
        exact ⟨_, rfl, rfl, Below.refl _ _⟩
      | 2, _ =>
        have hbg := un.big
        refine ⟨_, rfl, rfl, ?_⟩
        clear ho hall hr un
        unfold Oper.wp
        go_simp
        exact ⟨_, rfl, ⟨_, rfl, hbg, row_new _ rfl⟩, Below.alloc (Below.refl _ _) (Nat.le_refl _) _⟩
      | 3, _ =>
        refine ⟨_, rfl, rfl, ?_⟩
        clear ho hall hr un
        unfold Oper.wp
        go_simp
        exact ⟨_, rfl, rfl, Below.refl _ _⟩
    · have v0 : V 0 = .pointer (some ⟨w.heap.size, 1, none⟩) := hV 0 (by omega)
      have v1 : V 1 = .agg (stC s A c) := hV 1 (by omega)
      obtain ⟨p, v2, hp, r2⟩ : ∃ p, V 2 = .pointer (some ⟨p, 0, none⟩) ∧ w1.heap.size ≤ p ∧ w2.heap[p]? = some (.cells #[.string ⟨#[]⟩, .int .i64 0, .int .i64 0, .int .i64 0, .int .i64 0, .int .i64 0, .string ⟨#[]⟩, .slice none 0 0] 26 (0, 0)) := hV 2 (by omega)
      have v3 : V 3 = .int .i64 0 := hV 3 (by omega)
      simp only [putAll, dE, Act.put, v0, v1, v2, v3, Nat.reduceEqDiff, Nat.reduceAdd, if_false, if_true, List.setIfInBounds_toArray, List.set_cons_succ, List.set_cons_zero, List.drop_succ_cons, List.drop_zero]
      have r1 := (hB.block _ lt1).trans R1.out
      have plt := (Array.getElem?_eq_some_iff.1 r2).1
      have r1' := (setRow_other w2 p w.heap.size (stC s A c) (by omega)).trans r1
      have r2' := setRow_heap _ _ _ (stC s A c) _ _ r2
      have b2 : Below w.heap.size w (w2.setRow p (stC s A c)) := Below.setRow (Below.trans bb (hB.mono s1)) (by omega) _
      have hq : Below w1.heap.size w1 (w2.setRow p (stC s A c)) := Below.setRow hB hp _
      have hS2 := Lib.hid (hS1.out.on hq)
      have sz2 : (w2.setRow p (stC s A c)).heap.size = w2.heap.size := size_setRow _ _ _
      have IS : Hid ((Try.prog.info? 26).map (·.size) = some (stC s A c).size) := Lib.hid info_st
      have OS := Lib.hid (st_one s A c)
      have ZS : Hid ((#[.string ⟨#[]⟩, .int .i64 0, .int .i64 0, .int .i64 0, .int .i64 0, .int .i64 0, .string ⟨#[]⟩, .slice none 0 0] : Array Value).size = (stC s A c).size) := Lib.hid rfl
      obtain ⟨C, hC⟩ : ∃ C, C = stC s A c := ⟨_, rfl⟩
      rw [← hC] at r1' r2' b2 hS2 sz2 IS OS ZS
      have HC := Lib.hid hC
      rw [← hC]
      obtain ⟨W0, hW⟩ : ∃ W0, W0 = w2.setRow p C := ⟨_, rfl⟩
      rw [← hW] at r1' r2' b2 hS2 sz2
      have HW := Lib.hid hW
      have RA := Lib.hid r1'
      have RB := Lib.hid r2'
      clear hV v0 v1 v2 v3 hC hW hq hB R1 hS1 r1 bb hS hz r1' r2' hs
      have plt' : p < W0.heap.size := by omega
      have wlt' : w.heap.size < W0.heap.size := by omega
      clear sz2
      cases d with
      | true =>
        have hcan : canKeyS s = true := by have := HR.out.symm; simp only [canE, if_true, Bool.and_eq_true] at this; exact this.1
        obtain ⟨hnm, tn, cn, ht, hc, htl, hcl⟩ := key_nat hcan
        have hnl := (can_out hnm).1
        have CE := Lib.hid (fun (W : World) (h : W.heap[p]? = some (.cells C 26 (0, 0))) => by rw [HC.out] at h; have := st_cell h; rw [ht, hc] at this; exact this)
        have HFIN : Hid (([] ++ bigs 1 [1] ++ partsB 1 [s.n] ++ bigs 2 [tn, cn]) = encB true s) := Lib.hid (by simp [encB, headB, bigs, big, partsB, partB, ht, hc])
        obtain ⟨nm, hnm2⟩ : ∃ x, x = s.n := ⟨_, rfl⟩
        rw [← hnm2] at hnl CE HFIN
        clear ht hc hcan hnm hnm2
        have a0 := Lib.hid (App.start (W := W0) (base := W0.heap.size) (v := .slice none 0 0) (l := []) (.inl ⟨rfl, rfl⟩))
        have sz0 : W0.heap.size ≤ W0.heap.size := Nat.le_refl _
        obtain ⟨c0, c1, c2, c3, c4, c5, c6, c7⟩ := CE.out _ RB.out
        have d0 := (MID.out _ RA.out).1
        have CN : Hid (Calls Try.prog 71 #[(.slice none 0 0), .int .i64 1, .slice (some ⟨W0.heap.size, 0, none⟩) 1 1] (W0.alloc (.cells #[.int .i64 1] 3)) (AppPost (W0.alloc (.cells #[.int .i64 1] 3)) W0.heap.size (.slice none 0 0) ([] ++ bigs 1 [1]))) := Lib.hid (numbers_any W0.heap.size (.slice none 0 0) [] 1 (by omega) (by omega) [1] 1 1 rfl W0.heap.size _ (a0.out.own.alloc _) (by simp <;> omega) (ints_new [1] _ _ _) (fun e => by have := (a0.out.own.lt _ e).2; omega) (by simp <;> omega) (by simp))
        have aa := Lib.hid (a0.out.alloc (.cells #[.int .i64 1] 3))
        go_wp2_with (first
          | (refine wpList_store_row rfl 26 (.tmp 5) (.tmp 11) rfl p C rfl rfl 26 _ r2 IS.out (by first | exact ZS.out | exact ZS.out.symm) OS.out ?_; rw [← HW.out])
          | fail)
        clear r2 IS ZS OS HW
        refine CN.out.mono ?_
        rintro e W1 ⟨v1, rfl, q⟩
        have a := aa.out.call q
        obtain ⟨l1, hl⟩ : ∃ l, l = [] ++ bigs 1 [1] := ⟨_, rfl⟩
        rw [← hl] at a
        have ll1 : l1.length ≤ 1 := by rw [hl, List.length_append, bigs_len]; simp <;> omega
        have hl1 := Lib.hid hl
        have a1 := Lib.hid a
        have sz1 : W0.heap.size ≤ W1.heap.size := a.gr.size
        clear c0 c1 c2 c3 c4 c5 c6 c7 d0
        obtain ⟨c0, c1, c2, c3, c4, c5, c6, c7⟩ := CE.out _ ((a.block plt' (by simp [Value.ownBlock])).trans RB.out)
        have d0 := (MID.out _ ((a.block wlt' (by simp [Value.ownBlock])).trans RA.out)).1
        clear a hl aa CN q a0
        obtain ⟨cv, Wc, hcv, ocv, bcv⟩ := conv_own nm W1 (by omega)
        obtain ⟨Ac, cc, rfl, -, -, -⟩ := ocv.bys
        have hcs := bcv.size
        have CN : Hid (Calls Try.prog 72 #[v1, .int .i64 1, .slice (some ⟨Wc.heap.size, 0, none⟩) 1 1] (Wc.alloc (.cells #[.slice Ac nm.length cc] 22)) (AppPost (Wc.alloc (.cells #[.slice Ac nm.length cc] 22)) W0.heap.size v1 (l1 ++ partsB 1 [nm]))) := Lib.hid (parts_any W0.heap.size v1 l1 1 (by omega) (by omega) [nm] _ 1 1 rfl _ ((a1.out.on bcv).own.alloc _) (by simp <;> omega) (ByssK.one ocv (fun g hg e => by have := (a1.out.own.lt _ e).2; have := (ocv.lt _ hg).1; omega) (fun g hg => by have := (a1.out.own.lt _ hg).2; omega)) (by simp [partsB, partB, big_len]; omega) (by omega))
        have aa := Lib.hid ((a1.out.on bcv).alloc (.cells #[.slice Ac nm.length cc] 22))
        clear ocv bcv
        go_wp2_with fail
        refine CN.out.mono ?_
        rintro e W2 ⟨v2, rfl, q⟩
        have a := aa.out.call q
        obtain ⟨l2, hl⟩ : ∃ l, l = l1 ++ partsB 1 [nm] := ⟨_, rfl⟩
        rw [← hl] at a
        have ll2 : l2.length ≤ 257 := by rw [hl, List.length_append]; simp [partsB, partB, big_len]; omega
        clear hcv hcs
        have hl2 := Lib.hid hl
        have a2 := Lib.hid a
        have sz2 : W0.heap.size ≤ W2.heap.size := a.gr.size
        clear c0 c1 c2 c3 c4 c5 c6 c7 d0
        obtain ⟨c0, c1, c2, c3, c4, c5, c6, c7⟩ := CE.out _ ((a.block plt' (by simp [Value.ownBlock])).trans RB.out)
        have d0 := (MID.out _ ((a.block wlt' (by simp [Value.ownBlock])).trans RA.out)).1
        clear a hl aa CN q a1
        have CN : Hid (Calls Try.prog 71 #[v2, .int .i64 2, .slice (some ⟨W2.heap.size, 0, none⟩) 2 2] (W2.alloc (.cells #[.int .i64 tn, .int .i64 cn] 3)) (AppPost (W2.alloc (.cells #[.int .i64 tn, .int .i64 cn] 3)) W0.heap.size v2 (l2 ++ bigs 2 [tn, cn]))) := Lib.hid (numbers_any W0.heap.size v2 l2 2 (by omega) (by omega) [tn, cn] 2 2 rfl W2.heap.size _ (a2.out.own.alloc _) (by simp <;> omega) (ints_new [tn, cn] _ _ _) (fun e => by have := (a2.out.own.lt _ e).2; omega) (by simp <;> omega) (by simp))
        have aa := Lib.hid (a2.out.alloc (.cells #[.int .i64 tn, .int .i64 cn] 3))
        go_wp2_with fail
        refine CN.out.mono ?_
        rintro e W3 ⟨v3, rfl, q⟩
        have a := aa.out.call q
        obtain ⟨l3, hl⟩ : ∃ l, l = l2 ++ bigs 2 [tn, cn] := ⟨_, rfl⟩
        rw [← hl] at a
        have ll3 : l3.length ≤ 261 := by rw [hl, List.length_append, bigs_len]; simp <;> omega
        have hl3 := Lib.hid hl
        have a3 := Lib.hid a
        have sz3 : W0.heap.size ≤ W3.heap.size := a.gr.size
        clear c0 c1 c2 c3 c4 c5 c6 c7 d0
        obtain ⟨c0, c1, c2, c3, c4, c5, c6, c7⟩ := CE.out _ ((a.block plt' (by simp [Value.ownBlock])).trans RB.out)
        have d0 := (MID.out _ ((a.block wlt' (by simp [Value.ownBlock])).trans RA.out)).1
        clear a hl aa CN q a2
        go_wp2_with fail
        go_ret2
        have hb := a3.out.below (l0 := []) (.inl ⟨rfl, rfl⟩) (Nat.le_refl _)
        refine ⟨Below.trans b2 (hb.mono b2.size), .inr ⟨HR.out.symm, _, rfl, ?_⟩⟩
        have ho := a3.out.own.mono b2.size
        rw [hl3.out, hl2.out, hl1.out, HFIN.out] at ho
        exact ho
      | false =>
        have hcan : canS s = true := HR.out.symm
        obtain ⟨hkey, ⟨rn, kn, en, hr, hk, he, hrl, hkl, hel⟩, hfit, hdl⟩ := can_nat hcan
        obtain ⟨hnm, tn, cn, ht, hc, htl, hcl⟩ := key_nat hkey
        have hnl := (can_out hnm).1
        have CE := Lib.hid (fun (W : World) (h : W.heap[p]? = some (.cells C 26 (0, 0))) => by rw [HC.out] at h; have := st_cell h; rw [ht, hc, hr, hk, he] at this; exact this)
        have HFIN : Hid (([] ++ bigs 1 [0] ++ partsB 1 [s.n] ++ bigs 2 [tn, cn] ++ bigs 1 [rn, kn] ++ bigs 8 [en] ++ partsB 1 [s.z] ++ bigs 2 [s.ds.length] ++ partsB 2 s.ds) = encB false s) := Lib.hid (by simp [encB, headB, tailB, bigs, big, partsB, partB, ht, hc, hr, hk, he])
        obtain ⟨nm, hnm2⟩ : ∃ x, x = s.n := ⟨_, rfl⟩
        obtain ⟨z, hz2⟩ : ∃ x, x = s.z := ⟨_, rfl⟩
        obtain ⟨L, hL2⟩ : ∃ x, x = s.ds := ⟨_, rfl⟩
        have hds : (partsB 2 s.ds).length ≤ 4000 := by unfold dsz at hfit; omega
        have hzl : s.z.length ≤ 4000 := by omega
        rw [← hnm2, ← hz2, ← hL2] at CE HFIN
        rw [← hnm2] at hnl
        rw [← hL2] at hds hdl hS2
        rw [← hz2] at hzl
        have HDS := Lib.hid hds
        clear ht hc hr hk he hcan hnm hnm2 hz2 hL2 hkey hfit hds
        have a0 := Lib.hid (App.start (W := W0) (base := W0.heap.size) (v := .slice none 0 0) (l := []) (.inl ⟨rfl, rfl⟩))
        have sz0 : W0.heap.size ≤ W0.heap.size := Nat.le_refl _
        obtain ⟨c0, c1, c2, c3, c4, c5, c6, c7⟩ := CE.out _ RB.out
        have d0 := (MID.out _ RA.out).1
        have CN : Hid (Calls Try.prog 71 #[(.slice none 0 0), .int .i64 1, .slice (some ⟨W0.heap.size, 0, none⟩) 1 1] (W0.alloc (.cells #[.int .i64 0] 3)) (AppPost (W0.alloc (.cells #[.int .i64 0] 3)) W0.heap.size (.slice none 0 0) ([] ++ bigs 1 [0]))) := Lib.hid (numbers_any W0.heap.size (.slice none 0 0) [] 1 (by omega) (by omega) [0] 1 1 rfl W0.heap.size _ (a0.out.own.alloc _) (by simp <;> omega) (ints_new [0] _ _ _) (fun e => by have := (a0.out.own.lt _ e).2; omega) (by simp <;> omega) (by simp))
        have aa := Lib.hid (a0.out.alloc (.cells #[.int .i64 0] 3))
        go_wp2_with (first
          | (refine wpList_store_row rfl 26 (.tmp 5) (.tmp 11) rfl p C rfl rfl 26 _ r2 IS.out (by first | exact ZS.out | exact ZS.out.symm) OS.out ?_; rw [← HW.out])
          | fail)
        clear r2 IS ZS OS HW
        refine CN.out.mono ?_
        rintro e W1 ⟨v1, rfl, q⟩
        have a := aa.out.call q
        obtain ⟨l1, hl⟩ : ∃ l, l = [] ++ bigs 1 [0] := ⟨_, rfl⟩
        rw [← hl] at a
        have ll1 : l1.length ≤ 1 := by rw [hl, List.length_append, bigs_len]; simp <;> omega
        have hl1 := Lib.hid hl
        have a1 := Lib.hid a
        have sz1 : W0.heap.size ≤ W1.heap.size := a.gr.size
        clear c0 c1 c2 c3 c4 c5 c6 c7 d0
        obtain ⟨c0, c1, c2, c3, c4, c5, c6, c7⟩ := CE.out _ ((a.block plt' (by simp [Value.ownBlock])).trans RB.out)
        have d0 := (MID.out _ ((a.block wlt' (by simp [Value.ownBlock])).trans RA.out)).1
        clear a hl aa CN q a0
        obtain ⟨cv, Wc, hcv, ocv, bcv⟩ := conv_own nm W1 (by omega)
        obtain ⟨Ac, cc, rfl, -, -, -⟩ := ocv.bys
        have hcs := bcv.size
        have CN : Hid (Calls Try.prog 72 #[v1, .int .i64 1, .slice (some ⟨Wc.heap.size, 0, none⟩) 1 1] (Wc.alloc (.cells #[.slice Ac nm.length cc] 22)) (AppPost (Wc.alloc (.cells #[.slice Ac nm.length cc] 22)) W0.heap.size v1 (l1 ++ partsB 1 [nm]))) := Lib.hid (parts_any W0.heap.size v1 l1 1 (by omega) (by omega) [nm] _ 1 1 rfl _ ((a1.out.on bcv).own.alloc _) (by simp <;> omega) (ByssK.one ocv (fun g hg e => by have := (a1.out.own.lt _ e).2; have := (ocv.lt _ hg).1; omega) (fun g hg => by have := (a1.out.own.lt _ hg).2; omega)) (by simp [partsB, partB, big_len]; omega) (by omega))
        have aa := Lib.hid ((a1.out.on bcv).alloc (.cells #[.slice Ac nm.length cc] 22))
        clear ocv bcv
        go_wp2_with fail
        refine CN.out.mono ?_
        rintro e W2 ⟨v2, rfl, q⟩
        have a := aa.out.call q
        obtain ⟨l2, hl⟩ : ∃ l, l = l1 ++ partsB 1 [nm] := ⟨_, rfl⟩
        rw [← hl] at a
        have ll2 : l2.length ≤ 257 := by rw [hl, List.length_append]; simp [partsB, partB, big_len]; omega
        clear hcv hcs
        have hl2 := Lib.hid hl
        have a2 := Lib.hid a
        have sz2 : W0.heap.size ≤ W2.heap.size := a.gr.size
        clear c0 c1 c2 c3 c4 c5 c6 c7 d0
        obtain ⟨c0, c1, c2, c3, c4, c5, c6, c7⟩ := CE.out _ ((a.block plt' (by simp [Value.ownBlock])).trans RB.out)
        have d0 := (MID.out _ ((a.block wlt' (by simp [Value.ownBlock])).trans RA.out)).1
        clear a hl aa CN q a1
        have CN : Hid (Calls Try.prog 71 #[v2, .int .i64 2, .slice (some ⟨W2.heap.size, 0, none⟩) 2 2] (W2.alloc (.cells #[.int .i64 tn, .int .i64 cn] 3)) (AppPost (W2.alloc (.cells #[.int .i64 tn, .int .i64 cn] 3)) W0.heap.size v2 (l2 ++ bigs 2 [tn, cn]))) := Lib.hid (numbers_any W0.heap.size v2 l2 2 (by omega) (by omega) [tn, cn] 2 2 rfl W2.heap.size _ (a2.out.own.alloc _) (by simp <;> omega) (ints_new [tn, cn] _ _ _) (fun e => by have := (a2.out.own.lt _ e).2; omega) (by simp <;> omega) (by simp))
        have aa := Lib.hid (a2.out.alloc (.cells #[.int .i64 tn, .int .i64 cn] 3))
        go_wp2_with fail
        refine CN.out.mono ?_
        rintro e W3 ⟨v3, rfl, q⟩
        have a := aa.out.call q
        obtain ⟨l3, hl⟩ : ∃ l, l = l2 ++ bigs 2 [tn, cn] := ⟨_, rfl⟩
        rw [← hl] at a
        have ll3 : l3.length ≤ 261 := by rw [hl, List.length_append, bigs_len]; simp <;> omega
        have hl3 := Lib.hid hl
        have a3 := Lib.hid a
        have sz3 : W0.heap.size ≤ W3.heap.size := a.gr.size
        clear c0 c1 c2 c3 c4 c5 c6 c7 d0
        obtain ⟨c0, c1, c2, c3, c4, c5, c6, c7⟩ := CE.out _ ((a.block plt' (by simp [Value.ownBlock])).trans RB.out)
        have d0 := (MID.out _ ((a.block wlt' (by simp [Value.ownBlock])).trans RA.out)).1
        clear a hl aa CN q a2
        have CN : Hid (Calls Try.prog 71 #[v3, .int .i64 1, .slice (some ⟨W3.heap.size, 0, none⟩) 2 2] (W3.alloc (.cells #[.int .i64 rn, .int .i64 kn] 3)) (AppPost (W3.alloc (.cells #[.int .i64 rn, .int .i64 kn] 3)) W0.heap.size v3 (l3 ++ bigs 1 [rn, kn]))) := Lib.hid (numbers_any W0.heap.size v3 l3 1 (by omega) (by omega) [rn, kn] 2 2 rfl W3.heap.size _ (a3.out.own.alloc _) (by simp <;> omega) (ints_new [rn, kn] _ _ _) (fun e => by have := (a3.out.own.lt _ e).2; omega) (by simp <;> omega) (by simp))
        have aa := Lib.hid (a3.out.alloc (.cells #[.int .i64 rn, .int .i64 kn] 3))
        go_wp2_with fail
        refine CN.out.mono ?_
        rintro e W4 ⟨v4, rfl, q⟩
        have a := aa.out.call q
        obtain ⟨l4, hl⟩ : ∃ l, l = l3 ++ bigs 1 [rn, kn] := ⟨_, rfl⟩
        rw [← hl] at a
        have ll4 : l4.length ≤ 263 := by rw [hl, List.length_append, bigs_len]; simp <;> omega
        have hl4 := Lib.hid hl
        have a4 := Lib.hid a
        have sz4 : W0.heap.size ≤ W4.heap.size := a.gr.size
        clear c0 c1 c2 c3 c4 c5 c6 c7 d0
        obtain ⟨c0, c1, c2, c3, c4, c5, c6, c7⟩ := CE.out _ ((a.block plt' (by simp [Value.ownBlock])).trans RB.out)
        have d0 := (MID.out _ ((a.block wlt' (by simp [Value.ownBlock])).trans RA.out)).1
        clear a hl aa CN q a3
        have CN : Hid (Calls Try.prog 71 #[v4, .int .i64 8, .slice (some ⟨W4.heap.size, 0, none⟩) 1 1] (W4.alloc (.cells #[.int .i64 en] 3)) (AppPost (W4.alloc (.cells #[.int .i64 en] 3)) W0.heap.size v4 (l4 ++ bigs 8 [en]))) := Lib.hid (numbers_any W0.heap.size v4 l4 8 (by omega) (by omega) [en] 1 1 rfl W4.heap.size _ (a4.out.own.alloc _) (by simp <;> omega) (ints_new [en] _ _ _) (fun e => by have := (a4.out.own.lt _ e).2; omega) (by simp <;> omega) (by simp))
        have aa := Lib.hid (a4.out.alloc (.cells #[.int .i64 en] 3))
        go_wp2_with fail
        refine CN.out.mono ?_
        rintro e W5 ⟨v5, rfl, q⟩
        have a := aa.out.call q
        obtain ⟨l5, hl⟩ : ∃ l, l = l4 ++ bigs 8 [en] := ⟨_, rfl⟩
        rw [← hl] at a
        have ll5 : l5.length ≤ 271 := by rw [hl, List.length_append, bigs_len]; simp <;> omega
        have hl5 := Lib.hid hl
        have a5 := Lib.hid a
        have sz5 : W0.heap.size ≤ W5.heap.size := a.gr.size
        clear c0 c1 c2 c3 c4 c5 c6 c7 d0
        obtain ⟨c0, c1, c2, c3, c4, c5, c6, c7⟩ := CE.out _ ((a.block plt' (by simp [Value.ownBlock])).trans RB.out)
        have d0 := (MID.out _ ((a.block wlt' (by simp [Value.ownBlock])).trans RA.out)).1
        clear a hl aa CN q a4
        obtain ⟨cv, Wc, hcv, ocv, bcv⟩ := conv_own z W5 (by omega)
        obtain ⟨Ac, cc, rfl, -, -, -⟩ := ocv.bys
        have hcs := bcv.size
        have CN : Hid (Calls Try.prog 72 #[v5, .int .i64 1, .slice (some ⟨Wc.heap.size, 0, none⟩) 1 1] (Wc.alloc (.cells #[.slice Ac z.length cc] 22)) (AppPost (Wc.alloc (.cells #[.slice Ac z.length cc] 22)) W0.heap.size v5 (l5 ++ partsB 1 [z]))) := Lib.hid (parts_any W0.heap.size v5 l5 1 (by omega) (by omega) [z] _ 1 1 rfl _ ((a5.out.on bcv).own.alloc _) (by simp <;> omega) (ByssK.one ocv (fun g hg e => by have := (a5.out.own.lt _ e).2; have := (ocv.lt _ hg).1; omega) (fun g hg => by have := (a5.out.own.lt _ hg).2; omega)) (by simp [partsB, partB, big_len]; omega) (by omega))
        have aa := Lib.hid ((a5.out.on bcv).alloc (.cells #[.slice Ac z.length cc] 22))
        clear ocv bcv
        go_wp2_with fail
        refine CN.out.mono ?_
        rintro e W6 ⟨v6, rfl, q⟩
        have a := aa.out.call q
        obtain ⟨l6, hl⟩ : ∃ l, l = l5 ++ partsB 1 [z] := ⟨_, rfl⟩
        rw [← hl] at a
        have ll6 : l6.length ≤ 4272 := by rw [hl, List.length_append]; simp [partsB, partB, big_len]; omega
        clear hcv hcs
        have hl6 := Lib.hid hl
        have a6 := Lib.hid a
        have sz6 : W0.heap.size ≤ W6.heap.size := a.gr.size
        clear c0 c1 c2 c3 c4 c5 c6 c7 d0
        obtain ⟨c0, c1, c2, c3, c4, c5, c6, c7⟩ := CE.out _ ((a.block plt' (by simp [Value.ownBlock])).trans RB.out)
        have d0 := (MID.out _ ((a.block wlt' (by simp [Value.ownBlock])).trans RA.out)).1
        clear a hl aa CN q a5
        have CN : Hid (Calls Try.prog 71 #[v6, .int .i64 2, .slice (some ⟨W6.heap.size, 0, none⟩) 1 1] (W6.alloc (.cells #[.int .i64 L.length] 3)) (AppPost (W6.alloc (.cells #[.int .i64 L.length] 3)) W0.heap.size v6 (l6 ++ bigs 2 [L.length]))) := Lib.hid (numbers_any W0.heap.size v6 l6 2 (by omega) (by omega) [L.length] 1 1 rfl W6.heap.size _ (a6.out.own.alloc _) (by simp <;> omega) (ints_new [L.length] _ _ _) (fun e => by have := (a6.out.own.lt _ e).2; omega) (by simp <;> omega) (by simp))
        have aa := Lib.hid (a6.out.alloc (.cells #[.int .i64 L.length] 3))
        go_wp2_with fail
        refine CN.out.mono ?_
        rintro e W7 ⟨v7, rfl, q⟩
        have a := aa.out.call q
        obtain ⟨l7, hl⟩ : ∃ l, l = l6 ++ bigs 2 [L.length] := ⟨_, rfl⟩
        rw [← hl] at a
        have ll7 : l7.length ≤ 4274 := by rw [hl, List.length_append, bigs_len]; simp <;> omega
        have hl7 := Lib.hid hl
        have a7 := Lib.hid a
        have sz7 : W0.heap.size ≤ W7.heap.size := a.gr.size
        clear c0 c1 c2 c3 c4 c5 c6 c7 d0
        obtain ⟨c0, c1, c2, c3, c4, c5, c6, c7⟩ := CE.out _ ((a.block plt' (by simp [Value.ownBlock])).trans RB.out)
        have d0 := (MID.out _ ((a.block wlt' (by simp [Value.ownBlock])).trans RA.out)).1
        clear a hl aa CN q a6
        have hb7 := a7.out.below (l0 := []) (.inl ⟨rfl, rfl⟩) (Nat.le_refl _)
        have CN := Lib.hid (parts_any W0.heap.size v7 l7 2 (by omega) (by omega) L A L.length c rfl W7 a7.out.own sz7 (ByssK.of hS2.out hb7 (fun g hg => (a7.out.own.lt _ hg).1)) (by have := HDS.out; omega) (by omega))
        clear hb7
        go_wp2_with fail
        refine CN.out.mono ?_
        rintro e W8 ⟨v8, rfl, q⟩
        have a := a7.out.call q
        rw [hl7.out, hl6.out, hl5.out, hl4.out, hl3.out, hl2.out, hl1.out, HFIN.out] at a
        have a8 := Lib.hid a
        clear a q CN
        go_wp2_with fail
        go_ret2
        have hb := a8.out.below (l0 := []) (.inl ⟨rfl, rfl⟩) (Nat.le_refl _)
        exact ⟨Below.trans b2 (hb.mono b2.size), .inr ⟨HR.out.symm, _, rfl, a8.out.own.mono b2.size⟩⟩
end Go.Proofs.Ytocbcobaodefgaa
