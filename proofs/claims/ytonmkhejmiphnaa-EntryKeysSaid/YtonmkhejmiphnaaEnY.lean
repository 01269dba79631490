/-
  The walk of EntryKeys.
-/
import Derived.Test.YtonmkhejmiphnaaEnX
namespace Go.Proofs.Ytonmkhejmiphnaa
open Go.RowKit
set_option linter.unusedVariables false
set_option maxRecDepth 100000
attribute [local go_sem ↓] exec_loadSt exec_loadEn

/-- Two sets in boxes, and what one of them leads to. -/
structure B3 (w : World) (g p : Nat) (D D' : Array Value) (A : Option Addr) (ds : List Bs) (w' : World) : Prop where
  r1 : w'.heap[g]? = some (.cells D 24 (0, 0))
  r2 : w'.heap[p]? = some (.cells D' 24 (0, 0))
  m1 : Byss w' A ds
  bel : Below w.heap.size w w'
  big : w.heap.size ≤ w'.heap.size
theorem B3.on {w : World} {g p : Nat} {D D' : Array Value} {A : Option Addr} {ds : List Bs} {w1 w2 : World} (h : B3 w g p D D' A ds w1) (hB : Below w1.heap.size w1 w2) : B3 w g p D D' A ds w2 :=
  ⟨(hB.block _ (Array.getElem?_eq_some_iff.1 h.r1).1).trans h.r1, (hB.block _ (Array.getElem?_eq_some_iff.1 h.r2).1).trans h.r2, h.m1.on hB, Below.trans h.bel (hB.mono h.big), Nat.le_trans h.big hB.size⟩
theorem key_keys {s : St} (h : canE true (keyS s) = true) : canE true s = sameS s (keyS s) := by
  have h1 : canKeyS s = true := by simp only [canE, if_true, Bool.and_eq_true] at h; exact h.1
  simp [canE, h1]

set_option maxHeartbeats 8000000 in
set_option maxRecDepth 100000 in
theorem EntryKeys_any (s : St) (A : Option Addr) (c : Nat) (w : World) (hS : Byss w A s.ds) (hz : Reach8 s) : Calls Try.prog 8 #[.agg (stC s A c)] w fun e w' => e = .returned (.bool true) ∧ Below w.heap.size w w' := by
  have hsz := Lib.hid hz.sized
  have hl0 := hz.sized.l
  have hszk : Sized (keyS s) := ⟨hz.sized.n, by simp [keyS], (fun x h => by cases h), by simp [keyS]⟩
  have HKK := Lib.hid (@key_keys s)
  obtain ⟨sn, st, sc, srk, skd, sex, sz, sds⟩ := s
  have hks : keyS (⟨sn, st, sc, srk, skd, sex, sz, sds⟩ : St) = (⟨sn, st, sc, 0, 0, 0, [], []⟩ : St) := rfl
  rw [hks] at hszk HKK
  have HSZK := Lib.hid hszk
  clear hz hks hszk
  show Calls Try.prog 8 #[.agg #[.string (bs sn), .int .i64 st, .int .i64 sc, .int .i64 srk, .int .i64 skd, .int .i64 sex, .string (bs sz), .slice A sds.length c]] w fun e w' => e = .returned (.bool true) ∧ Below w.heap.size w w'
  have r1 := row_new (w := w) (k := w.heap.size) (.cells #[.string (bs sn), .int .i64 st, .int .i64 sc, .int .i64 srk, .int .i64 skd, .int .i64 sex, .string (bs sz), .slice A sds.length c] 24 (0, 0)) rfl
  have b0 : Below w.heap.size w (w.alloc (.cells #[.string (bs sn), .int .i64 st, .int .i64 sc, .int .i64 srk, .int .i64 skd, .int .i64 sex, .string (bs sz), .slice A sds.length c] 24)) := Below.alloc (Below.refl _ _) (Nat.le_refl _) _
  have c0 := (cell_of_row _ _ 0 _ _ _ r1).trans rfl
  have c1 := (cell_of_row _ _ 1 _ _ _ r1).trans rfl
  have c2 := (cell_of_row _ _ 2 _ _ _ r1).trans rfl
  have rZ := row_new (w := w.alloc (.cells #[.string (bs sn), .int .i64 st, .int .i64 sc, .int .i64 srk, .int .i64 skd, .int .i64 sex, .string (bs sz), .slice A sds.length c] 24)) (k := w.heap.size + 1) (.cells #[.string ⟨#[]⟩, .int .i64 0, .int .i64 0, .int .i64 0, .int .i64 0, .int .i64 0, .string ⟨#[]⟩, .slice none 0 0] 24 (0, 0)) (by simp)
  have r2 := setRow_heap _ _ _ #[.string (bs sn), .int .i64 st, .int .i64 sc, .int .i64 0, .int .i64 0, .int .i64 0, .string ⟨#[]⟩, .slice none 0 0] _ _ rZ
  have bb : Below w.heap.size w (((w.alloc (.cells #[.string (bs sn), .int .i64 st, .int .i64 sc, .int .i64 srk, .int .i64 skd, .int .i64 sex, .string (bs sz), .slice A sds.length c] 24)).alloc (.cells #[.string ⟨#[]⟩, .int .i64 0, .int .i64 0, .int .i64 0, .int .i64 0, .int .i64 0, .string ⟨#[]⟩, .slice none 0 0] 24)).setRow (w.heap.size + 1) #[.string (bs sn), .int .i64 st, .int .i64 sc, .int .i64 0, .int .i64 0, .int .i64 0, .string ⟨#[]⟩, .slice none 0 0]) := Below.setRow (Below.alloc b0 (by simp) _) (by omega) _
  have q1 : Below (w.heap.size + 1) (w.alloc (.cells #[.string (bs sn), .int .i64 st, .int .i64 sc, .int .i64 srk, .int .i64 skd, .int .i64 sex, .string (bs sz), .slice A sds.length c] 24)) (((w.alloc (.cells #[.string (bs sn), .int .i64 st, .int .i64 sc, .int .i64 srk, .int .i64 skd, .int .i64 sex, .string (bs sz), .slice A sds.length c] 24)).alloc (.cells #[.string ⟨#[]⟩, .int .i64 0, .int .i64 0, .int .i64 0, .int .i64 0, .int .i64 0, .string ⟨#[]⟩, .slice none 0 0] 24)).setRow (w.heap.size + 1) #[.string (bs sn), .int .i64 st, .int .i64 sc, .int .i64 0, .int .i64 0, .int .i64 0, .string ⟨#[]⟩, .slice none 0 0]) := Below.setRow (Below.alloc (Below.refl _ _) (by simp) _) (Nat.le_refl _) _
  have r1' := (q1.block _ (by omega)).trans r1
  have IS : Hid ((Try.prog.info? 24).map (·.size) = some (#[.string (bs sn), .int .i64 st, .int .i64 sc, .int .i64 0, .int .i64 0, .int .i64 0, .string ⟨#[]⟩, .slice none 0 0] : Array Value).size) := Lib.hid info_st
  have OS : Hid ((#[.string (bs sn), .int .i64 st, .int .i64 sc, .int .i64 0, .int .i64 0, .int .i64 0, .string ⟨#[]⟩, .slice none 0 0] : Array Value).all (·.oneCell') = true) := Lib.hid (by simp [Value.oneCell'])
  have S1 : B3 w w.heap.size (w.heap.size + 1) #[.string (bs sn), .int .i64 st, .int .i64 sc, .int .i64 srk, .int .i64 skd, .int .i64 sex, .string (bs sz), .slice A sds.length c] #[.string (bs sn), .int .i64 st, .int .i64 sc, .int .i64 0, .int .i64 0, .int .i64 0, .string ⟨#[]⟩, .slice none 0 0] A sds (((w.alloc (.cells #[.string (bs sn), .int .i64 st, .int .i64 sc, .int .i64 srk, .int .i64 skd, .int .i64 sex, .string (bs sz), .slice A sds.length c] 24)).alloc (.cells #[.string ⟨#[]⟩, .int .i64 0, .int .i64 0, .int .i64 0, .int .i64 0, .int .i64 0, .string ⟨#[]⟩, .slice none 0 0] 24)).setRow (w.heap.size + 1) #[.string (bs sn), .int .i64 st, .int .i64 sc, .int .i64 0, .int .i64 0, .int .i64 0, .string ⟨#[]⟩, .slice none 0 0]) := ⟨r1', r2, hS.on bb, bb, bb.size⟩
  obtain ⟨W1, hW1⟩ : ∃ W1, W1 = ((w.alloc (.cells #[.string (bs sn), .int .i64 st, .int .i64 sc, .int .i64 srk, .int .i64 skd, .int .i64 sex, .string (bs sz), .slice A sds.length c] 24)).alloc (.cells #[.string ⟨#[]⟩, .int .i64 0, .int .i64 0, .int .i64 0, .int .i64 0, .int .i64 0, .string ⟨#[]⟩, .slice none 0 0] 24)).setRow (w.heap.size + 1) #[.string (bs sn), .int .i64 st, .int .i64 sc, .int .i64 0, .int .i64 0, .int .i64 0, .string ⟨#[]⟩, .slice none 0 0] := ⟨_, rfl⟩
  rw [← hW1] at S1
  have HW1 := Lib.hid hW1
  have F1 : ∀ W, B3 w w.heap.size (w.heap.size + 1) #[.string (bs sn), .int .i64 st, .int .i64 sc, .int .i64 srk, .int .i64 skd, .int .i64 sex, .string (bs sz), .slice A sds.length c] #[.string (bs sn), .int .i64 st, .int .i64 sc, .int .i64 0, .int .i64 0, .int .i64 0, .string ⟨#[]⟩, .slice none 0 0] A sds W → loadSt (.pointer (some ⟨w.heap.size, 0, none⟩)) W = .ok (.value (.agg #[.string (bs sn), .int .i64 st, .int .i64 sc, .int .i64 srk, .int .i64 skd, .int .i64 sex, .string (bs sz), .slice A sds.length c])) W := fun W h => loadSt_row h.r1 info_st
  have F2 : ∀ W, B3 w w.heap.size (w.heap.size + 1) #[.string (bs sn), .int .i64 st, .int .i64 sc, .int .i64 srk, .int .i64 skd, .int .i64 sex, .string (bs sz), .slice A sds.length c] #[.string (bs sn), .int .i64 st, .int .i64 sc, .int .i64 0, .int .i64 0, .int .i64 0, .string ⟨#[]⟩, .slice none 0 0] A sds W → loadSt (.pointer (some ⟨w.heap.size + 1, 0, none⟩)) W = .ok (.value (.agg #[.string (bs sn), .int .i64 st, .int .i64 sc, .int .i64 0, .int .i64 0, .int .i64 0, .string ⟨#[]⟩, .slice none 0 0])) W := fun W h => loadSt_row h.r2 info_st
  have EK : Hid (∀ W, Calls Try.prog 10 #[.agg #[.bool true, .string (bs sn), .int .i64 st, .int .i64 sc, .int .i64 0, .int .i64 0, .int .i64 0, .string ⟨#[]⟩, .slice none 0 0]] W (EncPost W true (⟨sn, st, sc, 0, 0, 0, [], []⟩ : St))) := Lib.hid (fun W => Enc_any true (⟨sn, st, sc, 0, 0, 0, [], []⟩ : St) none 0 W (byss_nil W) HSZK.out)
  have CK : Hid (∀ W, Calls Try.prog 21 #[.agg #[.bool true, .string (bs sn), .int .i64 st, .int .i64 sc, .int .i64 0, .int .i64 0, .int .i64 0, .string ⟨#[]⟩, .slice none 0 0]] W fun e w' => e = .returned (.bool (canE true (⟨sn, st, sc, 0, 0, 0, [], []⟩ : St))) ∧ Below W.heap.size W w') := Lib.hid (fun W => dCanE_any true (⟨sn, st, sc, 0, 0, 0, [], []⟩ : St) none 0 W (byss_nil W) (by simp))
  have ES : Hid (∀ W, Byss W A sds → Calls Try.prog 10 #[.agg #[.bool true, .string (bs sn), .int .i64 st, .int .i64 sc, .int .i64 srk, .int .i64 skd, .int .i64 sex, .string (bs sz), .slice A sds.length c]] W (EncPost W true (⟨sn, st, sc, srk, skd, sex, sz, sds⟩ : St))) := Lib.hid (fun W h => Enc_any true (⟨sn, st, sc, srk, skd, sex, sz, sds⟩ : St) A c W h hsz.out)
  have SK : Hid (∀ W, Byss W A sds → Calls Try.prog 15 #[.agg #[.string (bs sn), .int .i64 st, .int .i64 sc, .int .i64 srk, .int .i64 skd, .int .i64 sex, .string (bs sz), .slice A sds.length c], .agg #[.string (bs sn), .int .i64 st, .int .i64 sc, .int .i64 0, .int .i64 0, .int .i64 0, .string ⟨#[]⟩, .slice none 0 0]] W fun e w' => e = .returned (.bool (sameS (⟨sn, st, sc, srk, skd, sex, sz, sds⟩ : St) (⟨sn, st, sc, 0, 0, 0, [], []⟩ : St))) ∧ Below W.heap.size W w') := Lib.hid (fun W h => eSame_any (⟨sn, st, sc, srk, skd, sex, sz, sds⟩ : St) (⟨sn, st, sc, 0, 0, 0, [], []⟩ : St) A none c 0 W h (byss_nil W) (by simp at hl0 ⊢; omega))
  clear hS r1 r2 r1' bb q1 b0 hW1 hl0
  have L2 := F2 _ S1
  go_enter Try.func8, Try.ntmps8
  go_wp2_with (first
    | (refine wpList_store_row rfl 24 (.tmp 3) (.tmp 16) rfl (w.heap.size + 1) #[.string (bs sn), .int .i64 st, .int .i64 sc, .int .i64 0, .int .i64 0, .int .i64 0, .string ⟨#[]⟩, .slice none 0 0] rfl rfl 24 _ rZ IS.out rfl OS.out ?_; rw [← HW1.out])
    | fail)
  refine (EK.out _).mono ?_
  rintro e w1 h
  clear rZ IS OS HW1 c0 c1 c2
  cases hr : canE true (⟨sn, st, sc, 0, 0, 0, [], []⟩ : St) with
  | false =>
    obtain ⟨A1, a1, rfl, hx1, k1⟩ := EncPost.outS h
    have e1 : encL true (⟨sn, st, sc, 0, 0, 0, [], []⟩ : St) = [] := by simp [encL, hr]
    have e2 : encK true (⟨sn, st, sc, 0, 0, 0, [], []⟩ : St) = 1 := by simp [encK, hr]
    rw [e1, e2]
    rw [hr] at CK
    replace S1 := S1.on k1
    have L2 := F2 _ S1
    clear h hx1 k1 HKK EK e1 e2
    go_wp2_with fail
    refine (CK.out _).mono ?_
    rintro e w2 ⟨rfl, k2⟩
    replace S1 := S1.on k2
    clear L2
    go_wp2_with fail
    refine (awakeE _).mono ?_
    rintro e w3 ⟨rfl, k3⟩
    go_wp2_with fail
    go_ret
    exact ⟨rfl, Below.trans S1.bel (k3.mono S1.big)⟩
  | true =>
    obtain ⟨A1, a1, rfl, hx1, k1⟩ := enc_read hr rfl h
    obtain ⟨-, -, hlen⟩ := enc_len hr
    have hlen2 : ((encB true (⟨sn, st, sc, 0, 0, 0, [], []⟩ : St)).length : Int) = 6 + (sn.length : Int) := by have := hlen rfl; simp only at this; omega
    have DB := Lib.hid (fun W (h : Sl W A1 a1 (encB true (⟨sn, st, sc, 0, 0, 0, [], []⟩ : St))) => dec_back hr A1 a1 W h)
    have HR := Lib.hid (HKK.out hr)
    rw [hr] at CK
    replace S1 := S1.on k1
    have L2 := F2 _ S1
    clear h HKK EK hlen
    obtain ⟨x, hx⟩ : ∃ x, x = encB true (⟨sn, st, sc, 0, 0, 0, [], []⟩ : St) := ⟨_, rfl⟩
    have hb := (can_out (show can sn = true by simp only [canE, canKeyS, if_true, Bool.and_eq_true] at hr; exact hr.1.1)).1
    rw [← hx] at hx1 hlen2 DB
    have HW : Hid (wrap64 (6 + (sn.length : Int)) = (x.length : Int)) := Lib.hid (by unfold wrap64; omega)
    rw [← hx]
    clear hx hlen2 hb
    go_wp2_with fail
    refine (CK.out _).mono ?_
    rintro e w2 ⟨rfl, k2⟩
    replace S1 := S1.on k2
    have hx2 := hx1.on k2
    clear L2 hx1 k1
    go_wp2_with fail
    refine (DB.out _ hx2).mono ?_
    rintro e w3 ⟨A', c', rfl, hBy, k3⟩
    replace S1 := S1.on k3
    have rE := row_new (w := w3) (k := w3.heap.size) (.cells #[.bool false, .string ⟨#[]⟩, .int .i64 0, .int .i64 0, .int .i64 0, .int .i64 0, .int .i64 0, .string ⟨#[]⟩, .slice none 0 0] 26 (0, 0)) rfl
    have r6 := setRow_heap _ _ _ (enC true (⟨sn, st, sc, 0, 0, 0, [], []⟩ : St) A' c') _ _ rE
    have bE : Below w3.heap.size w3 ((w3.alloc (.cells #[.bool false, .string ⟨#[]⟩, .int .i64 0, .int .i64 0, .int .i64 0, .int .i64 0, .int .i64 0, .string ⟨#[]⟩, .slice none 0 0] 26)).setRow w3.heap.size (enC true (⟨sn, st, sc, 0, 0, 0, [], []⟩ : St) A' c')) := Below.setRow (Below.alloc (Below.refl _ _) (Nat.le_refl _) _) (Nat.le_refl _) _
    have IE : Hid ((Try.prog.info? 26).map (·.size) = some (enC true (⟨sn, st, sc, 0, 0, 0, [], []⟩ : St) A' c').size) := Lib.hid info_en
    have OE := Lib.hid (en_one true (⟨sn, st, sc, 0, 0, 0, [], []⟩ : St) A' c')
    have ZE : Hid ((#[.bool false, .string ⟨#[]⟩, .int .i64 0, .int .i64 0, .int .i64 0, .int .i64 0, .int .i64 0, .string ⟨#[]⟩, .slice none 0 0] : Array Value).size = (enC true (⟨sn, st, sc, 0, 0, 0, [], []⟩ : St) A' c').size) := Lib.hid rfl
    replace S1 := S1.on bE
    have S6 : Hid (∀ W, W.heap[w3.heap.size]? = some (.cells (enC true (⟨sn, st, sc, 0, 0, 0, [], []⟩ : St) A' c') 26 (0, 0)) → W.cell? ⟨w3.heap.size, 0, none⟩ = some (.bool true) ∧ loadSt (.pointer (some ⟨w3.heap.size, 1, none⟩)) W = .ok (.value (.agg (stC (⟨sn, st, sc, 0, 0, 0, [], []⟩ : St) A' c'))) W) := Lib.hid (fun W h => ⟨(en_cell h).1, loadSt_mid (en_mid h)⟩)
    have SK2 : Hid (∀ W, Calls Try.prog 15 #[.agg (stC (⟨sn, st, sc, 0, 0, 0, [], []⟩ : St) A' c'), .agg #[.string (bs sn), .int .i64 st, .int .i64 sc, .int .i64 0, .int .i64 0, .int .i64 0, .string ⟨#[]⟩, .slice none 0 0]] W fun e w' => e = .returned (.bool true) ∧ Below W.heap.size W w') := Lib.hid (fun W => by have := eSame_any (⟨sn, st, sc, 0, 0, 0, [], []⟩ : St) (⟨sn, st, sc, 0, 0, 0, [], []⟩ : St) A' none c' 0 W (fun h => absurd h (by simp)) (byss_nil W) (by simp); rw [sameS_self] at this; exact this)
    obtain ⟨D', hD'⟩ : ∃ D', D' = enC true (⟨sn, st, sc, 0, 0, 0, [], []⟩ : St) A' c' := ⟨_, rfl⟩
    rw [← hD'] at r6 bE IE OE ZE S1 S6
    rw [← hD']
    obtain ⟨W4, hW4⟩ : ∃ W4, W4 = (w3.alloc (.cells #[.bool false, .string ⟨#[]⟩, .int .i64 0, .int .i64 0, .int .i64 0, .int .i64 0, .int .i64 0, .string ⟨#[]⟩, .slice none 0 0] 26)).setRow w3.heap.size D' := ⟨_, rfl⟩
    rw [← hW4] at r6 S1
    have HW4 := Lib.hid hW4
    generalize stC (⟨sn, st, sc, 0, 0, 0, [], []⟩ : St) A' c' = lb at *
    have L1 := F1 _ S1
    clear hD' hW4 bE hBy k2 k3 hx2 DB CK
    go_wp2_with (first
      | (refine wpList_store_row rfl 26 (.tmp 6) (.tmp 40) rfl w3.heap.size D' rfl rfl 26 _ rE IE.out ZE.out OE.out ?_; rw [← HW4.out])
      | fail)
    refine (ES.out _ S1.m1).mono ?_
    rintro e w5 h
    obtain ⟨A5, a5, rfl, -, k5⟩ := EncPost.outS h
    replace S1 := S1.on k5
    replace r6 := (k5.block _ (Array.getElem?_eq_some_iff.1 r6).1).trans r6
    obtain ⟨f0, f1⟩ := S6.out _ r6
    have L2 := F2 _ S1
    have n0 := (cell_of_row _ _ 0 _ _ _ S1.r1).trans rfl
    have hk : (encK true (⟨sn, st, sc, srk, skd, sex, sz, sds⟩ : St) == 0) = canE true (⟨sn, st, sc, srk, skd, sex, sz, sds⟩ : St) := by unfold encK; cases canE true (⟨sn, st, sc, srk, skd, sex, sz, sds⟩ : St) <;> rfl
    rw [HR.out] at hk
    generalize encL true (⟨sn, st, sc, srk, skd, sex, sz, sds⟩ : St) = xl at *
    generalize encK true (⟨sn, st, sc, srk, skd, sex, sz, sds⟩ : St) = kk at *
    generalize sameS (⟨sn, st, sc, srk, skd, sex, sz, sds⟩ : St) (⟨sn, st, sc, 0, 0, 0, [], []⟩ : St) = ss at *
    clear h L1 rE IE OE ZE HW4 ES k5 HR
    go_wp2_with fail
    refine (SK2.out _).mono ?_
    rintro e w6 ⟨rfl, k6⟩
    replace S1 := S1.on k6
    have L1 := F1 _ S1
    have L2 := F2 _ S1
    have n0 := (cell_of_row _ _ 0 _ _ _ S1.r1).trans rfl
    have hw := HW.out
    clear f0 f1 r6 S6 SK2 k6
    go_wp2_with fail
    refine (SK.out _ S1.m1).mono ?_
    rintro e w7 ⟨rfl, k7⟩
    have he : (ss == ss) = true := by simp
    go_wp2_with fail
    go_ret
    exact ⟨rfl, Below.trans S1.bel (k7.mono S1.big)⟩
end Go.Proofs.Ytonmkhejmiphnaa
