/-
  The walk of EntryTells.
-/
import Derived.Test.YtonmkhejmiphnaaEnR
import Derived.Test.YtonmkhejmiphnaaEnL
import Derived.Test.YtonmkhejmiphnaaEnV
namespace Go.Proofs.Ytonmkhejmiphnaa
open Go.RowKit
set_option linter.unusedVariables false
set_option maxRecDepth 100000
attribute [local go_sem ↓] exec_loadSt

/-- What Encode answers. -/
def encK (d : Bool) (s : St) : Int := if canE d s then 0 else 1
def encL (d : Bool) (s : St) : Bs := if canE d s then encB d s else []
def EncOut (w : World) (d : Bool) (s : St) (e : Ending) (w' : World) : Prop := ∃ A c, e = .returned (.tuple #[.slice A (encL d s).length c, .int .i64 (encK d s)]) ∧ Bys w' A (encL d s) ∧ (encL d s).length ≤ c ∧ c ≤ 9223372036854775807 ∧ (∀ p, A = some p → w.heap.size ≤ p.block ∧ p.block < w'.heap.size) ∧ Below w.heap.size w w'
theorem EncPost.out {w : World} {d : Bool} {s : St} {e : Ending} {w' : World} (h : EncPost w d s e w') : EncOut w d s e w' := by
  obtain ⟨hb, h | ⟨h, v, he, ho⟩⟩ := h
  · obtain ⟨h, rfl⟩ := h
    have e1 : encL d s = [] := by simp [encL, h]
    have e2 : encK d s = 1 := by simp [encK, h]
    exact ⟨none, 0, by rw [e1, e2]; rfl, by rw [e1]; exact fun hn => absurd hn (by simp), by rw [e1]; exact Nat.le_refl _, by omega, (fun p hp => by cases hp), hb⟩
  · have e1 : encL d s = encB d s := by simp [encL, h]
    have e2 : encK d s = 0 := by simp [encK, h]
    rw [← e1] at ho
    obtain ⟨A, c, hv, hB, hc, hm⟩ := ho.bys
    refine ⟨A, c, by rw [he, hv, e2], hB, hc, by unfold maxLen at hm; omega, fun p hp => ?_, hb⟩
    subst hp
    exact ho.lt p.block (by rw [hv]; rfl)

/-- What the operations of EntryTells' drawn head yield. -/
def RT (g B : Nat) (d : Bool) (s : St) (C : Array Value) : Nat → Value → World → Prop
  | 0, x, _ => x = .pointer (some ⟨g, 0, none⟩)
  | 1, x, _ => x = .bool d
  | 2, x, _ => x = .pointer (some ⟨g, 1, none⟩)
  | 3, x, _ => x = .agg C
  | 4, x, w => ∃ A' c', x = .agg (stC s A' c') ∧ ByssT w A' s.ds
  | 5, x, w => ∃ A' c', x = .agg (enC d s A' c') ∧ ByssT w A' s.ds
  | 6, x, w => ∃ p, x = .pointer (some ⟨p, 0, none⟩) ∧ B ≤ p ∧ w.heap[p]? = some (.cells #[.bool false, .string ⟨#[]⟩, .int .i64 0, .int .i64 0, .int .i64 0, .int .i64 0, .int .i64 0, .string ⟨#[]⟩, .slice none 0 0] 26 (0, 0))
  | _, _, _ => True
theorem RT_on {g B : Nat} {d : Bool} {s : St} {C : Array Value} (i : Nat) (v : Value) (w w' : World) (h : RT g B d s C i v w) (hB : Below w.heap.size w w') : RT g B d s C i v w' := by
  match i, h with
  | 0, h => exact h
  | 1, h => exact h
  | 2, h => exact h
  | 3, h => exact h
  | 4, ⟨A', c', h1, h2⟩ => exact ⟨A', c', h1, h2.on hB⟩
  | 5, ⟨A', c', h1, h2⟩ => exact ⟨A', c', h1, h2.on hB⟩
  | 6, ⟨p, h1, h2, h3⟩ => exact ⟨p, h1, h2, (hB.block _ (Array.getElem?_eq_some_iff.1 h3).1).trans h3⟩
  | _ + 7, _ => trivial
def dT (i : Nat) : Nat := if i = 6 then 3 else 8 + i
theorem dT_ne (i : Nat) : dT i ≠ 1 := by
  unfold dT
  split <;> omega

/-- The boxes of EntryTells, and all they lead to. -/
structure TT (w : World) (g p : Nat) (D D' : Array Value) (A A' A1 A2 : Option Addr) (s : St) (l : Bs) (w' : World) : Prop where
  r1 : w'.heap[g]? = some (.cells D 26 (0, 0))
  r3 : w'.heap[p]? = some (.cells D' 26 (0, 0))
  m1 : Byss w' A s.ds
  m3 : Byss w' A' s.ds
  b1 : Bys w' A1 l
  b2 : Bys w' A2 l
  bel : Below w.heap.size w w'
  big : w.heap.size ≤ w'.heap.size
theorem TT.on {w : World} {g p : Nat} {D D' : Array Value} {A A' A1 A2 : Option Addr} {s : St} {l : Bs} {w1 w2 : World} (h : TT w g p D D' A A' A1 A2 s l w1) (hB : Below w1.heap.size w1 w2) : TT w g p D D' A A' A1 A2 s l w2 :=
  ⟨(hB.block _ (Array.getElem?_eq_some_iff.1 h.r1).1).trans h.r1, (hB.block _ (Array.getElem?_eq_some_iff.1 h.r3).1).trans h.r3, h.m1.on hB, h.m3.on hB, h.b1.on hB, h.b2.on hB, Below.trans h.bel (hB.mono h.big), Nat.le_trans h.big hB.size⟩
theorem TT.drew {w : World} {g p : Nat} {D D' : Array Value} {A A' A1 A2 : Option Addr} {s : St} {l : Bs} {w1 : World} (h : TT w g p D D' A A' A1 A2 s l w1) : TT w g p D D' A A' A1 A2 s l w1.drew := h.on (Below.drew (Below.refl _ _))

set_option maxHeartbeats 8000000 in
set_option maxRecDepth 100000 in
theorem EntryTells_any (d : Bool) (s : St) (A : Option Addr) (c : Nat) (w : World) (hS : Byss w A s.ds) (hz : Reach8 s) : Calls Try.prog 3 #[.agg (enC d s A c)] w fun e w' => e = .returned (.bool true) ∧ Below w.heap.size w w' := by
  have r1 := row_new (w := w) (k := w.heap.size) (.cells (enC d s A c) 26 (0, 0)) rfl
  have b0 : Below w.heap.size w (w.alloc (.cells (enC d s A c) 26 (0, 0))) := Below.alloc (Below.refl _ _) (Nat.le_refl _) _
  have hS1 := Lib.hid (hS.on b0)
  have hsz := Lib.hid hz.sized
  have hl0 := hz.sized.l
  have MID := Lib.hid (fun (W : World) (h : W.heap[w.heap.size]? = some (.cells (enC d s A c) 26 (0, 0))) => (⟨(en_cell h).1, en_mid h⟩ : W.cell? ⟨w.heap.size, 0, none⟩ = some (.bool d) ∧ W.rangeAt w.heap.size 1 (stL s A c)))
  have C4 := Lib.hid (fun W (h : Byss W A s.ds) => dCopyT_any s A c W h hz.l hz.d)
  have lt1 : w.heap.size < (w.alloc (.cells (enC d s A c) 26)).heap.size := by simp
  have I1 : Hid ((Try.prog.info? 26).map (·.size) = some (enC d s A c).size) := Lib.hid info_en
  obtain ⟨D, hD⟩ : ∃ D, D = enC d s A c := ⟨_, rfl⟩
  rw [← hD] at r1 b0 MID lt1 hS1 I1
  rw [← hD]
  have HD := Lib.hid hD
  have R1 := Lib.hid r1
  clear hD hS hz r1
  go_enter Try.func3, Try.ntmps3
  go_wp2_with fail
  generalize w.alloc (.cells D 26) = w1 at *
  have s1 := b0.size
  refine wp_region_under 7 (by kernel_rfl) (by kernel_rfl) (by kernel_rfl) rfl (d := dT) (R := RT w.heap.size w1.heap.size d s (stC s A c)) (B := w1.heap.size) (Nat.le_refl _) (fun i j hi hj e => ?_) (fun i hi => ?_) RT_on (fun i hi b a' w' un hr => ?_) (fun V w2 hV hB hs => ?_)
  · unfold dT at e
    split at e <;> split at e <;> omega
  · unfold dT
    split <;> simp <;> omega
  · obtain ⟨_, o, ho, hall⟩ := mem_ready.1 hr
    have t1 : (a'.tmps[1]?).getD undef = .pointer (some ⟨w.heap.size, 0, none⟩) := slot_of ((un.old 1 (fun i _ => dT_ne i)).trans rfl)
    have hrow := (un.bel.block _ lt1).trans R1.out
    have L1 := loadSt_mid (MID.out _ hrow).2
    have d1 := (MID.out _ hrow).1
    have hSr := hS1.out.on un.bel
    have hbg := un.big
    clear hrow
    match i, hi with
    | 0, _ =>
      refine ⟨_, rfl, rfl, ?_⟩
      clear ho hall hr un
      unfold Oper.wp
      go_simp
      exact ⟨_, rfl, rfl, Below.refl _ _⟩
    | 1, _ =>
      obtain rfl := Option.some.inj ho
      have h0 := getD_both_true (hall ⟨0, .data⟩ (by simp) rfl)
      obtain ⟨v, hv, rfl⟩ := un.got 0 (by simp) h0
      have t7 := slot_of (j := 8) hv
      refine ⟨_, rfl, rfl, ?_⟩
      clear ho hall hr hv
      unfold Oper.wp
      go_simp
      exact ⟨_, rfl, rfl, Below.refl _ _⟩
    | 2, _ =>
      refine ⟨_, rfl, rfl, ?_⟩
      clear ho hall hr un
      unfold Oper.wp
      go_simp
      exact ⟨_, rfl, rfl, Below.refl _ _⟩
    | 3, _ =>
      obtain rfl := Option.some.inj ho
      have h0 := getD_both_true (hall ⟨2, .data⟩ (by simp) rfl)
      obtain ⟨v, hv, rfl⟩ := un.got 2 (by simp) h0
      have t7 := slot_of (j := 10) hv
      refine ⟨_, rfl, rfl, ?_⟩
      clear ho hall hr hv
      unfold Oper.wp
      change Oper.upon _ _ _ _ _ (Sem.run _ (execOp a'.eval { dst := some 11, op := .load 24 (.tmp 10), type := 24, pos := _, after := _, guard := none }) w')
      rw [exec_loadSt]
      have he : a'.eval (.tmp 10) = .pointer (some ⟨w.heap.size, 1, none⟩) := by simpa [Act.eval] using t7
      rw [he, L1]
      exact ⟨_, rfl, rfl, Below.refl _ _⟩
    | 4, _ =>
      obtain rfl := Option.some.inj ho
      have h0 := getD_both_true (hall ⟨3, .data⟩ (by simp) rfl)
      obtain ⟨v, hv, rfl⟩ := un.got 3 (by simp) h0
      have t7 := slot_of (j := 11) hv
      refine ⟨_, rfl, rfl, ?_⟩
      clear ho hall hr hv
      generalize hC : stC s A c = C at *
      unfold Oper.wp
      go_simp
      refine (C4.out _ hSr).mono ?_
      rintro e w2 ⟨A2, c2, rfl, k1, _, _, _, k4⟩
      exact ⟨_, rfl, ⟨A2, c2, rfl, k1⟩, k4⟩
    | 5, _ =>
      obtain rfl := Option.some.inj ho
      have h0 := getD_both_true (hall ⟨4, .data⟩ (by simp) rfl)
      obtain ⟨v, hv, A2, c2, rfl, k1⟩ := un.got 4 (by simp) h0
      have t7 := slot_of (j := 12) hv
      have h1 := getD_both_true (hall ⟨1, .data⟩ (by simp) rfl)
      obtain ⟨v1, hv1, rfl⟩ := un.got 1 (by simp) h1
      have t8 := slot_of (j := 9) hv1
      refine ⟨_, rfl, rfl, ?_⟩
      clear ho hall hr hv hv1
      rw [show stC s A2 c2 = #[.string (bs s.n), .int .i64 s.t, .int .i64 s.c, .int .i64 s.rk, .int .i64 s.kd, .int .i64 s.ex, .string (bs s.z), .slice A2 s.ds.length c2] from rfl] at t7
      unfold Oper.wp
      go_simp
      exact ⟨_, rfl, ⟨A2, c2, rfl, k1⟩, Below.refl _ _⟩
    | 6, _ =>
      refine ⟨_, rfl, rfl, ?_⟩
      clear ho hall hr un
      unfold Oper.wp
      go_simp
      exact ⟨_, rfl, ⟨_, rfl, hbg, row_new _ rfl⟩, Below.alloc (Below.refl _ _) (Nat.le_refl _) _⟩
  · have v0 : V 0 = .pointer (some ⟨w.heap.size, 0, none⟩) := hV 0 (by omega)
    have v1 : V 1 = .bool d := hV 1 (by omega)
    have v2 : V 2 = .pointer (some ⟨w.heap.size, 1, none⟩) := hV 2 (by omega)
    have v3 : V 3 = .agg (stC s A c) := hV 3 (by omega)
    obtain ⟨A4, c4, v4, -⟩ : ∃ A' c', V 4 = .agg (stC s A' c') ∧ ByssT w2 A' s.ds := hV 4 (by omega)
    obtain ⟨A', c', v5, hS5⟩ : ∃ A' c', V 5 = .agg (enC d s A' c') ∧ ByssT w2 A' s.ds := hV 5 (by omega)
    obtain ⟨p, v6, hp, r2⟩ : ∃ p, V 6 = .pointer (some ⟨p, 0, none⟩) ∧ w1.heap.size ≤ p ∧ w2.heap[p]? = some (.cells #[.bool false, .string ⟨#[]⟩, .int .i64 0, .int .i64 0, .int .i64 0, .int .i64 0, .int .i64 0, .string ⟨#[]⟩, .slice none 0 0] 26 (0, 0)) := hV 6 (by omega)
    simp only [putAll, dT, Act.put, v0, v1, v2, v3, v4, v5, v6, Nat.reduceEqDiff, Nat.reduceAdd, if_false, if_true, List.setIfInBounds_toArray, List.set_cons_succ, List.set_cons_zero, List.drop_succ_cons, List.drop_zero]
    have r1 := (hB.block _ lt1).trans R1.out
    have plt := (Array.getElem?_eq_some_iff.1 r2).1
    have r1' := (setRow_other w2 p w.heap.size (enC d s A' c') (by omega)).trans r1
    have r2' := setRow_heap _ _ _ (enC d s A' c') _ _ r2
    have b2 : Below w.heap.size w (w2.setRow p (enC d s A' c')) := Below.setRow (Below.trans b0 (hB.mono s1)) (by omega) _
    have hq : Below w1.heap.size w1 (w2.setRow p (enC d s A' c')) := Below.setRow hB hp _
    have hS2 := Lib.hid (hS1.out.on hq)
    have hS3 : Hid (Byss (w2.setRow p (enC d s A' c')) A' s.ds) := Lib.hid (hS5.setRow r2).byss
    have IS : Hid ((Try.prog.info? 26).map (·.size) = some (enC d s A' c').size) := Lib.hid info_en
    have OS := Lib.hid (en_one d s A' c')
    have ZS : Hid ((#[.bool false, .string ⟨#[]⟩, .int .i64 0, .int .i64 0, .int .i64 0, .int .i64 0, .int .i64 0, .string ⟨#[]⟩, .slice none 0 0] : Array Value).size = (enC d s A' c').size) := Lib.hid rfl
    obtain ⟨D', hD'⟩ : ∃ D', D' = enC d s A' c' := ⟨_, rfl⟩
    rw [← hD'] at r1' r2' b2 hS2 hS3 IS OS ZS
    rw [← hD']
    have HD' := Lib.hid hD'
    obtain ⟨W1, hW1⟩ : ∃ W1, W1 = w2.setRow p D' := ⟨_, rfl⟩
    rw [← hW1] at r1' r2' b2 hS2 hS3
    have HW1 := Lib.hid hW1
    have q1 := Lib.hid r1'
    have q3 := Lib.hid r2'
    have E1 := Lib.hid (Enc_any d s A' c' W1 hS3.out hsz.out)
    rw [← hD'] at E1
    have sb := b2.size
    clear hV v0 v1 v2 v3 v4 v5 v6 hS5 r1 r1' r2' hq hB hD' hW1 R1 plt hs hS1 C4 b0
    go_wp2_with (first
      | (refine wpList_store_row rfl 26 (.tmp 3) (.tmp 13) rfl p D' rfl rfl 26 _ r2 IS.out (by first | exact ZS.out | exact ZS.out.symm) OS.out ?_; rw [← HW1.out])
      | (refine wpList_load_row rfl 26 (.tmp 3) rfl p rfl 26 D' (0, 0) _ q3.out Try.underlying26 rfl IS.out ?_)
      | fail)
    refine E1.out.mono ?_
    rintro e w3 h
    obtain ⟨A1, c1, rfl, hb1, _, _, _, k3⟩ := EncPost.out h
    have hr1 := (k3.block _ (Array.getElem?_eq_some_iff.1 q1.out).1).trans q1.out
    have hr3 := (k3.block _ (Array.getElem?_eq_some_iff.1 q3.out).1).trans q3.out
    have hm1 := hS2.out.on k3
    have hm3 := hS3.out.on k3
    obtain ⟨b3, s3⟩ := Below.next b2 sb k3
    have E2 := Lib.hid (dEnc_any d s A c w3 hm1 hl0)
    rw [← HD.out] at E2
    have Q1 := Lib.hid hr1
    clear h k3 q1 q3 hS2 hS3 b2 sb r2 E1 OS ZS HW1
    go_wp2_with (first
      | (refine wpList_load_row rfl 26 (.tmp 1) rfl w.heap.size rfl 26 D (0, 0) _ Q1.out Try.underlying26 rfl I1.out ?_)
      | fail)
    refine E2.out.mono ?_
    rintro e w4 h
    obtain ⟨A2, c2, rfl, hb2, _, _, _, k4⟩ := EncPost.out h
    have S0 : TT w w.heap.size p D D' A A' A1 A2 s (encL d s) w4 := ⟨(k4.block _ (Array.getElem?_eq_some_iff.1 hr1).1).trans hr1, (k4.block _ (Array.getElem?_eq_some_iff.1 hr3).1).trans hr3, hm1.on k4, hm3.on k4, hb1.on k4, hb2, Below.trans b3 (k4.mono s3), Nat.le_trans s3 k4.size⟩
    have F1 : ∀ W, TT w w.heap.size p D D' A A' A1 A2 s (encL d s) W → loadSt (.pointer (some ⟨w.heap.size, 1, none⟩)) W = .ok (.value (.agg (stC s A c))) W := fun W h => loadSt_mid (MID.out _ h.r1).2
    have F3 : ∀ W, TT w w.heap.size p D D' A A' A1 A2 s (encL d s) W → loadSt (.pointer (some ⟨p, 1, none⟩)) W = .ok (.value (.agg (stC s A' c'))) W := fun W h => loadSt_mid (en_mid (by rw [← HD'.out]; exact h.r3))
    have K1 := Lib.hid (fun W (h : TT w w.heap.size p D D' A A' A1 A2 s (encL d s) W) => by have := EqualB_any A1 A2 (encL d s) (encL d s) (encL d s).length (encL d s).length c1 c2 W h.b1 h.b2 rfl rfl; rw [show (encL d s == encL d s) = true by simp] at this; exact this)
    have K2 := Lib.hid (fun W (h : TT w w.heap.size p D D' A A' A1 A2 s (encL d s) W) => Can8_any s A' c' W h.m3 hsz.out)
    have K3 := Lib.hid (fun W (h : TT w w.heap.size p D D' A A' A1 A2 s (encL d s) W) => dCan8_any s A c W h.m1 hl0)
    have K4 := Lib.hid (fun W (h : TT w w.heap.size p D D' A A' A1 A2 s (encL d s) W) => by have := eSame_any s s A' A c' c W h.m3 h.m1 (by omega); rw [sameS_self] at this; exact this)
    clear h k4 hm1 hm3 hb1 hb2 b3 s3 E2 Q1 hr1 hr3 MID
    generalize encL d s = l at *
    generalize encK d s = k at *
    generalize canS s = r at *
    generalize hla : stC s A c = la at *
    generalize hlb : stC s A' c' = lb at *
    clear hla hlb HD HD' IS I1
    have e1 : (k == k) = true := by simp
    have e2 : (r == r) = true := by simp
    go_wp2_with fail
    go_region_held3 (fun w' => TT w w.heap.size p D D' A A' A1 A2 s l w')
      (first | assumption | exact TT.drew (by assumption) | exact TT.on (by assumption) (by assumption))
      (first
        | (go_at_call 12; (with_reducible refine (K1.out _ (by assumption)).mono ?_); rintro e w' ⟨rfl, rfl⟩)
        | (go_at_call 13; (with_reducible refine (K2.out _ (by assumption)).mono ?_); rintro e w' ⟨rfl, hBx⟩)
        | (go_at_call 14; (with_reducible refine (K3.out _ (by assumption)).mono ?_); rintro e w' ⟨rfl, hBx⟩)
        | (go_at_call 15; (with_reducible refine (K4.out _ (by assumption)).mono ?_); rintro e w' ⟨rfl, hBx⟩)
        | (go_at_call 16; (with_reducible refine (awakeE _).mono ?_); rintro e w' ⟨rfl, hBx⟩))
    go_wp2_with fail
    go_ret
    exact ⟨rfl, TT.bel (g := w.heap.size) (p := p) (D := D) (D' := D') (A := A) (A' := A') (A1 := A1) (A2 := A2) (s := s) (l := l) (by assumption)⟩
end Go.Proofs.Ytonmkhejmiphnaa
