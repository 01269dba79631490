/-
  The document's bytes of an entry.
-/
import Derived.Test.YtbeggckkgaoacaaGe
namespace Go.Proofs.Ytbeggckkgaoacaa
open Go.RowKit
set_option linter.unusedVariables false
set_option maxRecDepth 100000
attribute [local go_sem ↓] exec_loadSt

/-- A set that the document writes. -/
structure Wr (s : St) : Prop where
  n : s.n.length ≤ 255
  z : s.z.length ≤ 255
  t : ∃ n : Nat, s.t = n ∧ n ≤ 65535
  c : ∃ n : Nat, s.c = n ∧ n ≤ 65535
  r : ∃ n : Nat, s.rk = n ∧ n ≤ 3
  k : ∃ n : Nat, s.kd = n ∧ n ≤ 2
  e : ∃ n : Nat, s.ex = n ∧ n ≤ 1099511627776
  l : s.ds.length ≤ 4000
  d : ∀ x ∈ s.ds, x.length ≤ 65535
theorem bys_big {w : World} {g : Nat} {l : Bs} {t : TypeId} (h : w.heap[g]? = some (.cells (l.map byteV).toArray t (0, 0))) : Bys w (some ⟨g, 0, none⟩) l := fun _ => by
  refine ⟨g, 0, rfl, fun j hj => ?_⟩
  rw [cell_of_row _ g (0 + j) _ _ _ h]
  simp [hj, byteV]

theorem bys_new {w : World} {cs : Array Value} {t : TypeId} {l : Bs} (h : cs = (l.map byteV).toArray) : Bys (w.alloc (.cells cs t)) (some ⟨w.heap.size, 0, none⟩) l := by
  subst h
  exact bys_big (row_new _ rfl)
theorem parts_bd {L : List Bs} (h : ∀ x ∈ L, x.length ≤ 65535) : (partsB 2 L).length ≤ 65537 * L.length := by
  induction L with
  | nil => simp [partsB]
  | cons x L ih =>
    have h1 := h x (by simp)
    have h2 := ih (fun y hy => h y (by simp [hy]))
    unfold partsB at *
    rw [List.flatMap_cons, List.length_append, List.length_cons]
    have : (partB 2 x).length = 2 + x.length := by simp [partB, big_len]
    omega
set_option maxHeartbeats 8000000 in
set_option maxRecDepth 100000 in
theorem dBytes_any (d : Bool) (s : St) (A : Option Addr) (c : Nat) (w : World) (hS : Byss w A s.ds) (hw : Wr s) : Calls Try.prog 81 #[.agg (enC d s A c)] w fun e w' => ∃ v, e = .returned v ∧ OwnB w' w.heap.size v (encB d s) ∧ Below w.heap.size w w' := by
  have r0 := row_new (w := w) (k := w.heap.size) (.cells (enC d s A c) 100 (0, 0)) rfl
  have d0 := (en_cell r0).1
  have L0 := loadSt_mid (en_mid r0)
  have b0 : Below w.heap.size w (w.alloc (.cells (enC d s A c) 100 (0, 0))) := Below.alloc (Below.refl _ _) (Nat.le_refl _) _
  have MID := Lib.hid (fun (W : World) (h : W.heap[w.heap.size]? = some (.cells (enC d s A c) 100 (0, 0))) => (en_cell h).1)
  obtain ⟨hnl, hzl, ⟨tn, ht, htl⟩, ⟨cn, hc, hcl⟩, ⟨rn, hr, hrl⟩, ⟨kn, hk, hkl⟩, ⟨en, he, hel⟩, hll, hdl⟩ := hw
  have CE := Lib.hid (fun (W : World) (h : W.heap[w.heap.size + 1]? = some (.cells (stC s A c) 29 (0, 0))) => by have := st_cell h; rw [ht, hc, hr, hk, he] at this; exact this)
  have IS : Hid ((Try.prog.info? 29).map (·.size) = some (stC s A c).size) := Lib.hid info_st
  have OS := Lib.hid (st_one s A c)
  have ZS : Hid ((#[.string ⟨#[]⟩, .int .i64 0, .int .i64 0, .int .i64 0, .int .i64 0, .int .i64 0, .string ⟨#[]⟩, .slice none 0 0] : Array Value).size = (stC s A c).size) := Lib.hid rfl
  have HT : Hid (([1] ++ partB 1 s.n ++ bigs 2 [tn, cn]) = encB true s) := Lib.hid (by simp [encB, headB, ht, hc])
  have HF : Hid (([0] ++ partB 1 s.n ++ bigs 2 [tn, cn] ++ (bigs 1 [rn, kn] ++ bigs 8 [en] ++ partB 1 s.z ++ bigs 2 [s.ds.length] ++ partsB 2 s.ds)) = encB false s) := Lib.hid (by simp [encB, headB, tailB, ht, hc, hr, hk, he])
  obtain ⟨nm, hnm⟩ : ∃ x, x = s.n := ⟨_, rfl⟩
  obtain ⟨z, hz⟩ : ∃ x, x = s.z := ⟨_, rfl⟩
  obtain ⟨L, hL⟩ : ∃ x, x = s.ds := ⟨_, rfl⟩
  rw [← hnm, ← hz, ← hL] at CE HF
  rw [← hnm] at HT hnl
  rw [← hz] at hzl
  rw [← hL] at hll hdl hS
  have HD := Lib.hid hdl
  clear ht hc hr hk he hnm hz hL r0 hdl
  obtain ⟨C, hC⟩ : ∃ C, C = stC s A c := ⟨_, rfl⟩
  rw [← hC] at CE IS OS ZS L0
  generalize hD : enC d s A c = D at *
  have rZ := row_new (w := w.alloc (.cells D 100)) (k := w.heap.size + 1) (.cells #[.string ⟨#[]⟩, .int .i64 0, .int .i64 0, .int .i64 0, .int .i64 0, .int .i64 0, .string ⟨#[]⟩, .slice none 0 0] 29 (0, 0)) (by simp)
  have r1 := setRow_heap _ _ _ C _ _ rZ
  have b1 : Below w.heap.size w (((w.alloc (.cells D 100)).alloc (.cells #[.string ⟨#[]⟩, .int .i64 0, .int .i64 0, .int .i64 0, .int .i64 0, .int .i64 0, .string ⟨#[]⟩, .slice none 0 0] 29)).setRow (w.heap.size + 1) C) := Below.setRow (Below.alloc b0 (by simp) _) (by omega) _
  have q1 : Below (w.heap.size + 1) (w.alloc (.cells D 100)) (((w.alloc (.cells D 100)).alloc (.cells #[.string ⟨#[]⟩, .int .i64 0, .int .i64 0, .int .i64 0, .int .i64 0, .int .i64 0, .string ⟨#[]⟩, .slice none 0 0] 29)).setRow (w.heap.size + 1) C) := Below.setRow (Below.alloc (Below.refl _ _) (by simp) _) (Nat.le_refl _) _
  have sz1 : (((w.alloc (.cells D 100)).alloc (.cells #[.string ⟨#[]⟩, .int .i64 0, .int .i64 0, .int .i64 0, .int .i64 0, .int .i64 0, .string ⟨#[]⟩, .slice none 0 0] 29)).setRow (w.heap.size + 1) C).heap.size = w.heap.size + 2 := by rw [size_setRow]; simp
  have dr := (q1.block w.heap.size (by omega)).trans (row_new (w := w) (k := w.heap.size) (.cells D 100 (0, 0)) rfl)
  obtain ⟨W1, hW1⟩ : ∃ W1, W1 = ((w.alloc (.cells D 100)).alloc (.cells #[.string ⟨#[]⟩, .int .i64 0, .int .i64 0, .int .i64 0, .int .i64 0, .int .i64 0, .string ⟨#[]⟩, .slice none 0 0] 29)).setRow (w.heap.size + 1) C := ⟨_, rfl⟩
  rw [← hW1] at r1 b1 sz1 dr
  have HW1 := Lib.hid hW1
  have plt : w.heap.size + 1 < W1.heap.size := by omega
  have hx1 : BX W1 W1.heap.size (w.heap.size + 1) C 29 W1 := ⟨r1, plt, Nat.le_refl _, Below.refl _ _⟩
  have hS1 := Lib.hid (hS.on b1)
  have d1 := MID.out _ dr
  obtain ⟨c0, c1, c2, c3, c4, c5, c6, c7⟩ := CE.out _ r1
  have z0 := bs_size nm
  clear hC hD hW1 q1 b0 sz1 hS
  have ho := OwnR.made (w := W1) (base := W1.heap.size) (l := [0, UInt8.ofNat nm.length]) (cs := #[.int .u8 0, .int .u8 (nm.length : Int)]) (Nat.le_refl _) (by simp [byteV]; omega) (by simp [maxLen])
  have hx2 := hx1.alloc (.cells #[.int .u8 0, .int .u8 (nm.length : Int)] 5)
  have DR := Lib.hid dr
  cases d with
  | false =>
    have d2 : (W1.alloc (.cells #[.int .u8 0, .int .u8 (nm.length : Int)] 5)).cell? ⟨w.heap.size, 0, none⟩ = some (.bool false) := cell_on d1 (Below.alloc (Below.refl _ _) (Nat.le_refl _) _)
    go_enter Try.func81, Try.ntmps81
    go_wp2_with (first
      | (refine wpList_store_row rfl 29 (.tmp 3) (.tmp 8) rfl (w.heap.size + 1) C rfl rfl 29 _ rZ IS.out (by first | exact ZS.out | exact ZS.out.symm) OS.out ?_; rw [← HW1.out])
      | fail)
    clear c0 c1 c2 c3 c4 c5 c6 c7 d1 d2 L0 d0 rZ IS OS ZS HW1 z0
    simp only [List.length_cons, List.length_nil, Nat.reduceAdd] at ho
    generalize W1.alloc (.cells #[.int .u8 0, .int .u8 (nm.length : Int)] 5) = W2 at *
    obtain ⟨l0, hl0⟩ : ∃ l, l = [0, UInt8.ofNat nm.length] := ⟨_, rfl⟩
    rw [← hl0] at ho
    have G0 : Hid (l0.length + nm.length ≤ 140737488355328) := Lib.hid (by rw [hl0]; simp; omega)
    have G1 : Hid ((l0 ++ nm).length + (big 2 tn).length ≤ 140737488355328) := Lib.hid (by rw [hl0, big_len]; simp; omega)
    have G2 : Hid ((l0 ++ nm ++ big 2 tn).length + (big 2 cn).length ≤ 140737488355328) := Lib.hid (by rw [hl0, big_len]; simp [big_len]; omega)
    have HL0 := Lib.hid hl0
    clear hl0 hx1
    have F0 : ∀ W, BX W1 W1.heap.size (w.heap.size + 1) C 29 W → W.cell? ⟨w.heap.size + 1, 0, none⟩ = some (.string (bs nm)) := fun W h => (CE.out _ h.row).1
    have F1 : ∀ W, BX W1 W1.heap.size (w.heap.size + 1) C 29 W → W.cell? ⟨w.heap.size + 1, 1, none⟩ = some (.int .i64 (tn : Nat)) := fun W h => (CE.out _ h.row).2.1
    have F2 : ∀ W, BX W1 W1.heap.size (w.heap.size + 1) C 29 W → W.cell? ⟨w.heap.size + 1, 2, none⟩ = some (.int .i64 (cn : Nat)) := fun W h => (CE.out _ h.row).2.2.1
    have K1 : Hid (∀ W, Calls Try.prog 97 #[.int .i64 tn, .int .i64 2] W fun e w' => e = .returned (.slice (some ⟨W.heap.size, 0, none⟩) 2 2) ∧ w'.heap[W.heap.size]? = some (.cells ((big 2 tn).map byteV).toArray 5 (0, 0)) ∧ Below W.heap.size W w') := Lib.hid (fun W => Big_any tn 2 (by omega) (by omega) W)
    have K2 : Hid (∀ W, Calls Try.prog 97 #[.int .i64 cn, .int .i64 2] W fun e w' => e = .returned (.slice (some ⟨W.heap.size, 0, none⟩) 2 2) ∧ w'.heap[W.heap.size]? = some (.cells ((big 2 cn).map byteV).toArray 5 (0, 0)) ∧ Below W.heap.size W w') := Lib.hid (fun W => Big_any cn 2 (by omega) (by omega) W)
    go_region_held3 (fun w' => BX W1 W1.heap.size (w.heap.size + 1) C 29 w')
      (first | assumption | exact BX.drew (by assumption) | exact BX.on (by assumption) (by assumption) | exact BX.gr (by assumption) (by assumption) (by assumption))
      (first
        | ((refine step_str (by rfl) (.tmp 18) (.tmp 20) (by rfl) W1.heap.size _ l0 (by rfl) (by first | assumption | exact OwnR.drew (by assumption)) nm (by rfl) G0.out (BX.big (by assumption)) ?_); intro v3 w3 ho3 hg3)
        | ((refine step_app (by rfl) (.tmp 21) (.tmp 24) (by rfl) W1.heap.size _ (l0 ++ nm) (by rfl) (by assumption) _ _ _ (by rfl) (big 2 tn) (by rfl) (by assumption) G1.out (BX.big (by assumption)) ?_); intro v5 w5 ho5 hg5)
        | ((refine step_app (by rfl) (.tmp 25) (.tmp 28) (by rfl) W1.heap.size _ (l0 ++ nm ++ big 2 tn) (by rfl) (by assumption) _ _ _ (by rfl) (big 2 cn) (by rfl) (by assumption) G2.out (BX.big (by assumption)) ?_); intro v7 w7 ho7 hg7)
        | (go_at_call 97; (with_reducible refine (K1.out _).mono ?_); rintro e w4 ⟨rfl, hr4, hBx4⟩; have hy4 := bys_big hr4; have ho4 := OwnR.below ho3 hBx4)
        | (go_at_call 97; (with_reducible refine (K2.out _).mono ?_); rintro e w6 ⟨rfl, hr6, hBx6⟩; have hy6 := bys_big hr6; have ho6 := OwnR.below ho5 hBx6))
    have hb7 : BX W1 W1.heap.size (w.heap.size + 1) C 29 w7 := by assumption
    have d7 := MID.out _ ((hb7.bel.block _ (by omega)).trans DR.out)
    obtain ⟨m1, hm1⟩ : ∃ l, l = l0 ++ nm ++ big 2 tn ++ big 2 cn := ⟨_, rfl⟩
    rw [← hm1] at ho7
    have ll1 : m1.length ≤ 300 := by rw [hm1, HL0.out]; simp [big_len]; omega
    have HM1 := Lib.hid hm1
    clear F0 F1 F2 K1 K2 ho3 hg3 hr4 hBx4 hy4 ho4 ho5 hg5 hr6 hBx6 hy6 ho6 hg7 ho hx2 r1 dr G0 G1 G2 hm1
    go_wp2_with fail
    have F3 : ∀ W, BX W1 W1.heap.size (w.heap.size + 1) C 29 W → W.cell? ⟨w.heap.size + 1, 3, none⟩ = some (.int .i64 (rn : Nat)) := fun W h => (CE.out _ h.row).2.2.2.1
    have F4 : ∀ W, BX W1 W1.heap.size (w.heap.size + 1) C 29 W → W.cell? ⟨w.heap.size + 1, 4, none⟩ = some (.int .i64 (kn : Nat)) := fun W h => (CE.out _ h.row).2.2.2.2.1
    have F5 : ∀ W, BX W1 W1.heap.size (w.heap.size + 1) C 29 W → W.cell? ⟨w.heap.size + 1, 5, none⟩ = some (.int .i64 (en : Nat)) := fun W h => (CE.out _ h.row).2.2.2.2.2.1
    have wr1 : IntKind.u8.wrap (rn : Int) = rn := IntWalk.u8_in _ (by omega)
    have wr2 : IntKind.u8.wrap (kn : Int) = kn := IntWalk.u8_in _ (by omega)
    have HCS : Hid (#[Value.int .u8 (rn : Nat), .int .u8 (kn : Nat)] = ((bigs 1 [rn, kn]).map byteV).toArray) := Lib.hid (by simp [bigs, big, byteV]; omega)
    have K3 : Hid (∀ W, Calls Try.prog 97 #[.int .i64 en, .int .i64 8] W fun e w' => e = .returned (.slice (some ⟨W.heap.size, 0, none⟩) 8 8) ∧ w'.heap[W.heap.size]? = some (.cells ((big 8 en).map byteV).toArray 5 (0, 0)) ∧ Below W.heap.size W w') := Lib.hid (fun W => Big_any en 8 (by omega) (by omega) W)
    have G3 : Hid (m1.length + (bigs 1 [rn, kn]).length ≤ 140737488355328) := Lib.hid (by rw [bigs_len]; simp; omega)
    have G4 : Hid ((m1 ++ bigs 1 [rn, kn]).length + (big 8 en).length ≤ 140737488355328) := Lib.hid (by rw [List.length_append, bigs_len, big_len]; simp; omega)
    go_region_held3 (fun w' => BX W1 W1.heap.size (w.heap.size + 1) C 29 w')
      (first | assumption | exact BX.drew (by assumption) | exact BX.on (by assumption) (by assumption) | exact BX.alloc (by assumption) _ | exact BX.gr (by assumption) (by assumption) (by assumption) | exact BX.gr (by assumption) (OwnR.alloc (by assumption) _) (by assumption) | exact BX.gr (by assumption) (OwnR.alloc (OwnR.drew (by assumption)) _) (by assumption))
      (first
        | ((refine step_app (by rfl) (.tmp 33) (.tmp 40) (by rfl) W1.heap.size _ m1 (by rfl) (by first | assumption | exact OwnR.alloc (OwnR.drew (by assumption)) _ | exact OwnR.alloc (by assumption) _) _ _ _ (by rfl) (bigs 1 [rn, kn]) (by rfl) (bys_new HCS.out) G3.out (BX.big (by assumption)) ?_); intro v8 w8 ho8 hg8)
        | ((refine step_app (by rfl) (.tmp 41) (.tmp 44) (by rfl) W1.heap.size _ (m1 ++ bigs 1 [rn, kn]) (by rfl) (by assumption) _ _ _ (by rfl) (big 8 en) (by rfl) (by assumption) G4.out (BX.big (by assumption)) ?_); intro v10 w10 ho10 hg10)
        | (go_at_call 97; (with_reducible refine (K3.out _).mono ?_); rintro e w9 ⟨rfl, hr9, hBx9⟩; have hy9 := bys_big hr9; have ho9 := OwnR.below ho8 hBx9))
    have hb10 : BX W1 W1.heap.size (w.heap.size + 1) C 29 w10 := by assumption
    obtain ⟨m2, hm2⟩ : ∃ l, l = m1 ++ bigs 1 [rn, kn] ++ big 8 en := ⟨_, rfl⟩
    rw [← hm2] at ho10
    have ll2 : m2.length ≤ 310 := by rw [hm2, List.length_append, List.length_append, bigs_len, big_len]; simp; omega
    have HM2 := Lib.hid hm2
    clear wr1 wr2 F3 F4 F5 HCS K3 G3 G4 hg8 ho8 hr9 hBx9 hy9 ho9 hg10 hm2 ho7 hb7 d7
    go_wp2_with fail
    have F6 : ∀ W, BX W1 W1.heap.size (w.heap.size + 1) C 29 W → W.cell? ⟨w.heap.size + 1, 6, none⟩ = some (.string (bs z)) := fun W h => (CE.out _ h.row).2.2.2.2.2.2.1
    have z6 := bs_size z
    have wr1 : IntKind.u8.wrap (z.length : Int) = z.length := IntWalk.u8_in _ (by omega)
    have HCS : Hid (#[Value.int .u8 (z.length : Nat)] = ((big 1 z.length).map byteV).toArray) := Lib.hid (by simp [big, byteV]; omega)
    have G5 : Hid (m2.length + (big 1 z.length).length ≤ 140737488355328) := Lib.hid (by rw [big_len]; omega)
    have G6 : Hid ((m2 ++ big 1 z.length).length + z.length ≤ 140737488355328) := Lib.hid (by rw [List.length_append, big_len]; omega)
    go_region_held3 (fun w' => BX W1 W1.heap.size (w.heap.size + 1) C 29 w')
      (first | assumption | exact BX.drew (by assumption) | exact BX.on (by assumption) (by assumption) | exact BX.alloc (by assumption) _ | exact BX.gr (by assumption) (by assumption) (by assumption) | exact BX.gr (by assumption) (OwnR.alloc (by assumption) _) (by assumption) | exact BX.gr (by assumption) (OwnR.alloc (OwnR.drew (by assumption)) _) (by assumption))
      (first
        | ((refine step_app (by rfl) (.tmp 46) (.tmp 51) (by rfl) W1.heap.size _ m2 (by rfl) (by first | assumption | exact OwnR.alloc (OwnR.drew (by assumption)) _ | exact OwnR.alloc (by assumption) _) _ _ _ (by rfl) (big 1 z.length) (by rfl) (bys_new HCS.out) G5.out (BX.big (by assumption)) ?_); intro v11 w11 ho11 hg11)
        | ((refine step_str (by rfl) (.tmp 52) (.tmp 54) (by rfl) W1.heap.size _ (m2 ++ big 1 z.length) (by rfl) (by assumption) z (by rfl) G6.out (BX.big (by assumption)) ?_); intro v12 w12 ho12 hg12))
    have hb12 : BX W1 W1.heap.size (w.heap.size + 1) C 29 w12 := by assumption
    obtain ⟨m3, hm3⟩ : ∃ l, l = m2 ++ big 1 z.length ++ z := ⟨_, rfl⟩
    rw [← hm3] at ho12
    have ll3 : m3.length ≤ 570 := by rw [hm3, List.length_append, List.length_append, big_len]; omega
    have HM3 := Lib.hid hm3
    clear wr1 F6 z6 HCS G5 G6 hg11 ho11 hg12 hm3 ho10 hb10
    have c7 := (CE.out _ hb12.row).2.2.2.2.2.2.2
    obtain ⟨n, hn⟩ : ∃ n, n = L.length := ⟨_, rfl⟩
    rw [← hn] at c7 hll HF CE
    have HN := Lib.hid hn
    clear hn
    have K4 : Hid (Calls Try.prog 97 #[.int .i64 n, .int .i64 2] w12 fun e w' => e = .returned (.slice (some ⟨w12.heap.size, 0, none⟩) 2 2) ∧ w'.heap[w12.heap.size]? = some (.cells ((big 2 n).map byteV).toArray 5 (0, 0)) ∧ Below w12.heap.size w12 w') := Lib.hid (Big_any n 2 (by omega) (by omega) w12)
    go_wp2_with fail
    refine K4.out.mono ?_
    rintro e w13 ⟨rfl, hr13, hB13⟩
    have hb13 := hb12.on hB13
    have ho13 := Lib.hid (ho12.below hB13)
    have hy13 := Lib.hid (bys_big hr13)
    have HB13 := Lib.hid hb13
    have bg13 := hb13.big
    have G7 : Hid (m3.length + (big 2 n).length ≤ 140737488355328) := Lib.hid (by rw [big_len]; omega)
    clear hr13 hB13 hb12 ho12 c7 K4 hb13
    go_wp2_with (first
      | (at_builtin; refine wpList_appR rfl _ _ rfl W1.heap.size _ m3 rfl ho13.out (some ⟨w12.heap.size, 0, none⟩) 2 2 rfl (big 2 n) rfl hy13.out (fun h => by cases h) G7.out bg13 ?_)
      | fail)
    intro v14 w14 ho14 hg14
    have hb14 := BX.gr hg14 ho13.out HB13.out
    obtain ⟨m4, hm4⟩ : ∃ l, l = m3 ++ big 2 n := ⟨_, rfl⟩
    rw [← hm4] at ho14
    have ll4 : m4.length ≤ 580 := by rw [hm4, List.length_append, big_len]; omega
    have HM4 := Lib.hid hm4
    have HO14 := Lib.hid ho14
    have HB14 := Lib.hid hb14
    have c7 := (CE.out _ hb14.row).2.2.2.2.2.2.2
    have HE : Hid (m4 = m4 ++ partsB 2 (L.take 0)) := Lib.hid (by simp [partsB])
    clear hg14 ho13 hy13 HB13 bg13 G7 hm4 ho14 hb14
    go_wp2_with fail
    go_loopw [4, 65] (fun v i wr => ∃ k : Nat, i = .int .i64 k ∧ k ≤ n ∧ OwnR wr W1.heap.size v (m4 ++ partsB 2 (L.take k)) ∧ BX W1 W1.heap.size (w.heap.size + 1) C 29 wr) (fun _ i _ => n - (intOf i).toNat)
    case atStart => exact ⟨0, rfl, by omega, by rw [← HE.out]; exact HO14.out, HB14.out⟩
    case round =>
      obtain ⟨k, rfl, hk, hown, hbx⟩ := hrel
      clear HE HO14 HB14 c7
      by_cases hlt : k < n
      · have hlt' : (k : Int) < (n : Int) := by omega
        have kL : k < L.length := by have := HN.out; omega
        obtain ⟨g1, o1, rfl, hc1⟩ := id hS1.out (by omega)
        obtain ⟨a1, e1, C0, D1, y1, y2, N1⟩ := hc1 k kL
        have C1 := cell_on C0 hbx.bel
        have hxd := HD.out L[k] (List.getElem_mem kL)
        have hnx := partsB_next 2 kL
        have hbd := parts_bd (L := L.take k) (fun x hx => HD.out x (List.mem_of_mem_take hx))
        rw [List.length_take] at hbd
        generalize L[k] = x at *
        obtain ⟨l, hl⟩ : ∃ l, l = m4 ++ partsB 2 (L.take k) := ⟨_, rfl⟩
        rw [← hl] at hown
        have lll : l.length ≤ 300000000 := by rw [hl, List.length_append]; omega
        have HX : Hid (m4 ++ partsB 2 (L.take (k + 1)) = l ++ (big 2 x.length ++ x)) := Lib.hid (by rw [hnx, hl]; simp)
        have K5 : Hid (Calls Try.prog 97 #[.int .i64 x.length, .int .i64 2] wr fun e w' => e = .returned (.slice (some ⟨wr.heap.size, 0, none⟩) 2 2) ∧ w'.heap[wr.heap.size]? = some (.cells ((big 2 x.length).map byteV).toArray 5 (0, 0)) ∧ Below wr.heap.size wr w') := Lib.hid (Big_any x.length 2 (by omega) (by omega) wr)
        have HO := Lib.hid hown
        have HBX := Lib.hid hbx
        have HD1 := Lib.hid D1
        have HN1 := Lib.hid N1
        have G8 : Hid (l.length + (big 2 x.length).length ≤ 140737488355328) := Lib.hid (by rw [big_len]; omega)
        have G9 : Hid ((l ++ big 2 x.length).length + x.length ≤ 140737488355328) := Lib.hid (by rw [List.length_append, big_len]; omega)
        clear hown hbx D1 N1 hc1 hnx hbd hl lll hxd C0 y1 y2
        go_wp2_with fail
        refine K5.out.mono ?_
        rintro e w15 ⟨rfl, hr15, hB15⟩
        have hb15 := HBX.out.on hB15
        have ho15 := Lib.hid (HO.out.below hB15)
        have hy15 := Lib.hid (bys_big hr15)
        have HB15 := Lib.hid hb15
        have bg15 := hb15.big
        clear hr15 hB15 hb15 K5 HO C1
        go_wp2_with (first
          | (at_builtin; refine wpList_appR rfl _ _ rfl W1.heap.size _ l rfl ho15.out (some ⟨wr.heap.size, 0, none⟩) 2 2 rfl (big 2 x.length) rfl hy15.out (fun h => by cases h) G8.out bg15 ?_)
          | fail)
        intro v16 w16 ho16 hg16
        have hb16 := BX.gr hg16 ho15.out HB15.out
        have HO16 := Lib.hid ho16
        have HB16 := Lib.hid hb16
        have bg16 := hb16.big
        have HK16 := Lib.hid (HD1.out.on hb16.bel)
        clear hg16 ho16 hb16 ho15 hy15 HB15 bg15 G8
        go_wp2_with (first
          | (at_builtin; refine wpList_appR rfl _ _ rfl W1.heap.size _ (l ++ big 2 x.length) rfl HO16.out a1 x.length e1 rfl x rfl HK16.out HN1.out G9.out bg16 ?_)
          | fail)
        intro v17 w17 ho17 hg17
        have hb17 := BX.gr hg17 HO16.out HB16.out
        rw [← HX.out] at ho17
        have HO17 := Lib.hid ho17
        have HB17 := Lib.hid hb17
        clear ho17 hg17 hb17 HO16 HB16 HK16 HD1 HN1 G9 bg16
        go_wp2_with fail
        go_roundw
        case rel => exact ⟨k + 1, by go_num, by omega, HO17.out, HB17.out⟩
        case measure => simp [intOf]; omega
      · have hlt' : ¬ (k : Int) < (n : Int) := by omega
        obtain rfl : k = n := by omega
        have hfin : OwnR wr W1.heap.size u4 (m4 ++ partsB 2 L) := by rwa [HN.out, List.take_length] at hown
        have HFF := Lib.hid hfin.ownB
        have bel := hbx.bel
        clear hown hfin hbx
        go_wp2_with fail
        go_ret
        refine ⟨_, rfl, ?_, Below.trans b1 (bel.mono b1.size)⟩
        have h := HFF.out.mono b1.size
        rw [HM4.out, HM3.out, HM2.out, HM1.out, HL0.out] at h
        rw [← HF.out]
        have e : [0, UInt8.ofNat nm.length] ++ nm ++ big 2 tn ++ big 2 cn ++ bigs 1 [rn, kn] ++ big 8 en ++ big 1 z.length ++ z ++ big 2 k ++ partsB 2 L = [0] ++ partB 1 nm ++ bigs 2 [tn, cn] ++ (bigs 1 [rn, kn] ++ bigs 8 [en] ++ partB 1 z ++ bigs 2 [k] ++ partsB 2 L) := by
          simp [partB, bigs, big]
        rw [← e]
        exact h
  | true =>
    have ho := OwnR.made (w := W1) (base := W1.heap.size) (l := [1, UInt8.ofNat nm.length]) (cs := #[.int .u8 1, .int .u8 (nm.length : Int)]) (Nat.le_refl _) (by simp [byteV]; omega) (by simp [maxLen])
    have hx2 := hx1.alloc (.cells #[.int .u8 1, .int .u8 (nm.length : Int)] 5)
    have there := (cell_of_row _ _ 0 _ _ _ (row_new (w := W1) (k := W1.heap.size) (.cells #[.int .u8 0, .int .u8 (nm.length : Int)] 5 (0, 0)) rfl)).trans (show _ = some (Value.int .u8 0) from rfl)
    have fz : (W1.alloc (.cells #[.int .u8 0, .int .u8 (nm.length : Int)] 5)).frozen? ⟨W1.heap.size, 0, none⟩ = false := frozen_of_row _ _ 0 _ _ (row_new (w := W1) (k := W1.heap.size) (.cells #[.int .u8 0, .int .u8 (nm.length : Int)] 5 (0, 0)) rfl)
    have d2 : (W1.alloc (.cells #[.int .u8 0, .int .u8 (nm.length : Int)] 5)).cell? ⟨w.heap.size, 0, none⟩ = some (.bool true) := cell_on d1 (Below.alloc (Below.refl _ _) (Nat.le_refl _) _)
    go_enter Try.func81, Try.ntmps81
    go_wp2_with (first
      | (refine wpList_store_row rfl 29 (.tmp 3) (.tmp 8) rfl (w.heap.size + 1) C rfl rfl 29 _ rZ IS.out (by first | exact ZS.out | exact ZS.out.symm) OS.out ?_; rw [← HW1.out])
      | fail)
    clear there fz
    clear c0 c1 c2 c3 c4 c5 c6 c7 d1 d2 L0 d0 rZ IS OS ZS HW1 z0
    simp only [List.length_cons, List.length_nil, Nat.reduceAdd] at ho
    generalize W1.alloc (.cells #[.int .u8 1, .int .u8 (nm.length : Int)] 5) = W2 at *
    obtain ⟨l0, hl0⟩ : ∃ l, l = [1, UInt8.ofNat nm.length] := ⟨_, rfl⟩
    rw [← hl0] at ho
    have G0 : Hid (l0.length + nm.length ≤ 140737488355328) := Lib.hid (by rw [hl0]; simp; omega)
    have G1 : Hid ((l0 ++ nm).length + (big 2 tn).length ≤ 140737488355328) := Lib.hid (by rw [hl0, big_len]; simp; omega)
    have G2 : Hid ((l0 ++ nm ++ big 2 tn).length + (big 2 cn).length ≤ 140737488355328) := Lib.hid (by rw [hl0, big_len]; simp [big_len]; omega)
    have HL0 := Lib.hid hl0
    clear hl0 hx1
    have F0 : ∀ W, BX W1 W1.heap.size (w.heap.size + 1) C 29 W → W.cell? ⟨w.heap.size + 1, 0, none⟩ = some (.string (bs nm)) := fun W h => (CE.out _ h.row).1
    have F1 : ∀ W, BX W1 W1.heap.size (w.heap.size + 1) C 29 W → W.cell? ⟨w.heap.size + 1, 1, none⟩ = some (.int .i64 (tn : Nat)) := fun W h => (CE.out _ h.row).2.1
    have F2 : ∀ W, BX W1 W1.heap.size (w.heap.size + 1) C 29 W → W.cell? ⟨w.heap.size + 1, 2, none⟩ = some (.int .i64 (cn : Nat)) := fun W h => (CE.out _ h.row).2.2.1
    have K1 : Hid (∀ W, Calls Try.prog 97 #[.int .i64 tn, .int .i64 2] W fun e w' => e = .returned (.slice (some ⟨W.heap.size, 0, none⟩) 2 2) ∧ w'.heap[W.heap.size]? = some (.cells ((big 2 tn).map byteV).toArray 5 (0, 0)) ∧ Below W.heap.size W w') := Lib.hid (fun W => Big_any tn 2 (by omega) (by omega) W)
    have K2 : Hid (∀ W, Calls Try.prog 97 #[.int .i64 cn, .int .i64 2] W fun e w' => e = .returned (.slice (some ⟨W.heap.size, 0, none⟩) 2 2) ∧ w'.heap[W.heap.size]? = some (.cells ((big 2 cn).map byteV).toArray 5 (0, 0)) ∧ Below W.heap.size W w') := Lib.hid (fun W => Big_any cn 2 (by omega) (by omega) W)
    go_region_held3 (fun w' => BX W1 W1.heap.size (w.heap.size + 1) C 29 w')
      (first | assumption | exact BX.drew (by assumption) | exact BX.on (by assumption) (by assumption) | exact BX.gr (by assumption) (by assumption) (by assumption))
      (first
        | ((refine step_str (by rfl) (.tmp 18) (.tmp 20) (by rfl) W1.heap.size _ l0 (by rfl) (by first | assumption | exact OwnR.drew (by assumption)) nm (by rfl) G0.out (BX.big (by assumption)) ?_); intro v3 w3 ho3 hg3)
        | ((refine step_app (by rfl) (.tmp 21) (.tmp 24) (by rfl) W1.heap.size _ (l0 ++ nm) (by rfl) (by assumption) _ _ _ (by rfl) (big 2 tn) (by rfl) (by assumption) G1.out (BX.big (by assumption)) ?_); intro v5 w5 ho5 hg5)
        | ((refine step_app (by rfl) (.tmp 25) (.tmp 28) (by rfl) W1.heap.size _ (l0 ++ nm ++ big 2 tn) (by rfl) (by assumption) _ _ _ (by rfl) (big 2 cn) (by rfl) (by assumption) G2.out (BX.big (by assumption)) ?_); intro v7 w7 ho7 hg7)
        | (go_at_call 97; (with_reducible refine (K1.out _).mono ?_); rintro e w4 ⟨rfl, hr4, hBx4⟩; have hy4 := bys_big hr4; have ho4 := OwnR.below ho3 hBx4)
        | (go_at_call 97; (with_reducible refine (K2.out _).mono ?_); rintro e w6 ⟨rfl, hr6, hBx6⟩; have hy6 := bys_big hr6; have ho6 := OwnR.below ho5 hBx6))
    have hb7 : BX W1 W1.heap.size (w.heap.size + 1) C 29 w7 := by assumption
    have d7 := MID.out _ ((hb7.bel.block _ (by omega)).trans DR.out)
    have h7 := Lib.hid ho7.ownB
    have HB7 := Lib.hid hb7.bel
    clear F0 F1 F2 K1 K2 ho3 hg3 hr4 hBx4 hy4 ho4 ho5 hg5 hr6 hBx6 hy6 ho6 hg7 ho hx2 r1 dr G0 G1 G2 ho7
    go_wp2_with fail
    go_ret
    refine ⟨_, rfl, ?_, Below.trans b1 (HB7.out.mono b1.size)⟩
    have h := h7.out.mono b1.size
    rw [HL0.out] at h
    rw [← HT.out]
    have e : [1, UInt8.ofNat nm.length] ++ nm ++ big 2 tn ++ big 2 cn = [1] ++ partB 1 nm ++ bigs 2 [tn, cn] := by
      simp [partB, bigs, big]
    rw [← e]
    exact h
end Go.Proofs.Ytbeggckkgaoacaa
