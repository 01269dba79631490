/-
  The document's table: the best of some.
-/
import Derived.Test.YtabclpffjpcejaaRtN
import Derived.Test.YtabclpffjpcejaaRtJ
namespace Go.Proofs.Ytabclpffjpcejaa
open Go.RowKit Go.Maps
set_option linter.unusedVariables false
set_option maxRecDepth 100000

theorem bestOf_snoc (T : Int → Nat × Nat) (r : List Int) : ∀ (m a : Int), bestOf T m (r ++ [a]) = if lessT (T a) (T (bestOf T m r)) then a else bestOf T m r := by
  induction r with
  | nil => intro m a; rfl
  | cons b r ih => intro m a; rw [List.cons_append]; unfold bestOf; exact ih _ a
theorem bestV_take {T : Int → Nat × Nat} {xs : List Int} {k : Nat} (hk : k < xs.length) (h0 : 0 < k) : bestV T (xs.take (k + 1)) = if lessT (T xs[k]) (bestV T (xs.take k)) then T xs[k] else bestV T (xs.take k) := by
  match xs, k, hk, h0 with
  | y :: r, k + 1, hk, _ =>
    have hk' : k < r.length := by simpa using hk
    have e1 : bestV T ((y :: r).take (k + 1 + 1)) = T (bestOf T y (r.take k ++ [r[k]])) := by
      unfold bestV
      rw [List.take_succ_cons, List.take_add_one, List.getElem?_eq_getElem hk']
      rfl
    have e2 : bestV T ((y :: r).take (k + 1)) = T (bestOf T y (r.take k)) := by unfold bestV; rw [List.take_succ_cons]; rfl
    rw [e1, e2, bestOf_snoc]
    simp only [List.getElem_cons_succ]
    split <;> rfl
theorem bestV_one {T : Int → Nat × Nat} {xs : List Int} (hk : 0 < xs.length) : bestV T (xs.take 1) = T xs[0] := by
  match xs, hk with
  | y :: r, _ => rfl
theorem alike_none {T : Int → Nat × Nat} {xs : List Int} {x : Nat × Nat} (h : lessT x (bestV T xs) = true) : alikeT T x xs = [] := by
  unfold alikeT
  rw [List.filter_eq_nil_iff]
  intro b hb e
  have e : T b = x := by simpa using e
  have := best_min (T := T) hb
  rw [lessT_iff, ← e] at h
  exact this h
set_option maxHeartbeats 4000000 in
theorem BestR_any {B x : Nat} {v : Value} {K : List Kn} (w : World) (h : TabR B x v K w) (hKl : K.length ≤ 1000) (A : Option Addr) (xs : List Int) (n c : Nat) (d : Int) (hn : n = xs.length) (hx : Nts w A xs) (h0 : 0 < n) (hm : n ≤ 17592186044000) :
    Calls Try.prog 35 #[.pointer (some ⟨x, 0, none⟩), .slice A n c, .int .i64 d] w fun e w' => e = .returned (.tuple #[.int .i64 (pickT (lookK K) xs d), .bool true]) ∧ Below w.heap.size w w' := by
  have H := Lib.hid h
  have HKL := Lib.hid hKl
  have HN := Lib.hid hn
  have HX := Lib.hid hx
  have hne : xs ≠ [] := by intro e; subst e; simp at hn; omega
  have HAN := Lib.hid (alike_ne (T := lookK K) hne)
  have HPK : Hid (pickT (lookK K) xs d = (alikeT (lookK K) (bestV (lookK K) xs) xs).getD (drawU d % (alikeT (lookK K) (bestV (lookK K) xs) xs).length) 0) := Lib.hid rfl
  obtain ⟨pk, hpk⟩ : ∃ z, z = pickT (lookK K) xs d := ⟨_, rfl⟩
  rw [← hpk] at HPK ⊢
  obtain ⟨T, hTT⟩ : ∃ T, T = lookK K := ⟨_, rfl⟩
  rw [← hTT] at HPK HAN
  have HT := Lib.hid hTT
  have hnb : ((n : Int) == 0) = false := by simp; omega
  clear h hKl hn hx hpk hTT hne
  go_enter Try.func35, Try.ntmps35
  go_wp2_with fail
  go_loopw [8, 9, 10, 20] (fun v8 v9 v10 u wr => ∃ (k : Nat) (m : Nat × Nat), u = .int .i64 k ∧ v9 = .int .i64 m.1 ∧ v10 = .int .i64 m.2 ∧ k ≤ n ∧ (0 < k → m = bestV T (xs.take k)) ∧ OwnI wr w.heap.size v8 (alikeT T m (xs.take k)) ∧ Below w.heap.size w wr) (fun _ _ _ u _ => n - (intOf u).toNat)
  case atStart => exact ⟨0, (0, 0), rfl, rfl, rfl, by omega, fun h => absurd h (by omega), OwnI.nil _ _, Below.refl _ _⟩
  case round =>
    obtain ⟨k, ⟨mt, mf⟩, rfl, rfl, rfl, hk, hmb, hO, hB⟩ := hrel
    rename World => wr
    by_cases hlt : k < n
    · have hlt' : (k : Int) < (n : Int) := by omega
      have hkl : k < xs.length := by have := HN.out; omega
      obtain ⟨g, off, rfl, hc⟩ := HX.out (by omega)
      have ck := cell_on (hc k hkl) hB
      obtain ⟨y, hy⟩ : ∃ y, y = xs[k] := ⟨_, rfl⟩
      rw [← hy] at ck
      have HY := Lib.hid hy
      have OF := Lib.hid (OfR_any wr (H.out.below hB) HKL.out y)
      rw [← HT.out] at OF
      have hsn : ∀ m, alikeT T m (xs.take (k + 1)) = if T y = m then alikeT T m (xs.take k) ++ [y] else alikeT T m (xs.take k) := fun m => by rw [hy]; exact alike_snoc (T := T) (m := m) hkl
      have HSN := Lib.hid hsn
      have hbt : 0 < k → bestV T (xs.take (k + 1)) = if lessT (T y) (bestV T (xs.take k)) then T y else bestV T (xs.take k) := fun h => by rw [hy]; exact bestV_take hkl h
      have HBT := Lib.hid hbt
      have hb1 : k = 0 → bestV T (xs.take (k + 1)) = T y := fun h => by subst h; rw [hy]; exact bestV_one hkl
      have HB1 := Lib.hid hb1
      have HMB := Lib.hid hmb
      have hal : ∀ m, (alikeT T m (xs.take k)).length ≤ k := fun m => by have := alike_le T m (xs.take k); rw [List.length_take] at this; omega
      have HAL := Lib.hid hal
      obtain ⟨Ty, hTy⟩ : ∃ t, t = T y := ⟨_, rfl⟩
      have HTY := Lib.hid hTy
      rw [← hTy] at OF
      obtain ⟨yt, yf⟩ := Ty
      dsimp only at OF
      have HO := Lib.hid hO
      have HBW := Lib.hid hB
      have hsz := hB.size
      have hkn : n ≤ 17592186044000 := hm
      clear hc hy hsn hbt hb1 hmb hal hTy hO hB
      -- whether a better one has come
      by_cases hnew : k = 0 ∨ yf < mf ∨ (yf = mf ∧ yt < mt)
      · have NEW : Hid ((yt, yf) = bestV T (xs.take (k + 1)) ∧ alikeT T (yt, yf) (xs.take (k + 1)) = [y])   := Lib.hid (by
          have e0 : (yt, yf) = T y := HTY.out
          by_cases hk0 : k = 0
          · refine ⟨by rw [HB1.out hk0, e0], ?_⟩
            rw [HSN.out, if_pos e0.symm, hk0]
            rfl
          · have hmm := HMB.out (by omega)
            have hl : lessT (T y) (bestV T (xs.take k)) = true := by rw [← hmm, ← e0, lessT_iff]; dsimp only; omega
            refine ⟨by rw [HBT.out (by omega), if_pos hl, e0], ?_⟩
            rw [HSN.out, if_pos e0.symm, e0, alike_none hl]
            rfl)
        by_cases hk0 : k = 0
        · have hkb : ((k : Int) == 0) = true := by simp [hk0]
          clear hnew hk0
          go_wp2_with fail
          refine OF.out.mono ?_
          rintro e w2 ⟨rfl, b2⟩
          have hB2 := Lib.hid (Below.trans HBW.out (b2.mono hsz))
          have hsz2 := hB2.out.size
          have HO2 := Lib.hid (HO.out.on b2)
          clear b2 OF HO
          go_wp2_with (at_builtin; (with_reducible refine wpList_app_int rfl _ _ rfl w.heap.size (.slice none 0 0) [] rfl (OwnI.nil _ _) w2.heap.size 1 y rfl ((cell_of_row _ _ 0 _ _ _ (row_new _ rfl)).trans rfl) ?a0 ?b0 ?_))
          case a0 => simp
          case b0 => simp; omega
          intro v' w3 hown3 hg3 hfr3
          have hB3 : Hid (Below w.heap.size w w3) := Lib.hid (Below.grown (Below.alloc hB2.out hsz2 _) hg3 (by simp; omega) (fun g e => by simp [Value.ownBlock] at e))
          have HO3 := Lib.hid hown3
          clear hown3 hg3 hfr3
          go_wp2_with fail
          go_roundw
          case rel => exact ⟨k + 1, (yt, yf), by go_num, rfl, rfl, by omega, fun _ => NEW.out.1, by rw [NEW.out.2]; exact HO3.out, hB3.out⟩
          case measure => simp [intOf]; omega
        · have hkb : ((k : Int) == 0) = false := by simp [hk0]
          by_cases hyf : yf < mf
          · have hyf' : (yf : Int) < (mf : Int) := by omega
            clear hnew hk0 hyf
            go_wp2_with fail
            refine OF.out.mono ?_
            rintro e w2 ⟨rfl, b2⟩
            have hB2 := Lib.hid (Below.trans HBW.out (b2.mono hsz))
            have hsz2 := hB2.out.size
            have HO2 := Lib.hid (HO.out.on b2)
            clear b2 OF HO
            go_wp2_with (at_builtin; (with_reducible refine wpList_app_int rfl _ _ rfl w.heap.size (.slice none 0 0) [] rfl (OwnI.nil _ _) w2.heap.size 1 y rfl ((cell_of_row _ _ 0 _ _ _ (row_new _ rfl)).trans rfl) ?a1 ?b1 ?_))
            case a1 => simp
            case b1 => simp; omega
            intro v' w3 hown3 hg3 hfr3
            have hB3 : Hid (Below w.heap.size w w3) := Lib.hid (Below.grown (Below.alloc hB2.out hsz2 _) hg3 (by simp; omega) (fun g e => by simp [Value.ownBlock] at e))
            have HO3 := Lib.hid hown3
            clear hown3 hg3 hfr3
            go_wp2_with fail
            go_roundw
            case rel => exact ⟨k + 1, (yt, yf), by go_num, rfl, rfl, by omega, fun _ => NEW.out.1, by rw [NEW.out.2]; exact HO3.out, hB3.out⟩
            case measure => simp [intOf]; omega
          · have hye : ((yf : Int) == (mf : Int)) = true := by simp; omega
            have hyf' : ¬ (yf : Int) < (mf : Int) := by omega
            have hyt' : (yt : Int) < (mt : Int) := by omega
            clear hnew hk0 hyf
            go_wp2_with fail
            refine OF.out.mono ?_
            rintro e w2 ⟨rfl, b2⟩
            have hB2 := Lib.hid (Below.trans HBW.out (b2.mono hsz))
            have hsz2 := hB2.out.size
            have HO2 := Lib.hid (HO.out.on b2)
            clear b2 OF HO
            go_wp2_with (at_builtin; (with_reducible refine wpList_app_int rfl _ _ rfl w.heap.size (.slice none 0 0) [] rfl (OwnI.nil _ _) w2.heap.size 1 y rfl ((cell_of_row _ _ 0 _ _ _ (row_new _ rfl)).trans rfl) ?a2 ?b2 ?_))
            case a2 => simp
            case b2 => simp; omega
            intro v' w3 hown3 hg3 hfr3
            have hB3 : Hid (Below w.heap.size w w3) := Lib.hid (Below.grown (Below.alloc hB2.out hsz2 _) hg3 (by simp; omega) (fun g e => by simp [Value.ownBlock] at e))
            have HO3 := Lib.hid hown3
            clear hown3 hg3 hfr3
            go_wp2_with fail
            go_roundw
            case rel => exact ⟨k + 1, (yt, yf), by go_num, rfl, rfl, by omega, fun _ => NEW.out.1, by rw [NEW.out.2]; exact HO3.out, hB3.out⟩
            case measure => simp [intOf]; omega
      · have hk0 : k ≠ 0 := by omega
        have hkb : ((k : Int) == 0) = false := by simp [hk0]
        have hyf' : ¬ (yf : Int) < (mf : Int) := by omega
        have hmm := HMB.out (by omega)
        have OLD : Hid ((mt, mf) = bestV T (xs.take (k + 1))) := Lib.hid (by
          have e0 : (yt, yf) = T y := HTY.out
          have hl : ¬ lessT (T y) (bestV T (xs.take k)) = true := by rw [← hmm, ← e0, lessT_iff]; dsimp only; omega
          rw [HBT.out (by omega), if_neg hl, hmm])
        by_cases hyeq : yf = mf
        · subst hyeq
          have hyt' : ¬ (yt : Int) < (mt : Int) := by omega
          have hye : ((yf : Int) == (yf : Int)) = true := by simp
          by_cases hteq : yt = mt
          · subst hteq
            have hte : ((yt : Int) == (yt : Int)) = true := by simp
            have AL : Hid (alikeT T (yt, yf) (xs.take (k + 1)) = alikeT T (yt, yf) (xs.take k) ++ [y]) := Lib.hid (by rw [HSN.out, if_pos HTY.out.symm])
            clear hnew hk0 hmm
            go_wp2_with fail
            refine OF.out.mono ?_
            rintro e w2 ⟨rfl, b2⟩
            have hB2 := Lib.hid (Below.trans HBW.out (b2.mono hsz))
            have hsz2 := hB2.out.size
            have HO2 := Lib.hid (HO.out.on b2)
            clear b2 OF HO
            have HAL2 : Hid (((alikeT T (yt, yf) (xs.take k)).length + 1) * 8 ≤ 140737488355328) := Lib.hid (by have := HAL.out (yt, yf); omega)
            obtain ⟨A8, c8, hv8, -, -⟩ := HO2.out.nts
            obtain ⟨l8, hl8⟩ : ∃ l, l = (alikeT T (yt, yf) (xs.take k)).length := ⟨_, rfl⟩
            rw [← hl8] at hv8
            subst hv8
            have HO4 := Lib.hid (HO2.out.alloc (.cells #[.int .i64 y] 3))
            clear hl8
            go_wp2_with (at_builtin; (with_reducible refine wpList_app_int rfl _ _ rfl w.heap.size (.slice A8 l8 c8) (alikeT T (yt, yf) (xs.take k)) rfl HO4.out w2.heap.size 1 y rfl ((cell_of_row _ _ 0 _ _ _ (row_new _ rfl)).trans rfl) HAL2.out ?b3 ?_))
            case b3 => simp; omega
            intro v' w3 hown3 hg3 hfr3
            have hB3 : Hid (Below w.heap.size w w3) := Lib.hid (Below.grown (Below.alloc hB2.out hsz2 _) hg3 (by simp; omega) (fun g e => (HO4.out.lt g e).1))
            have HO3 := Lib.hid hown3
            clear hown3 hg3 hfr3
            go_wp2_with fail
            go_roundw
            case rel => exact ⟨k + 1, (yt, yf), by go_num, rfl, rfl, by omega, fun _ => OLD.out, by rw [AL.out]; exact HO3.out, hB3.out⟩
            case measure => simp [intOf]; omega
          · have hte : ((yt : Int) == (mt : Int)) = false := by simp; omega
            have AL : Hid (alikeT T (mt, yf) (xs.take (k + 1)) = alikeT T (mt, yf) (xs.take k)) := Lib.hid (by rw [HSN.out, if_neg (by rw [← HTY.out]; intro e; injection e with e1 e2; omega)])
            clear hnew hk0 hmm hteq
            go_wp2_with fail
            refine OF.out.mono ?_
            rintro e w2 ⟨rfl, b2⟩
            have hB2 := Lib.hid (Below.trans HBW.out (b2.mono hsz))
            have hsz2 := hB2.out.size
            have HO2 := Lib.hid (HO.out.on b2)
            clear b2 OF HO
            go_wp2_with fail
            go_roundw
            case rel => exact ⟨k + 1, (mt, yf), by go_num, rfl, rfl, by omega, fun _ => OLD.out, by rw [AL.out]; exact HO2.out, hB2.out⟩
            case measure => simp [intOf]; omega
        · have hye : ((yf : Int) == (mf : Int)) = false := by simp; omega
          have AL : Hid (alikeT T (mt, mf) (xs.take (k + 1)) = alikeT T (mt, mf) (xs.take k)) := Lib.hid (by rw [HSN.out, if_neg (by rw [← HTY.out]; intro e; injection e with e1 e2; omega)])
          by_cases hteq : yt = mt
          · have hte : ((yt : Int) == (mt : Int)) = true := by simp [hteq]
            clear hnew hk0 hmm hteq hyeq
            go_wp2_with fail
            refine OF.out.mono ?_
            rintro e w2 ⟨rfl, b2⟩
            have hB2 := Lib.hid (Below.trans HBW.out (b2.mono hsz))
            have hsz2 := hB2.out.size
            have HO2 := Lib.hid (HO.out.on b2)
            clear b2 OF HO
            go_wp2_with fail
            go_roundw
            case rel => exact ⟨k + 1, (mt, mf), by go_num, rfl, rfl, by omega, fun _ => OLD.out, by rw [AL.out]; exact HO2.out, hB2.out⟩
            case measure => simp [intOf]; omega
          · have hte : ((yt : Int) == (mt : Int)) = false := by simp; omega
            clear hnew hk0 hmm hteq hyeq
            go_wp2_with fail
            refine OF.out.mono ?_
            rintro e w2 ⟨rfl, b2⟩
            have hB2 := Lib.hid (Below.trans HBW.out (b2.mono hsz))
            have hsz2 := hB2.out.size
            have HO2 := Lib.hid (HO.out.on b2)
            clear b2 OF HO
            go_wp2_with fail
            go_roundw
            case rel => exact ⟨k + 1, (mt, mf), by go_num, rfl, rfl, by omega, fun _ => OLD.out, by rw [AL.out]; exact HO2.out, hB2.out⟩
            case measure => simp [intOf]; omega
    · obtain rfl : k = n := by omega
      have h1 : xs.take k = xs := List.take_of_length_le (by have := HN.out; omega)
      have hmm := hmb h0
      rw [h1] at hO hmm
      rw [hmm] at hO
      have hal := alike_le T (bestV T xs) xs
      have hpos := HAN.out
      obtain ⟨A1, c1, rfl, hnt, hc1, hc2⟩ := hO.nts
      obtain ⟨g, off, rfl, hcell⟩ := hnt hpos
      obtain ⟨LL, hL⟩ : ∃ L, L = (alikeT T (bestV T xs) xs).length := ⟨_, rfl⟩
      have hq : drawU d % LL < LL := Nat.mod_lt _ (by omega)
      have cq := hcell (drawU d % LL) (by omega)
      have hpk := HPK.out
      rw [← hL] at hpk
      rw [List.getD_eq_getElem?_getD, List.getElem?_eq_getElem (by omega), Option.getD_some] at hpk
      rw [← hpk] at cq
      rw [← hL]
      have hwr : IntKind.u64.wrap d = (drawU d : Int) := by
        unfold drawU
        have : IntKind.u64.wrap d = d % 18446744073709551616 := rfl
        rw [this]; omega
      have hdu : drawU d < 18446744073709551616 := by unfold drawU; omega
      have hrem : (drawU d : Int) % (LL : Int) = ((drawU d % LL : Nat) : Int) := rfl
      have hL2 : LL ≤ 17592186044416 := by have := HN.out; omega
      have hL3 : 0 < LL := by omega
      have HBW := Lib.hid hB
      clear hpk hL hal hpos hnt hcell hO hB h1 hmm hmb
      generalize drawU d = du at *
      generalize hqq : du % LL = q at *
      go_wp2_with fail
      go_ret2
      exact ⟨rfl, HBW.out⟩
end Go.Proofs.Ytabclpffjpcejaa
