/-
  The document's Records.
-/
import Derived.Test.YtbeggckkgaoacaaRe
import Derived.Test.YtbeggckkgaoacaaGb
namespace Go.Proofs.Ytbeggckkgaoacaa
open Go.RowKit
set_option linter.unusedVariables false
set_option maxRecDepth 100000

theorem exec_appB9 (ev : Operand → Value) (d : Option Tmp) (x y : Operand) (t : TypeId) (p : String) (f : Array Edge) (w : World) : (execOp ev { dst := d, op := .call { callee := .builtin .append, args := #[x, y], argTypes := #[37, 37] }, type := t, pos := p, after := f, guard := none }).run Try.prog w = appB (ev x) (ev y) t w := by
  unfold execOp appB
  simp only [resolve, invoke, builtin, Sem.run_bind, Sem.run_pure, Result.andThen_ok, List.map_toArray, List.map_cons, List.map_nil]
theorem run_cloneB {W : World} {A : Option Addr} {m c : Nat} {d : Bs} (hm : m = d.length) (hS : Bys W A d) (hA : A = none → c = 0) (hl : d.length ≤ 140737488351232) :
    ∃ A' c' w', appB (.slice (some ⟨W.heap.size, 0, none⟩) 0 0) (.slice A m c) 37 (W.alloc (.cells #[] 5)) = .ok (.value (.slice A' d.length c')) w' ∧ OwnR w' W.heap.size (.slice A' d.length c') d ∧ Below W.heap.size W w' := by
  have b0 : Below W.heap.size W (W.alloc (.cells #[] 5)) := Below.alloc (Below.refl _ _) (Nat.le_refl _) _
  have S1 := hS.on b0
  have done : ∀ (v' : Value) (w' : World), (Builtin.append_ #[37, 37] 37 #[.slice (some ⟨W.heap.size, 0, none⟩) 0 0, .slice A m c]).run Try.prog (W.alloc (.cells #[] 5)) = .ok v' w' → OwnR w' W.heap.size v' d → (W.alloc (.cells #[] 5)).grownBy w' (some W.heap.size) →
      ∃ A' c' w', appB (.slice (some ⟨W.heap.size, 0, none⟩) 0 0) (.slice A m c) 37 (W.alloc (.cells #[] 5)) = .ok (.value (.slice A' d.length c')) w' ∧ OwnR w' W.heap.size (.slice A' d.length c') d ∧ Below W.heap.size W w' := fun v' w' hr ho hg => by
    obtain ⟨A', c', rfl, -, -⟩ := ho.ownB.bys
    exact ⟨A', c', w', by unfold appB; rw [hr]; rfl, ho, Below.grown b0 hg (by simp) (fun k hk => by injection hk with hk; omega)⟩
  have he := OwnR.empty W W.heap.size (Nat.le_refl _)
  cases A with
  | none =>
    have hn : d = [] := by
      rcases d with _ | ⟨b, r⟩
      · rfl
      · obtain ⟨g, off, hp, _⟩ := hS (by simp)
        cases hp
    subst hn
    obtain rfl := hA rfl
    obtain rfl : m = 0 := hm
    exact done _ _ (run_append_nilB 37 he.ownB) he (grown_refl _ _)
  | some ad =>
    obtain ⟨v', w', hr, h1, h2⟩ := run_appR 37 he ad c m d hm S1 (by simp; omega) (by simp)
    exact done v' w' hr (by simpa using h1) h2

attribute [local go_sem ↓] exec_loadSt exec_appRr exec_appB9
set_option maxHeartbeats 4000000 in
set_option maxRecDepth 100000 in
theorem records_ref (s : St) (A : Option Addr) (c : Nat) (now : Int) (w : World) (hS : Byss w A s.ds) (hl : (s.ds.length + 1) * 64 ≤ 140737488351232) (hd : ∀ x ∈ s.ds, x.length ≤ 140737488351232) (he : -9223372036854775808 ≤ s.ex ∧ s.ex ≤ 9223372036854775807) :
    Calls Try.prog 18 #[.agg (stC s A c), .int .i64 now] w fun e w' => ∃ v, e = .returned v ∧ OwnO w' w.heap.size v (recsP s now) ∧ Below w.heap.size w w' := by
  have r2 := row_new (w := w) (k := w.heap.size) (.cells (stC s A c) 29 (0, 0)) rfl
  have b0 : Below w.heap.size w (w.alloc (.cells (stC s A c) 29 (0, 0))) := Below.alloc (Below.refl _ _) (Nat.le_refl _) _
  obtain ⟨W0, hW0⟩ : ∃ W0, W0 = w.alloc (.cells (stC s A c) 29 (0, 0)) := ⟨_, rfl⟩
  have hz : W0.heap.size = w.heap.size + 1 := by rw [hW0]; exact Array.size_push _
  rw [← hW0] at r2 b0
  have S0 := hS.on b0
  have FS := Lib.hid (fun W => fresh_ref s A c now W)
  obtain ⟨-, -, -, -, c4, -, -, -⟩ := st_cell r2
  have CE := Lib.hid (fun (W : World) (h : Below W0.heap.size W0 W) => st_cell ((h.block _ (by omega)).trans r2))
  have L1 := loadSt_row r2 info_st
  obtain ⟨C, hC⟩ : ∃ C, C = stC s A c := ⟨_, rfl⟩
  rw [← hC] at L1 FS hW0 ⊢
  have HB0 := Lib.hid b0
  have HW0 := Lib.hid hW0
  have HD := Lib.hid hd
  have HZ := Lib.hid hz
  have HS0 := Lib.hid S0
  have R2 := Lib.hid r2
  have HX := Lib.hid he
  have HL := Lib.hid hl
  clear hS hd he hC hW0 b0 S0 r2 hz hl
  go_enter Try.func18, Try.ntmps18
  go_wp2_with (first | rw [← HW0.out] | fail)
  refine (FS.out _).mono ?_
  rintro e w1 ⟨rfl, b1⟩
  cases hfr : freshN s now with
  | false =>
    have HF := Lib.hid (recsP_stale hfr)
    have HB1 := Lib.hid (Below.trans HB0.out (b1.mono HB0.out.size))
    clear b1 L1 FS
    go_wp2_with fail
    go_ret
    rw [HF.out]
    exact ⟨.slice none 0 0, rfl, OwnO.nil _ _, HB1.out⟩
  | true =>
    have c4' := cell_on c4 b1
    by_cases hkd : s.kd = 0
    · skip
      have hfr' : clockN now < s.ex := by unfold freshN at hfr; simpa using hfr
      have hck := clock_bd now
      have hlf : IntKind.i64.wrap (s.ex - clockN now) = s.ex - clockN now := IntWalk.i64_in _ (by have := HX.out; omega)
      have HF := Lib.hid (recsP_live hkd hfr)
      obtain ⟨lf, hlfe⟩ : ∃ lf, lf = s.ex - clockN now := ⟨_, rfl⟩
      rw [← hlfe] at HF
      replace hlf := hlf.trans hlfe.symm
      obtain ⟨-, -, -, -, -, c5, -, c7⟩ := CE.out w1 b1
      have CLK := Lib.hid (fun W => clock_ref now W)
      obtain ⟨n, hn⟩ : ∃ n, n = s.ds.length := ⟨_, rfl⟩
      have hnl : (n + 1) * 64 ≤ 140737488351232 := by rw [hn]; exact HL.out
      rw [← hn] at c7
      have HN := Lib.hid hn
      have HB1 := Lib.hid b1
      generalize clockN now = ck at *
      generalize s.ex = ex at *
      clear hfr' hck hlfe b1 L1 FS c4 hn hfr
      go_wp2_with fail
      have hz1 := HZ.out
      go_loopw [5, 20] (fun v6 v26 wr => ∃ k : Nat, v26 = .int .i64 k ∧ k ≤ n ∧ Hid (OwnO wr W0.heap.size v6 ((s.ds.take k).map (recP s lf))) ∧ Below W0.heap.size W0 wr) (fun _ v26 _ => n - (intOf v26).toNat)
      case atStart => exact ⟨0, rfl, by omega, Lib.hid (OwnO.nil _ _), HB1.out⟩
      case round =>
        obtain ⟨k, rfl, hk, HO, hB⟩ := hrel
        rename World => wr
        by_cases hlt : k < n
        · have hlt' : (k : Int) < (n : Int) := by omega
          have kL : k < s.ds.length := by have := HN.out; omega
          obtain ⟨g0, of0, hA0, hc0⟩ := (HS0.out.on hB) (by omega)
          obtain ⟨a, dc, cj, by1, m1, m2, m3⟩ := hc0 k kL
          subst hA0
          have hdx := HD.out s.ds[k] (List.getElem_mem kL)
          have htk : s.ds.take (k + 1) = s.ds.take k ++ [s.ds[k]] := List.take_succ_eq_append_getElem kL
          have hmp : (s.ds.take (k + 1)).map (recP s lf) = (s.ds.take k).map (recP s lf) ++ [recP s lf s.ds[k]] := by rw [htk, List.map_append]; rfl
          have hml : ((s.ds.take k).map (recP s lf)).length = k := by rw [List.length_map, List.length_take]; omega
          have hO := HO.out
          have hrn : (recP s lf s.ds[k]).n = s.n ∧ (recP s lf s.ds[k]).t = s.t ∧ (recP s lf s.ds[k]).c = s.c ∧ (recP s lf s.ds[k]).ttl = lf ∧ (recP s lf s.ds[k]).d = s.ds[k] := ⟨rfl, rfl, rfl, rfl, rfl⟩
          generalize (s.ds.take k).map (recP s lf) = acc at *
          have AP := Lib.hid (fun (W : World) (h : OwnO W W0.heap.size u5 acc) (hb : W0.heap.size ≤ W.heap.size) (A5 : Option Addr) (c5 : Nat) (ho : OwnR W W0.heap.size (.slice A5 (s.ds[k]).length c5) s.ds[k]) => run_appO h (recP s lf s.ds[k]) A5 c5 #[.string (bs s.n), .int .i64 s.t, .int .i64 s.c, .int .i64 lf, .slice A5 (s.ds[k]).length c5] rfl ho (by omega) hb)
          obtain ⟨A5, cc5, w5, hcb, hOw, hBx⟩ := run_cloneB (W := wr.drew) (A := a) (m := (s.ds[k]).length) (c := dc) (d := s.ds[k]) rfl (by1.on (Below.drew (Below.refl wr.heap.size wr))) m3 hdx
          have hs1 : W0.heap.size ≤ wr.drew.heap.size := hB.size
          have hS5 : Below W0.heap.size W0 w5 := Below.trans (Below.drew hB) (Below.mono hBx hs1)
          have hb5 : W0.heap.size ≤ w5.heap.size := hS5.size
          have hO5 : OwnO w5 W0.heap.size u5 acc := (hO.below (Below.drew (Below.refl wr.heap.size wr))).below hBx
          have hd5 := hOw.mono hs1
          obtain ⟨hap, hao, hab⟩ := AP.out w5 hO5 hb5 A5 cc5 hd5
          generalize recP s lf s.ds[k] = rc at *
          generalize s.ds[k] = x at *
          obtain ⟨xn, hxn⟩ : ∃ xn, xn = x.length := ⟨_, rfl⟩
          rw [← hxn] at cj hcb hap hao hab
          replace hcb : appB (.slice (some ⟨wr.heap.size, 0, none⟩) 0 0) (.slice a xn dc) 37 (wr.alloc (.cells #[] 5)).drew = .ok (.value (.slice A5 xn cc5)) w5 := hcb
          have HMP := Lib.hid hmp
          have HXN := Lib.hid hxn
          have hSR := hB
          have FC := fun (W : World) (h : Below W0.heap.size W0 W) => CE.out W h
          have F1 := fun W h => (FC W h).1
          have F2 := fun W h => (FC W h).2.1
          have F3 := fun W h => (FC W h).2.2.1
          have F5 := fun W h => (FC W h).2.2.2.2.2.1
          have hB9 := Below.trans hS5 hab
          rw [← hmp] at hao
          have HAO := Lib.hid hao
          have HAB := Lib.hid hB9
          clear hc0 by1 m1 m2 m3 hdx htk hmp hml hrn hxn FC HO hB c7 c5 c4' hO hOw hBx hO5 hd5 hao hab AP
          generalize s.n = sn at *
          generalize s.t = stt at *
          generalize s.c = sc at *
          go_wp2_with fail
          clear hz1
          generalize apV u5 (.slice (some ⟨w5.heap.size, 0, none⟩) 1 1) (w5.alloc (.cells #[.string (bs sn), .int .i64 stt, .int .i64 sc, .int .i64 lf, .slice A5 xn cc5] 39)) = v9 at *
          generalize apW u5 (.slice (some ⟨w5.heap.size, 0, none⟩) 1 1) (w5.alloc (.cells #[.string (bs sn), .int .i64 stt, .int .i64 sc, .int .i64 lf, .slice A5 xn cc5] 39)) = w9 at *
          go_region_held3 (fun w' => Below W0.heap.size W0 w')
            (first | assumption | exact Below.drew (by assumption) | exact Below.alloc (by assumption) (by first | assumption | exact (by assumption : Below W0.heap.size W0 _).size) _)
            (first
              | (go_at_call 40; (with_reducible refine (CLK.out _).mono ?_); rintro e w4 ⟨rfl, rfl⟩))
          all_goals
            clear hap hS5 hb5 hB9 F1 F2 F3 F5 CLK hcb hlf
            go_wp2_with fail
            go_roundw
            case rel => exact ⟨k + 1, by go_num, by omega, HAO, HAB.out⟩
            case measure => simp [intOf]; omega
        · have hlt' : ¬ (k : Int) < (n : Int) := by omega
          obtain rfl : k = n := by omega
          have hO := HO.out
          rw [HN.out, List.take_length, ← HF.out] at hO
          have HO2 := Lib.hid (hO.mono HB0.out.size)
          have HB2 := Lib.hid (Below.trans HB0.out (hB.mono HB0.out.size))
          clear hO hB HO
          go_wp2_with fail
          go_ret
          exact ⟨_, rfl, HO2.out, HB2.out⟩
    · have HF := Lib.hid (recsP_kind (now := now) hkd)
      have HB1 := Lib.hid (Below.trans HB0.out (b1.mono HB0.out.size))
      clear b1 L1 FS c4
      go_wp2_with fail
      go_ret
      rw [HF.out]
      exact ⟨.slice none 0 0, rfl, OwnO.nil _ _, HB1.out⟩
end Go.Proofs.Ytbeggckkgaoacaa
