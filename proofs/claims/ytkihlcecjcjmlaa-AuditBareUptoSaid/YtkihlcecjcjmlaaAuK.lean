/-
  The facts of a set.
-/
import Derived.Test.YtkihlcecjcjmlaaAuJ
import Derived.Test.YtkihlcecjcjmlaaNmF
import Derived.Test.YtkihlcecjcjmlaaQi
import Derived.Maps.AppendAt
import Derived.Deep.QuietTactic
import Derived.BigQuiet
import Derived.Deep.CutBlock
import Derived.Deep.DeepCutAuto
namespace Go.Proofs.Ytkihlcecjcjmlaa
open Go.RowKit
set_option linter.unusedVariables false
set_option maxRecDepth 100000

structure Fa where
  n : Bs
  t : Int
  c : Int
  d : Bs
def faL (f : Fa) : List Value := [.string (bs f.n), .int .i64 f.t, .int .i64 f.c, .string (bs f.d)]
def faC (f : Fa) : Array Value := #[.string (bs f.n), .int .i64 f.t, .int .i64 f.c, .string (bs f.d)]
theorem fa_one (f : Fa) : ∀ u ∈ faL f, u.oneCell' = true := by
  intro u hu
  simp only [faL, List.mem_cons, List.not_mem_nil, or_false] at hu
  rcases hu with rfl | rfl | rfl | rfl <;> rfl
theorem info_fa4 : (Try.prog.info? 62).map (fun i => (i.zero, i.size, i.bytes)) = some (some (.agg #[.string ⟨#[]⟩, .int .i64 0, .int .i64 0, .string ⟨#[]⟩]), 4, 48) := by kernel_rfl
theorem info_fa : (Try.prog.info? 62).map (·.size) = some 4 := by kernel_rfl
def factsP (o : Bs) (t c : Int) (ds : List Bs) : List Fa := ds.map fun d => ⟨lower o, t, c, d⟩
def ownS (s : Se) : Bs := if s.kd = 0 then s.n else s.z
def typS (s : Se) : Int := if s.kd = 0 then s.t else 6
def FaK (b1 B0 m dc : Nat) (v5 : Value) (o : Bs) (ty c : Int) (a : Option Addr) (d : Bs) : Nat → Value → World → Prop
  | 0, v, _ => v = v5
  | 1, v, _ => v = .string (bs o)
  | 2, v, _ => v = .string (bs (lower o))
  | 3, v, _ => v = .int .i64 ty
  | 4, v, _ => v = .pointer (some ⟨b1, 2, none⟩)
  | 5, v, _ => v = .int .i64 c
  | 6, v, _ => v = .slice a m dc
  | 7, v, _ => v = .string (bs d)
  | 8, v, _ => v = .agg (faC ⟨lower o, ty, c, d⟩)
  | 9, v, w => ∃ g, v = .slice (some ⟨g, 0, none⟩) 1 1 ∧ B0 ≤ g ∧ w.heap[g]? = some (.cells (faC ⟨lower o, ty, c, d⟩) 62 (0, 0))
  | _, _, _ => True
theorem FaK_on {b1 B0 m dc : Nat} {v5 : Value} {o : Bs} {ty c : Int} {a : Option Addr} {d : Bs} (i : Nat) (v : Value) (w w' : World) (h : FaK b1 B0 m dc v5 o ty c a d i v w) (hB : Below w.heap.size w w') : FaK b1 B0 m dc v5 o ty c a d i v w' := by
  match i, h with
  | 0, h => exact h
  | 1, h => exact h
  | 2, h => exact h
  | 3, h => exact h
  | 4, h => exact h
  | 5, h => exact h
  | 6, h => exact h
  | 7, h => exact h
  | 8, h => exact h
  | 9, h => obtain ⟨g, e, h1, h2⟩ := h; exact ⟨g, e, h1, (hB.block _ (Array.getElem?_eq_some_iff.1 h2).1).trans h2⟩
  | _ + 10, _ => trivial

theorem se_cell {w : World} {g : Nat} {s : Se} {a : Option Addr} {c : Nat} (h : w.heap[g]? = some (.cells (seC s a c) 55 (0, 0))) :
    w.cell? ⟨g, 0, none⟩ = some (.string (bs s.n)) ∧ w.cell? ⟨g, 1, none⟩ = some (.int .i64 s.t) ∧ w.cell? ⟨g, 2, none⟩ = some (.int .i64 s.c) ∧ w.cell? ⟨g, 4, none⟩ = some (.int .i64 s.kd) ∧ w.cell? ⟨g, 6, none⟩ = some (.string (bs s.z)) ∧ w.cell? ⟨g, 7, none⟩ = some (.slice a s.ds.length c) :=
  ⟨(cell_of_row _ g 0 _ _ _ h).trans rfl, (cell_of_row _ g 1 _ _ _ h).trans rfl, (cell_of_row _ g 2 _ _ _ h).trans rfl, (cell_of_row _ g 4 _ _ _ h).trans rfl, (cell_of_row _ g 6 _ _ _ h).trans rfl, (cell_of_row _ g 7 _ _ _ h).trans rfl⟩
theorem own_le {w : World} {base base' size n : Nat} {e : TypeId} {v : Value} {xs : List Value} (h : w.ownsRow base e size v n xs) (hb : base' ≤ base) : w.ownsRow base' e size v n xs := by
  rcases h with ⟨h0, h | ⟨g, cap, cur, h1, h2, h3⟩⟩
  · exact ⟨h0, .inl h⟩
  · exact ⟨h0, .inr ⟨g, cap, cur, h1, Nat.le_trans hb h2, h3⟩⟩
theorem facts_snoc (o : Bs) (t c : Int) (ds : List Bs) {k : Nat} (h : k < ds.length) : (factsP o t c (ds.take (k + 1))).flatMap faL = (factsP o t c (ds.take k)).flatMap faL ++ faL ⟨lower o, t, c, ds[k]⟩ := by
  rw [List.take_succ_eq_append_getElem h]
  unfold factsP
  rw [List.map_append, List.flatMap_append]
  simp

set_option maxHeartbeats 4000000 in
set_option maxRecDepth 100000 in
theorem facts_any (s : Se) (sa : Option Addr) (sl : Nat) (w : World) (hs : SeAt w s sa sl) : Calls Try.prog 16 #[.agg (seC s sa sl)] w fun e w' => ∃ v, e = .returned v ∧ w'.ownsRow w.heap.size 62 4 v s.ds.length ((factsP (ownS s) (typS s) s.c s.ds).flatMap faL) ∧ Below w.heap.size w w' := by
  have r0 := row_new (w := w) (k := w.heap.size) (.cells (seC s sa sl) 55 (0, 0)) rfl
  have b0 : Below w.heap.size w (w.alloc (.cells (seC s sa sl) 55 (0, 0))) := Below.alloc (Below.refl _ _) (Nat.le_refl _) _
  obtain ⟨c0, c1, c2, c4, c6, c7⟩ := se_cell r0
  have HS := Lib.hid (hs.ds.on b0)
  have hl := hs.ok.l
  obtain ⟨n, hn⟩ : ∃ n, n = s.ds.length := ⟨_, rfl⟩
  rw [← hn] at c7 hl
  rw [← hn]
  have HN := Lib.hid hn
  obtain ⟨W0, hW0⟩ : ∃ W0, W0 = w.alloc (.cells (seC s sa sl) 55 (0, 0)) := ⟨_, rfl⟩
  rw [← hW0] at b0 HS c0 c1 c2 c4 c6 c7
  have hz0 : Hid (w.heap.size < W0.heap.size) := Lib.hid (by rw [hW0]; simp)
  have HW0 := Lib.hid hW0
  have B0 := Lib.hid b0
  obtain ⟨C, hC⟩ : ∃ C, C = seC s sa sl := ⟨_, rfl⟩
  rw [← hC] at HW0 ⊢
  have HO : Hid (ownS s = if s.kd = 0 then s.n else s.z) := Lib.hid rfl
  have HT : Hid (typS s = if s.kd = 0 then s.t else 6) := Lib.hid rfl
  obtain ⟨ow, ho⟩ : ∃ ow, ow = ownS s := ⟨_, rfl⟩
  obtain ⟨ty, hty⟩ : ∃ t, t = typS s := ⟨_, rfl⟩
  rw [← ho] at HO
  rw [← hty] at HT
  rw [← ho, ← hty]
  obtain ⟨sc, hsc⟩ : ∃ c, c = s.c := ⟨_, rfl⟩
  rw [← hsc] at c2
  rw [← hsc]
  obtain ⟨i0, hi, hy0, hy1, hy2⟩ := info_parts info_fa4
  have LW := Lib.hid (fun W => Lower_any ow W)
  clear hs r0 b0 hW0 hC hn ho hty hsc
  go_enter Try.func16, Try.ntmps16
  go_upto_region 1 with fail
  rw [← HW0.out]
  go_quiet (fail)
  go_upto_if 14 with fail
  go_cut [3, 4] (fun s3 s4 wx => s3 = .string (bs ow) ∧ s4 = .int .i64 ty ∧ Hid (Below W0.heap.size W0 wx))
  case first =>
    by_cases hk : s.kd = 0
    · have h1 := HO.out
      have h2 := HT.out
      rw [if_pos hk] at h1 h2
      have hkb : (s.kd != 0) = false := by simp [hk]
      have H1 := Lib.hid h1
      have H2 := Lib.hid h2
      clear h1 h2 hk HO HT
      go_wp2_with fail
      go_meet
      exact ⟨by rw [H1.out], by rw [H2.out], Lib.hid (below_drewN (Below.refl _ _) _)⟩
    · have h1 := HO.out
      have h2 := HT.out
      rw [if_neg hk] at h1 h2
      have hkb : (s.kd != 0) = true := by simp [hk]
      have H1 := Lib.hid h1
      have H2 := Lib.hid h2
      clear h1 h2 hk HO HT
      go_wp2_with fail
      go_meet
      exact ⟨by rw [H1.out], by rw [H2.out], Lib.hid (below_drewN (Below.refl _ _) _)⟩
  case rest =>
    obtain ⟨rfl, rfl, HC⟩ := hcut
    replace c2 := cell_on c2 HC.out
    replace c7 := cell_on c7 HC.out
    have BC := Lib.hid (Below.trans B0.out (HC.out.mono B0.out.size))
    have HSC := Lib.hid (HS.out.on HC.out)
    have hzc : Hid (w.heap.size < wc.heap.size) := Lib.hid (by have := HC.out.size; have := hz0.out; omega)
    clear c0 c1 c4 c6 HO HT HS HW0 B0
    have C2W := Lib.hid c2
    have BCS : Hid (w.heap.size ≤ wc.heap.size) := Lib.hid BC.out.size
    clear c2
    go_wp2_with fail
    go_loopw [5, 20] (fun v5 v20 wr => ∃ k : Nat, v20 = .int .i64 k ∧ k ≤ n ∧ Hid (wr.ownsRow wc.heap.size 62 4 v5 k ((factsP ow ty sc (s.ds.take k)).flatMap faL)) ∧ Hid (Below wc.heap.size wc wr)  ∧ Hid (Below w.heap.size w wr)) (fun _ v20 _ => n - (intOf v20).toNat)
    case atStart => exact ⟨0, rfl, by omega, Lib.hid (World.ownsRow_nil _ _ _ _), Lib.hid (Below.refl _ _), BC⟩
    case round =>
      obtain ⟨k, rfl, hk, HO, HQ, HB⟩ := hrel
      rename World => wr
      clear BC
      by_cases hlt : k < n
      · have hlt' : (k : Int) < (n : Int) := by omega
        have kL : k < s.ds.length := by have := HN.out; omega
        obtain ⟨g1, o1, rfl, hc1⟩ := id HSC.out (by omega)
        obtain ⟨a, dc, C1, D1, hd1, hd2, hd3⟩ := hc1 k kL
        have C1' := cell_on C1 HQ.out
        have DB := Lib.hid (D1.on HQ.out)
        have FS := Lib.hid (facts_snoc ow ty sc s.ds kL)
        obtain ⟨d, hd⟩ : ∃ d, d = s.ds[k] := ⟨_, rfl⟩
        rw [← hd] at C1' DB FS
        obtain ⟨m, hm⟩ : ∃ m, m = d.length := ⟨_, rfl⟩
        rw [← hm] at C1'
        have HMM := Lib.hid hm
        have c2 := cell_on C2W.out HQ.out
        have hzr : Hid (w.heap.size ≤ wr.heap.size) := Lib.hid HB.out.size
        clear hc1 C1 D1 hd1 hd2 hd3 hd hm kL
        go_wp2_with fail
        refine wp_region_under 10 (by kernel_rfl) (by kernel_rfl) (by kernel_rfl) rfl (d := (fun i => 24 + i)) (R := FaK w.heap.size wr.heap.size m dc u5 ow ty sc a d) (B := wr.heap.size) (Nat.le_refl _) (fun i j hi hj e => by omega) (fun i hi => by simp; omega) FaK_on (fun i hi b a' w' un hr => ?_) (fun V w' hV hB hs => ?_)
        · obtain ⟨_, o, ho, hall⟩ := mem_ready.1 hr
          have t5 : (a'.tmps[5]?).getD undef = u5 := slot_of ((un.old 5 (fun i _ => by omega)).trans rfl)
          have t3 : (a'.tmps[3]?).getD undef = .string (bs ow) := slot_of ((un.old 3 (fun i _ => by omega)).trans rfl)
          have t4 : (a'.tmps[4]?).getD undef = .int .i64 ty := slot_of ((un.old 4 (fun i _ => by omega)).trans rfl)
          have t1 : (a'.tmps[1]?).getD undef = .pointer (some ⟨w.heap.size, 0, none⟩) := slot_of ((un.old 1 (fun i _ => by omega)).trans rfl)
          have t7 : (a'.tmps[7]?).getD undef = .slice a m dc := slot_of ((un.old 7 (fun i _ => by omega)).trans rfl)
          have x1 := cell_in un.bel c2
          match i, hi with
          | 0, _ =>
            obtain rfl := Option.some.inj ho
            refine ⟨_, rfl, rfl, ?_⟩
            clear ho hall hr  un
            unfold Oper.wp
            go_simp
            exact ⟨_, rfl, rfl, Below.refl _ _⟩
          | 1, _ =>
            obtain rfl := Option.some.inj ho
            refine ⟨_, rfl, rfl, ?_⟩
            clear ho hall hr  un
            unfold Oper.wp
            go_simp
            exact ⟨_, rfl, rfl, Below.refl _ _⟩
          | 2, _ =>
            obtain rfl := Option.some.inj ho
            have h1 := getD_both_true (hall ⟨1, .data⟩ (by simp) rfl)
            obtain ⟨v1, hv1, hr1⟩ := un.got 1 (by simp) h1
            obtain rfl := hr1
            have s1 := slot_of (j := 25) hv1
            refine ⟨_, rfl, rfl, ?_⟩
            clear ho hall hr hv1 un
            unfold Oper.wp
            go_simp
            refine (LW.out _).mono ?_
            rintro e w2 ⟨rfl, hBx⟩
            exact ⟨_, rfl, rfl, hBx⟩
          | 3, _ =>
            obtain rfl := Option.some.inj ho
            refine ⟨_, rfl, rfl, ?_⟩
            clear ho hall hr  un
            unfold Oper.wp
            go_simp
            exact ⟨_, rfl, rfl, Below.refl _ _⟩
          | 4, _ =>
            obtain rfl := Option.some.inj ho
            refine ⟨_, rfl, rfl, ?_⟩
            clear ho hall hr  un
            unfold Oper.wp
            go_simp
            exact ⟨_, rfl, rfl, Below.refl _ _⟩
          | 5, _ =>
            obtain rfl := Option.some.inj ho
            have h4 := getD_both_true (hall ⟨4, .data⟩ (by simp) rfl)
            obtain ⟨v4, hv4, hr4⟩ := un.got 4 (by simp) h4
            obtain rfl := hr4
            have s4 := slot_of (j := 28) hv4
            refine ⟨_, rfl, rfl, ?_⟩
            clear ho hall hr hv4 un
            unfold Oper.wp
            go_simp
            exact ⟨_, rfl, rfl, Below.refl _ _⟩
          | 6, _ =>
            obtain rfl := Option.some.inj ho
            refine ⟨_, rfl, rfl, ?_⟩
            clear ho hall hr  un
            unfold Oper.wp
            go_simp
            exact ⟨_, rfl, rfl, Below.refl _ _⟩
          | 7, _ =>
            obtain rfl := Option.some.inj ho
            have h6 := getD_both_true (hall ⟨6, .data⟩ (by simp) rfl)
            obtain ⟨v6, hv6, hr6⟩ := un.got 6 (by simp) h6
            obtain rfl := hr6
            have s6 := slot_of (j := 30) hv6
            have cv := string_bys a d dc w' (DB.out.on un.bel)
            rw [← HMM.out] at cv
            refine ⟨_, rfl, rfl, ?_⟩
            clear ho hall hr hv6 un
            unfold Oper.wp
            go_simp
            exact ⟨_, rfl, rfl, Below.refl _ _⟩
          | 8, _ =>
            obtain rfl := Option.some.inj ho
            have h2 := getD_both_true (hall ⟨2, .data⟩ (by simp) rfl)
            obtain ⟨v2, hv2, hr2⟩ := un.got 2 (by simp) h2
            obtain rfl := hr2
            have s2 := slot_of (j := 26) hv2
            have h3 := getD_both_true (hall ⟨3, .data⟩ (by simp) rfl)
            obtain ⟨v3, hv3, hr3⟩ := un.got 3 (by simp) h3
            obtain rfl := hr3
            have s3 := slot_of (j := 27) hv3
            have h5 := getD_both_true (hall ⟨5, .data⟩ (by simp) rfl)
            obtain ⟨v5, hv5, hr5⟩ := un.got 5 (by simp) h5
            obtain rfl := hr5
            have s5 := slot_of (j := 29) hv5
            have h7 := getD_both_true (hall ⟨7, .data⟩ (by simp) rfl)
            obtain ⟨v7, hv7, hr7⟩ := un.got 7 (by simp) h7
            obtain rfl := hr7
            have s7 := slot_of (j := 31) hv7
            refine ⟨_, rfl, rfl, ?_⟩
            clear ho hall hr hv2 hv3 hv5 hv7 un
            unfold Oper.wp
            go_simp
            exact ⟨_, rfl, rfl, Below.refl _ _⟩
          | 9, _ =>
            obtain rfl := Option.some.inj ho
            have h8 := getD_both_true (hall ⟨8, .data⟩ (by simp) rfl)
            obtain ⟨v8, hv8, hr8⟩ := un.got 8 (by simp) h8
            obtain rfl := hr8
            have s8 := slot_of (j := 32) hv8
            refine ⟨_, rfl, rfl, ?_⟩
            clear ho hall hr hv8
            unfold Oper.wp
            go_simp
            exact ⟨_, rfl, ⟨_, rfl, un.big, row_new _ rfl⟩, Below.alloc (Below.refl _ _) (Nat.le_refl _) _⟩
        · obtain ⟨g, e9, hg0, hg⟩ := hV 9 (by omega)
          have e0 : V 0 = u5 := hV 0 (by omega)
          simp only [putAll, Act.put, e9, e0, Nat.reduceAdd, List.setIfInBounds_toArray, List.set_cons_succ, List.set_cons_zero, List.drop_succ_cons, List.drop_zero]
          generalize V 1 = y1, V 2 = y2, V 3 = y3, V 4 = y4, V 5 = y5, V 6 = y6, V 7 = y7, V 8 = y8
          have o1' := ownsRow_below HO.out hB (Nat.le_refl _)
          have O1 := Lib.hid o1'
          have B1 := Lib.hid (Below.trans HB.out (hB.mono hzr.out))
          have Q1 := Lib.hid (Below.trans HQ.out (hB.mono HQ.out.size))
          have NW := Lib.hid (World.news_of_block hg)
          have SZ := Lib.hid (Nat.le_trans HQ.out.size hs)
          clear hV e9 e0 o1' hg hB
          obtain ⟨xs, hxs⟩ : ∃ xs, xs = (factsP ow ty sc (s.ds.take k)).flatMap faL := ⟨_, rfl⟩
          rw [← hxs] at O1 FS
          clear hxs
          go_wp2_with (first
            | (at_builtin; refine wpList_append_at rfl (.tmp 24) (.tmp 33) 59 rfl wc.heap.size 62 i0 (.agg #[.string ⟨#[]⟩, .int .i64 0, .int .i64 0, .string ⟨#[]⟩]) 4 48 Try.underlying59 hi hy0 hy1 hy2 rfl (by decide) _ k xs rfl O1.out ⟨g, 0, none⟩ 1 1 (faL ⟨lower ow, ty, sc, d⟩) rfl rfl NW.out (fa_one _) (by unfold maxLen; omega) (by omega) SZ.out ?_)
            | fail)
          intro v' w2 ow2 hg2 hf2
          have Q2 := Lib.hid (Below.grown Q1.out hg2 Q1.out.size (fun j hj => (O1.out.lt j hj).1))
          have B2 := Lib.hid (Below.grown B1.out hg2 B1.out.size (fun j hj => Nat.le_trans BCS.out (O1.out.lt j hj).1))
          rw [← FS.out] at ow2
          have OW := Lib.hid ow2
          clear ow2 hg2 hf2 O1 Q1 B1 NW
          go_wp2_with fail
          go_roundw
          case rel => exact ⟨k + 1, by go_num, by omega, OW, Q2, B2⟩
          case measure => simp [intOf]; omega
      · obtain rfl : k = n := by omega
        have hO := HO.out
        have e9 : s.ds.take k = s.ds := by rw [HN.out, List.take_length]
        rw [e9] at hO
        have HO2 := Lib.hid hO
        clear HO hO e9
        go_wp2_with fail
        go_ret
        exact ⟨u5, rfl, own_le HO2.out BCS.out, HB.out⟩
end Go.Proofs.Ytkihlcecjcjmlaa
