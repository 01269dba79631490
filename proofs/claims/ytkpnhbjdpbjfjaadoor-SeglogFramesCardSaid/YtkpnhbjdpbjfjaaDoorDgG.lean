/-
  The document's 64 words of a block.
-/
import Derived.Test.YtkpnhbjdpbjfjaaDoorDgF
import Derived.Maps.AppendAt
namespace Go.Proofs.YtkpnhbjdpbjfjaaDoor
open Go.RowKit
set_option linter.unusedVariables false
set_option maxRecDepth 100000

theorem append_keeps32 {w : World} {base g n cap : Nat} {xs : List Value} (hown : w.ownsRow base 25 1 (.slice (some ⟨g, 0, none⟩) n cap) n xs) (ty : TypeId) (ad : Addr) (m c : Nat) (news : List Value) (hl : news.length = m) (hnews : ∀ j u, news[j]? = some u → w.cell? (ad.add j) = some u) (h1 : ∀ u ∈ news, u.oneCell' = true) (hlen : n + m ≤ 1000000) (hbase : base ≤ w.heap.size) :
    ∃ v' w', (Builtin.append_ #[36, 36] ty #[.slice (some ⟨g, 0, none⟩) n cap, .slice (some ad) m c]).run Tryd.prog w = .ok v' w' ∧ w'.ownsRow base 25 1 v' (n + m) (xs ++ news) ∧ w.grownBy w' (some g) ∧ ∀ j, j < n → w'.cell? ⟨g, j, none⟩ = w.cell? ⟨g, j, none⟩ := by
  obtain ⟨i, hi, hz0, hz1, hz2⟩ := info_parts32 info_u32
  obtain ⟨v', w', r0, r1, r2, r3, r4⟩ := run_append_own_at (P := Tryd.prog) w base 36 ty 25 i (.int .u32 0) 1 4 Tryd.underlying36 hi hz0 hz1 hz2 rfl (by decide) _ n xs hown ad m c news (by omega) hnews h1 (by unfold maxLen; omega) (by omega) hbase
  refine ⟨v', w', r0, r1, r2, fun j hj => ?_⟩
  rcases hown.2 with ⟨e, _⟩ | ⟨g', cap', cur, e, hb, hh, hc, hm, hsz, ht⟩
  · cases e
  injection e with e1 e2 e3
  injection e1 with e1
  injection e1 with e1
  subst e1 e3
  have hx : xs.length = n := by have := hown.1; omega
  obtain ⟨u, hu⟩ : ∃ u, xs[j]? = some u := ⟨_, List.getElem?_eq_getElem (by omega)⟩
  have a1 := hown.cells (g := g) rfl j u hu
  rw [Addr.add_lit, Nat.zero_add] at a1
  rw [a1]
  by_cases hroom : n + m ≤ cap
  · have hr := run_append_room (P := Tryd.prog) w 36 ty 25 i Tryd.underlying36 hi g n cap cur hh ad m c news (by rw [hz1]; omega) hnews h1 hroom (by rw [hz1, hsz]; omega)
    rw [r0] at hr
    injection hr with hv hw
    have a2 := r1.cells (g := g) (by rw [hv]; rfl) j u (by rw [List.getElem?_append_left (by omega)]; exact hu)
    rw [Addr.add_lit, Nat.zero_add] at a2
    exact a2
  · have hr := run_append_grow (P := Tryd.prog) w 36 ty 25 i (.int .u32 0) Tryd.underlying36 hi hz0 ⟨g, 0, none⟩ n cap xs (by rw [hz1]; omega) (hown.cells (g := g) rfl) ad m c news (by rw [hz1]; omega) hnews (by omega) (by omega) (growslice_fits (by omega) (by rw [hz2]; omega))
    rw [r0] at hr
    injection hr with hv hw
    rw [hw]
    refine (World.cell?_of_block (a := ⟨g, j, none⟩) (heap_alloc_old w.drew _ ?_)).trans a1
    exact (Array.getElem?_eq_some_iff.1 hh).1
noncomputable def append32 (v u : Value) (ty : TypeId) (w : World) : Result Next := ((Builtin.append_ #[36, 36] ty #[v, u]).run Tryd.prog w).andThen fun a w' => .ok (.value a) w'
theorem exec_append32 (ev : Operand → Value) (d : Option Tmp) (x y : Operand) (t : TypeId) (p : String) (f : Array Edge) (w : World) : (execOp ev { dst := d, op := .call { callee := .builtin .append, args := #[x, y], argTypes := #[36, 36] }, type := t, pos := p, after := f, guard := none }).run Tryd.prog w = append32 (ev x) (ev y) t w := by
  unfold execOp append32
  simp only [resolve, invoke, builtin, Sem.run_bind, Sem.run_pure, Result.andThen_ok, List.map_toArray, List.map_cons, List.map_nil]
theorem append32_of {v u : Value} {ty : TypeId} {w w' : World} {v' : Value} (h : (Builtin.append_ #[36, 36] ty #[v, u]).run Tryd.prog w = .ok v' w') : append32 v u ty w = .ok (.value v') w' := by
  unfold append32; rw [h]; rfl
attribute [local go_sem ↓] exec_append32
set_option maxHeartbeats 4000000 in
set_option maxRecDepth 100000 in
theorem docSchedule_any (A : Option Addr) (l : Bs) (c : Nat) (W : World) (hS : Bys W A l) (hl : l.length = 64) (hc : 64 ≤ c) (hcm : c ≤ 9223372036854775807) : Calls Tryd.prog 23 #[.slice A l.length c] W fun e w' => (∃ v, e = .returned v ∧ w'.ownsRow W.heap.size 25 1 v 64 ((words l 64).map u32V)) ∧ Below W.heap.size W w' := by
  obtain ⟨i0, hi, hz0, hz1, hz2⟩ := info_parts32 info_u32
  have HL := Lib.hid hl
  rw [hl]
  clear hl
  go_enter Tryd.func23, Tryd.ntmps23
  go_wp2_with fail
  go_loopw [3, 10] (fun v u wr => ∃ i : Nat, u = .int .i64 i ∧ i ≤ 16 ∧ wr.ownsRow W.heap.size 25 1 v i ((words l i).map u32V) ∧ Below W.heap.size W wr) (fun _ u _ => 16 - (intOf u).toNat)
  case atStart => exact ⟨0, rfl, by omega, World.ownsRow_nil _ _ _ _, Below.refl _ _⟩
  case round =>
    obtain ⟨i, rfl, hi16, hown, hB⟩ := hrel
    by_cases hlt : i < 16
    · have hti : (i : Int) < 16 := by omega
      have hL := HL.out
      obtain ⟨A', hrun, hS', hc'⟩ := slice_bys A l c (4 * i) (4 * (i : Int)) wr (hS.on hB) (by omega) (by omega) (by omega)
      have hdl : (l.drop (4 * i)).length = 64 - 4 * i := by rw [List.length_drop]; omega
      have HWD := Lib.hid (fun W' hW => docWord_any A' (l.drop (4 * i)) (64 - 4 * i) (c - 4 * i) W' hW (by omega) hdl.symm (by omega))
      rw [hL, hdl] at hrun
      have HV : Hid (wordOf ((l.drop (4 * i))[0]'(by omega)).toNat ((l.drop (4 * i))[1]'(by omega)).toNat ((l.drop (4 * i))[2]'(by omega)).toNat ((l.drop (4 * i))[3]'(by omega)).toNat = (words l (i + 1)).getD i 0) := Lib.hid (by
        rw [words_last, if_pos hlt]
        simp [List.getElem_drop, List.getD_eq_getElem?_getD, show 4 * i < l.length by omega, show 4 * i + 1 < l.length by omega, show 4 * i + 2 < l.length by omega, show 4 * i + 3 < l.length by omega])
      generalize wordOf ((l.drop (4 * i))[0]'(by omega)).toNat ((l.drop (4 * i))[1]'(by omega)).toNat ((l.drop (4 * i))[2]'(by omega)).toNat ((l.drop (4 * i))[3]'(by omega)).toNat = x at HWD HV
      have HN : Hid (words l (i + 1) = words l i ++ [x]) := Lib.hid (by
        have := HV.out
        rw [words_last] at this
        rw [this]; rfl)
      generalize l.drop (4 * i) = y at *
      clear hc' hdl hL
      go_wp2_with fail
      refine (HWD.out _ hS').mono ?_
      rintro e w1 ⟨rfl, b1⟩
      have hown1 := dgOwn_below hown b1 (Nat.le_refl _)
      obtain ⟨hB1, hs1⟩ := dgNext hB hB.size b1
      clear b1 hown hB hS' HWD hrun
      go_wp2_with (at_builtin; refine wpList_append_own _ rfl _ _ 36 rfl W.heap.size 25 i0 (.int .u32 0) 1 4 Tryd.underlying36 hi hz0 hz1 hz2 rfl (by decide) _ _ _ rfl (hown1.alloc _) ⟨w1.heap.size, 0, none⟩ 1 1 [u32V x] rfl rfl ?c1 ?c2 ?c3 ?c4 ?c5 ?_)
      case c1 => exact World.news_of_block (cs := #[u32V x]) (t := 25) (fr := (0, 0)) (row_new _ (by simp))
      case c2 => simp [u32V, Value.oneCell']
      case c3 => unfold maxLen; omega
      case c4 => omega
      case c5 => simp; omega
      intro v' w2 hown2 hgrow _
      have hB2 : Below W.heap.size W w2 := Below.grown (Below.alloc hB1 hs1 _) hgrow (by simp; omega) (fun g e => (hown1.lt g e).1)
      clear hgrow hB1 hown1
      go_wp2_with fail
      go_roundw
      case rel => exact ⟨i + 1, by go_num, by omega, by rw [HN.out, List.map_append]; exact hown2, hB2⟩
      case measure => simp [intOf]; omega
    · have HI : Hid (i = 16) := Lib.hid (by omega)
      have g1 : (16 : Int) ≤ i := by omega
      rw [HI.out] at hown
      clear hlt hi16 HI
      go_wp2_with fail
      go_loopw [3, 5] (fun v u wr => ∃ i : Nat, u = .int .i64 i ∧ 16 ≤ i ∧ i ≤ 64 ∧ wr.ownsRow W.heap.size 25 1 v i ((words l i).map u32V) ∧ Below W.heap.size W wr) (fun _ u _ => 64 - (intOf u).toNat)
      case atStart => exact ⟨16, rfl, by omega, by omega, hown, hB⟩
      case round =>
        clear hown hB g1
        obtain ⟨i, rfl, h16, h64, hown, hB⟩ := hrel
        by_cases hlt : i < 64
        · have hti : (i : Int) < 64 := by omega
          obtain ⟨g, cc, rfl, hbg, hnl, hcc, hcm2, hcell⟩ := own_u32 hown (by omega)
          have y15 := hcell (i - 15) (by omega)
          have y2 := hcell (i - 2) (by omega)
          have y16 := hcell (i - 16) (by omega)
          have y7 := hcell (i - 7) (by omega)
          have hlt4 : ∀ j, (words l i).getD j 0 < 4294967296 := fun j => by
            rw [List.getD_eq_getElem?_getD]
            cases h : (words l i)[j]? with
            | none => decide
            | some v => exact words_lt l i v (List.mem_of_getElem? h)
          have q15 := hlt4 (i - 15)
          have q2 := hlt4 (i - 2)
          have q16 := hlt4 (i - 16)
          have q7 := hlt4 (i - 7)
          have HN : Hid (words l (i + 1) = words l i ++ [((words l i).getD (i - 16) 0 + sig0 ((words l i).getD (i - 15) 0) + (words l i).getD (i - 7) 0 + sig1 ((words l i).getD (i - 2) 0)) % 4294967296]) := Lib.hid (by
            rw [words, if_neg (by omega)])
          generalize (words l i).getD (i - 15) 0 = x15 at *
          generalize (words l i).getD (i - 2) 0 = x2 at *
          generalize (words l i).getD (i - 16) 0 = x16 at *
          generalize (words l i).getD (i - 7) 0 = x7 at *
          clear hcell hlt4 hnl
          have R7 := Lib.hid (fun W => docRight_any x15 7 W q15 (by omega) (by omega))
          have R18 := Lib.hid (fun W => docRight_any x15 18 W q15 (by omega) (by omega))
          have R17 := Lib.hid (fun W => docRight_any x2 17 W q2 (by omega) (by omega))
          have R19 := Lib.hid (fun W => docRight_any x2 19 W q2 (by omega) (by omega))
          have HS0 : Hid (bits .xor .u32 (bits .xor .u32 ((rotr x15 7 : Nat) : Int) ((rotr x15 18 : Nat) : Int)) ((x15 : Int) / (8 : Int)) = ((sig0 x15 : Nat) : Int)) := Lib.hid (by
            rw [show (x15 : Int) / (8 : Int) = ((x15 >>> 3 : Nat) : Int) from div8 x15, xor_u32 _ _ (rotr_lt q15) (rotr_lt q15), xor_u32 _ _ (Nat.xor_lt_two_pow (n := 32) (rotr_lt q15) (rotr_lt q15)) (by rw [Nat.shiftRight_eq_div_pow]; omega)]
            rfl)
          have HS1 : Hid (bits .xor .u32 (bits .xor .u32 ((rotr x2 17 : Nat) : Int) ((rotr x2 19 : Nat) : Int)) ((x2 : Int) / (1024 : Int)) = ((sig1 x2 : Nat) : Int)) := Lib.hid (by
            rw [show (x2 : Int) / (1024 : Int) = ((x2 >>> 10 : Nat) : Int) from div1024 x2, xor_u32 _ _ (rotr_lt q2) (rotr_lt q2), xor_u32 _ _ (Nat.xor_lt_two_pow (n := 32) (rotr_lt q2) (rotr_lt q2)) (by rw [Nat.shiftRight_eq_div_pow]; omega)]
            rfl)
          have i15 : (0 : Int) ≤ (i : Int) - 15 := by omega
          have i2 : (0 : Int) ≤ (i : Int) - 2 := by omega
          have n15 : ((i : Int) - 15).toNat = i - 15 := by omega
          have n2 : ((i : Int) - 2).toNat = i - 2 := by omega
          go_wp2_with fail
          go_quiet (fail)
          go_wp2_with fail
          refine (R7.out _).mono ?_
          rintro e w1 ⟨rfl, b1⟩
          go_wp2_with fail
          refine (R18.out _).mono ?_
          rintro e w2 ⟨rfl, b2⟩
          go_wp2_with fail
          refine (R17.out _).mono ?_
          rintro e w3 ⟨rfl, b3⟩
          go_wp2_with fail
          refine (R19.out _).mono ?_
          rintro e w4 ⟨rfl, b4⟩
          go_wp2_with fail
          have hg : g < wr.heap.size := (hown.lt g rfl).2
          have hB5 : Below wr.heap.size wr w4 := Below.trans (Below.trans (Below.trans (Below.trans (below_drewN (Below.refl _ _) nq) b1) (b2.mono b1.size)) (b3.mono (Nat.le_trans b1.size b2.size))) (b4.mono (Nat.le_trans (Nat.le_trans b1.size b2.size) b3.size))
          have hown4 := dgOwn_below hown hB5 (Nat.le_refl _)
          obtain ⟨hB4, hs4⟩ := dgNext hB hB.size hB5
          have z16 : w4.cell? ⟨g, i - 16, none⟩ = some (.int .u32 (x16 : Nat)) := by rw [World.cell?_of_block (a := ⟨g, i - 16, none⟩) (hB5.block g hg)]; exact y16
          have z7 : w4.cell? ⟨g, i - 7, none⟩ = some (.int .u32 (x7 : Nat)) := by rw [World.cell?_of_block (a := ⟨g, i - 7, none⟩) (hB5.block g hg)]; exact y7
          clear y15 y2 y16 y7 hB5 b1 b2 b3 b4 hown hB R7 R18 R17 R19 i15 i2 n15 n2
          rw [HS0.out, HS1.out]
          have i16 : (0 : Int) ≤ (i : Int) - 16 := by omega
          have i7 : (0 : Int) ≤ (i : Int) - 7 := by omega
          have n16 : ((i : Int) - 16).toNat = i - 16 := by omega
          have p16 : IntKind.i64.wrap ((i : Int) - 16) = (i : Int) - 16 := by rw [IntKind.wrap_i64]; omega
          have p7 : IntKind.i64.wrap ((i : Int) - 7) = (i : Int) - 7 := by rw [IntKind.wrap_i64]; omega
          have v16 : (i : Int) - 16 < (i : Int) := by omega
          have v7 : (i : Int) - 7 < (i : Int) := by omega
          have n7 : ((i : Int) - 7).toNat = i - 7 := by omega
          have HZ : Hid (((((x16 : Int) + (sig0 x15 : Nat)) % 4294967296 + (x7 : Nat)) % 4294967296 + (sig1 x2 : Nat)) % 4294967296 = (((x16 + sig0 x15 + x7 + sig1 x2) % 4294967296 : Nat) : Int)) := Lib.hid (by omega)
          generalize sig0 x15 = s0 at *
          generalize sig1 x2 = s1 at *
          clear HS0 HS1
          have hz : IntKind.u32.wrap (IntKind.u32.wrap (IntKind.u32.wrap ((x16 : Int) + s0) + x7) + s1) = (((x16 + s0 + x7 + s1) % 4294967296 : Nat) : Int) := by
            rw [IntKind.wrap_u32, IntKind.wrap_u32, IntKind.wrap_u32]
            omega
          clear HZ
          generalize ((x16 + s0 + x7 + s1) % 4294967296) = X at *
          have j16 : (16 : Int) ≤ (i : Int) := by omega
          have j7 : (7 : Int) ≤ (i : Int) := by omega
          have rN : ((w4.alloc (.cells #[.int .u32 (X : Nat)] 25)).drew).heap[w4.heap.size]? = some (.cells #[.int .u32 (X : Nat)] 25 (0, 0)) := row_new _ rfl
          obtain ⟨v', w', hrun, hown2, hgrow, hkeep⟩ := append_keeps32 (w := (w4.alloc (.cells #[.int .u32 (X : Nat)] 25)).drew) (hown4.alloc _).drew 36 ⟨w4.heap.size, 0, none⟩ 1 1 [u32V X] rfl (fun j u hj => by
            have : j = 0 := by
              have := (List.getElem?_eq_some_iff.1 hj).1
              simp at this; omega
            subst this
            rw [Addr.add_lit]
            exact (cell_of_row _ _ _ _ _ _ rN).trans hj) (by simp [u32V, Value.oneCell']) (by omega) (by simp; omega)
          have hgl : g < w4.heap.size := (hown4.lt g rfl).2
          have ba : (w4.alloc (.cells #[.int .u32 (X : Nat)] 25)).drew.heap[g]? = w4.heap[g]? := Below.heap_alloc w4 _ g hgl
          have k16 : w'.cell? ⟨g, i - 16, none⟩ = some (.int .u32 (x16 : Nat)) := ((hkeep (i - 16) (by omega)).trans (World.cell?_of_block (a := ⟨g, i - 16, none⟩) ba)).trans z16
          have k7 : w'.cell? ⟨g, i - 7, none⟩ = some (.int .u32 (x7 : Nat)) := ((hkeep (i - 7) (by omega)).trans (World.cell?_of_block (a := ⟨g, i - 7, none⟩) ba)).trans z7
          have a16 : (w4.alloc (.cells #[.int .u32 (X : Nat)] 25)).drew.cell? ⟨g, i - 16, none⟩ = some (.int .u32 (x16 : Nat)) := (World.cell?_of_block (a := ⟨g, i - 16, none⟩) ba).trans z16
          have a7 : (w4.alloc (.cells #[.int .u32 (X : Nat)] 25)).drew.cell? ⟨g, i - 7, none⟩ = some (.int .u32 (x7 : Nat)) := (World.cell?_of_block (a := ⟨g, i - 7, none⟩) ba).trans z7
          have hap := append32_of hrun
          have hB2 : Below W.heap.size W w' := Below.grown (Below.drew (Below.alloc hB4 hs4 _)) hgrow (by simp; omega) (fun k e => by injection e with e; subst e; exact (hown4.lt g rfl).1)
          have HOW := Lib.hid hown2
          have HB2 := Lib.hid hB2
          clear rN hrun hown2 hgrow hkeep ba hown4 hB4 hB2
          go_region_held3 (fun w' => w'.cell? ⟨g, i - 16, none⟩ = some (.int .u32 (x16 : Nat)) ∧ w'.cell? ⟨g, i - 7, none⟩ = some (.int .u32 (x7 : Nat)))
            (first | exact ⟨by assumption, by assumption⟩ | go_keep)
            (first | fail)
          go_wp2_with fail
          go_roundw
          case rel => exact ⟨i + 1, by go_num, by omega, by omega, by rw [HN.out, List.map_append]; exact HOW.out, HB2.out⟩
          case measure => simp [intOf]; omega
        · have : i = 64 := by omega
          subst this
          go_wp2_with fail
          go_ret
          exact ⟨⟨_, rfl, hown⟩, hB⟩
end Go.Proofs.YtkpnhbjdpbjfjaaDoor
