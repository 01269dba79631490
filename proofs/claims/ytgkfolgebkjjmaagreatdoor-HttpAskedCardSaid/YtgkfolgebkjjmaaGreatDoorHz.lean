/-
  strconv.AppendInt at base 16: the power of two.
  strconv.AppendInt at base 16: the digits.
  strconv.AppendInt at base 16; a chunk put behind bytes.
  slices.Chunk of bytes: its closure, as an iterator over the parts.
  slices.Chunk of bytes: its closure hands the parts.
  The landed Encode of a body in chunks.
-/
import Derived.Test.YtgkfolgebkjjmaaGreatDoorCkF
import Derived.Test.YtgkfolgebkjjmaaGreatDoorHdB
import Derived.Deep.MidRow
import Derived.RangeFuncOwn
import Derived.RangeFuncNested
import Derived.RangeFuncBound
import Derived.RangeFuncCalls
import Derived.RangeFuncLeaves
import Derived.Shelf.Abstract
import Derived.WalkKit
import Derived.OwnWalkIn
import Derived.TacticsInMore
import Derived.LoopNIn
import Derived.LoopIn
import Derived.RangeFuncBox
import Derived.Sort.QuietIn
namespace Go.Proofs.YtgkfolgebkjjmaaGreatDoor
open Go.RowKit
set_option linter.unusedVariables false
set_option maxRecDepth 100000

/-- The one cell of the table that is read: how many noughts 16 ends with. -/
def TabC (w : World) : Prop := w.cell? ⟨2, 15, none⟩ = some (.int .u8 4)
theorem TabC.on {w w1 : World} (h : TabC w) (k : Below w.heap.size w w1) : TabC w1 := cell_on h k
theorem TabC.grown {w w1 : World} {r : Option Nat} (h : TabC w) (k : w.grownBy w1 r) (hr : r ≠ some 2) : TabC w1 := (World.cell?_of_block (k.block 2 (World.block_lt_of_cell? w _ h) (fun e => hr e.symm))).trans h
set_option maxHeartbeats 1000000 in
theorem tz64_any (w : World) (h : TabC w) : Calls Tryz.prog 62 #[.int .u64 16] w fun e w' => e = .returned (.int .i64 4) ∧ w' = w := by
  have T : w.cell? ⟨2, 15, none⟩ = some (.int .u8 4) := h
  have e1 : bits .and .u64 16 (IntKind.u64.wrap (-16)) = 16 := by decide +kernel
  have e2 : IntKind.u64.wrap (16 * 285870213051353865) = 4573923408821661840 := by decide +kernel
  have e3 : (4573923408821661840 : Int) / 288230376151711744 = 15 := by decide +kernel
  clear h
  go_enter Tryz.func62, Tryz.ntmps62
  go_wp2_with fail
  go_ret
  exact ⟨rfl, rfl⟩
set_option maxHeartbeats 1000000 in
theorem tz_any (w : World) (h : TabC w) : Calls Tryz.prog 53 #[.int .u64 16] w fun e w' => e = .returned (.int .i64 4) ∧ w' = w := by
  have E := Lib.hid (tz64_any w h)
  clear h
  go_enter Tryz.func53, Tryz.ntmps53
  go_wp2_with fail
  refine E.out.mono ?_
  rintro e w1 ⟨rfl, rfl⟩
  go_wp2_with fail
  go_ret
  exact ⟨rfl, rfl⟩
set_option maxHeartbeats 1000000 in
theorem pow2_any (w : World) : Calls Tryz.prog 52 #[.int .i64 16] w fun e w' => e = .returned (.bool true) ∧ w' = w := by
  have e1 : bits .and .i64 16 15 = 0 := by decide +kernel
  go_enter Tryz.func52, Tryz.ntmps52
  go_wp2_with fail
  go_ret
  exact ⟨rfl, rfl⟩
end Go.Proofs.YtgkfolgebkjjmaaGreatDoor
namespace Go.Proofs.YtgkfolgebkjjmaaGreatDoor
open Go.RowKit
set_option linter.unusedVariables false
set_option maxRecDepth 100000

theorem wraps_u64 (n : Int) (h₀ : 0 ≤ n) (h₁ : n < 2 ^ 64) : IntKind.u64.wrap n = n := by simp [IntKind.wrap, IntKind.bits, IntKind.signed]; omega
theorem and_15 (u : Nat) (hu : u < 18446744073709551616) : bits .and .u64 (u : Int) 15 = ((u % 16 : Nat) : Int) := by
  have h := (bits_nat .u64 64 (by decide) wraps_u64 u 15 (by omega) (by omega)).1
  rw [Nat.and_two_pow_sub_one_eq_mod u 4] at h
  exact h
abbrev hexS : ByteArray := ⟨#[48, 49, 50, 51, 52, 53, 54, 55, 56, 57, 97, 98, 99, 100, 101, 102, 103, 104, 105, 106, 107, 108, 109, 110, 111, 112, 113, 114, 115, 116, 117, 118, 119, 120, 121, 122]⟩
theorem hexS_at (r : Nat) (h : r < 16) (W : World) : (Instr.index 9 (.string ⟨#[48, 49, 50, 51, 52, 53, 54, 55, 56, 57, 97, 98, 99, 100, 101, 102, 103, 104, 105, 106, 107, 108, 109, 110, 111, 112, 113, 114, 115, 116, 117, 118, 119, 120, 121, 122]⟩) (.int .u64 r)).run Tryz.prog W = .ok (.int .u8 (hexd r).toNat) W := by
  have hz : hexS.size = 36 := rfl
  have key : ∀ (r : Fin 16) (h : r.val < hexS.size), hexS[r.val] = hexd r.val := by decide +kernel
  have hs : (r : Int).toNat = r := Int.toNat_natCast r
  rw [run_index_string _ _ _ _ _ Tryz.underlying9, dif_pos ⟨by omega, by show (r : Int) < (hexS.size : Int); omega⟩]
  have := key ⟨r, h⟩ (by omega)
  simp only [hs]
  exact congrArg (fun z : UInt8 => Result.ok (Value.int .u8 z.toNat) W) this
theorem drop_set_self : ∀ (l : List Value) (k : Nat) (v : Value), k < l.length → (l.set k v).drop k = v :: l.drop (k + 1)
  | [], k, v, h => by simp at h
  | x :: l, 0, v, h => rfl
  | x :: l, k + 1, v, h => by simpa using drop_set_self l k v (by simpa using h)
theorem zero65 (W : World) : (zeroValue 94).run Tryz.prog W = .ok (.agg (List.replicate 65 (Value.int .u8 0)).toArray) W := by kernel_rfl
theorem elem65 : Tryz.prog.elem 94 = 5 := by kernel_rfl
theorem len65 : Tryz.prog.arrayLen 94 = 65 := by kernel_rfl
theorem slice65 (g k m : Nat) (h0 : 0 < m) (h : k + m = 65) (W : World) : (Instr.sliceAt 94 (.pointer (some ⟨g, 0, none⟩)) (some (.int .i64 k)) none none).run Tryz.prog W = .ok (.slice (some ⟨g, k, none⟩) m m) W := by
  rw [run_sliceAt_array_l W 94 ⟨g, 0, none⟩ (by rw [elem65, len65]; exact Tryz.underlying94) .i64 (k : Int) (by omega) (by rw [len65]; omega), elem65, size_u8, len65]
  simp only [Result.andThen_ok, slicedAt, Int.toNat_natCast]
  rw [if_neg (by omega), show 65 - k = m by omega, Nat.mul_one, Addr.add_lit, Nat.zero_add]
theorem hexC_snoc (u : Nat) (h : ¬ u < 16) : hexC u = hexC (u / 16) ++ [hexd (u % 16)] := hexC_big h
set_option maxHeartbeats 4000000 in
theorem fmt_any (v : Value) (l : Bs) (n : Nat) (base : Nat) (w : World) (hn : n < 16 ^ 6) (ho : OwnR w base v l) (hT : TabC w) (hbase : base ≤ w.heap.size) (hlen : l.length + (hexC n).length ≤ 140737488355328) :
    Calls Tryz.prog 44 #[v, .int .u64 n, .int .i64 16, .bool false, .bool true] w fun e w' => ∃ v', e = .returned (.tuple #[v', .string ⟨#[]⟩]) ∧ OwnR w' base v' (l ++ hexC n) ∧ w.grownBy w' v.ownBlock := by
  have P2 := Lib.hid (fun W => pow2_any W)
  have TZ := Lib.hid (fun W h => tz_any W h)
  have HO := Lib.hid ho
  have HT := Lib.hid hT
  have HN : Hid (n < 16 ^ 6) := Lib.hid hn
  have HLEN2 := Lib.hid hlen
  have hv : ∃ A c, v = .slice A l.length c := by
    rcases ho.2 with ⟨h1, h2⟩ | ⟨g, cap, cur, h1, -⟩
    · exact ⟨none, 0, by rw [h1, h2]⟩
    · exact ⟨_, _, h1⟩
  obtain ⟨A, c, rfl⟩ := hv
  obtain ⟨Z, hZ⟩ : ∃ Z, Z = (List.replicate 65 (Value.int .u8 0)).toArray := ⟨_, rfl⟩
  have hZs : Hid (Z.size = 65) := Lib.hid (by rw [hZ]; rfl)
  have zv := fun W => zero65 W
  rw [← hZ] at zv
  clear hZ
  obtain ⟨ln, hln⟩ : ∃ ln, ln = l.length := ⟨_, rfl⟩
  rw [← hln] at HO ⊢
  clear ho hT hlen hn hln
  go_enter Tryz.func44, Tryz.ntmps44
  go_wp2_with fail
  refine (P2.out _).mono ?_
  rintro e w1 ⟨rfl, hw⟩
  rw [hw]
  clear hw P2
  go_wp2_with fail
  refine (TZ.out _ ?_).mono ?_
  · exact HT.out.on (Below.alloc (Below.refl _ _) (Nat.le_refl _) _)
  rintro e w2 ⟨rfl, hw⟩
  rw [hw]
  clear hw TZ
  go_wp2_with fail
  have b0 : Below w.heap.size w (w.alloc (.cells Z 94)) := Below.alloc (Below.refl _ _) (Nat.le_refl _) _
  have r0 : (w.alloc (.cells Z 94)).heap[w.heap.size]? = some (.cells Z 94 (0, 0)) := row_new _ rfl
  have B0 := Lib.hid b0
  have R0 := Lib.hid r0
  have HIX := Lib.hid (fun r h W => hexS_at r h W)
  clear zv b0 r0
  generalize w.alloc (.cells Z 94) = W0 at *
  go_loopw [1, 13] (fun u i wr => ∃ (q k : Nat) (t : Bs) (cs : Array Value), u = .int .u64 q ∧ i = .int .i64 k ∧ k + t.length = 65 ∧ t.length ≤ 5 ∧ q < 16 ^ (6 - t.length) ∧ Hid (hexC n = hexC q ++ t) ∧ wr.heap[w.heap.size]? = some (.cells cs 94 (0, 0)) ∧ cs.size = 65 ∧ Hid (cs.toList.drop k = t.map byteV) ∧ Below w.heap.size w wr) (fun _ i _ => (intOf i).toNat)
  case atStart => exact ⟨n, 65, [], Z, rfl, rfl, rfl, Nat.zero_le _, HN.out, Lib.hid (by simp), R0.out, hZs.out, Lib.hid (by rw [List.drop_eq_nil_of_le (by have := hZs.out; simp; omega)]; rfl), B0.out⟩
  case round =>
    clear B0 R0
    obtain ⟨q, k, t, cs, rfl, rfl, hk, ht, hq, hG, hr, hcs, hd, hB⟩ := hrel
    have hq6 : q < 16 ^ 6 := Nat.lt_of_lt_of_le hq (Nat.pow_le_pow_right (by omega) (by omega))
    obtain ⟨k', rfl⟩ : ∃ k', k = k' + 1 := ⟨k - 1, by omega⟩
    have wr1 : IntKind.i64.wrap (((k' + 1 : Nat) : Int) - 1) = (k' : Int) := by rw [IntWalk.i64_in _ (by omega)]; omega
    have there : ∃ z, wr.cell? ⟨w.heap.size, k', none⟩ = some z := by
      rw [cell_of_row _ _ _ _ _ _ hr]
      exact ⟨_, Array.getElem?_eq_getElem (by omega)⟩
    obtain ⟨z, hz⟩ := there
    have fz : wr.frozen? ⟨w.heap.size, k', none⟩ = false := frozen_of_row _ _ k' _ _ hr
    by_cases h16 : q < 16
    · have h16' : ¬ (16 : Int) ≤ (q : Int) := by omega
      have ix := HIX.out q h16
      have r2 := row_set (w := wr) (g := w.heap.size) (i := k') (.int .u8 (hexd q).toNat) hr
      have b2 : Below w.heap.size w (wr.setCell ⟨w.heap.size, k', none⟩ (.int .u8 (hexd q).toNat)) := Below.setCell hB (Nat.le_refl _) _
      have G2 : hexC n = hexd q :: t := by rw [hG.out, hexC_small h16]; rfl
      have D2 : (cs.setIfInBounds k' (.int .u8 (hexd q).toNat)).toList.drop k' = (hexd q :: t).map byteV := by
        rw [Array.toList_setIfInBounds, drop_set_self _ _ _ (by simp; omega), hd.out]
        rfl
      rw [← G2] at D2
      have SL : Hid (Sl (wr.setCell ⟨w.heap.size, k', none⟩ (.int .u8 (hexd q).toNat)) (some ⟨w.heap.size, k', none⟩) (65 - k') (hexC n)) := Lib.hid ⟨fun _ => ⟨_, k', rfl, fun j hj => by
        rw [cell_of_row _ _ _ _ _ _ r2]
        have e := congrArg (fun x => x[j]?) D2
        simp only [List.getElem?_drop, List.getElem?_map, List.getElem?_eq_getElem hj, Option.map_some] at e
        rw [← Array.getElem?_toList]
        exact e⟩, by rw [G2]; simp; omega, by omega, fun h => by cases h⟩
      have HL2 : Hid (65 - k' = (hexC n).length) := Lib.hid (by rw [G2]; simp; omega)
      have B2 := Lib.hid b2
      obtain ⟨m, hm⟩ : ∃ m, m = 65 - k' := ⟨_, rfl⟩
      rw [← hm] at SL HL2
      have hk65 : (k' : Int) < 65 := by omega
      have hm2 : 65 - k' = m := hm.symm
      have HO2 := Lib.hid (HO.out.below b2)
      have sl := slice65 w.heap.size k' m (by omega) (by omega)
      generalize (hexd q).toNat = hx at *
      clear hr hB hd hG hq r2 D2 G2 HIX hm
      go_wp2_with (first
        | (at_builtin; refine wpList_appR rfl (.tmp 95) (.tmp 97) rfl base _ l rfl HO2.out (some ⟨w.heap.size, k', none⟩) m m rfl (hexC n) HL2.out SL.out.bys (fun h => by cases h) HLEN2.out (by have := B2.out.size; omega) ?_)
        | fail)
      intro v' w3 o3 g3
      have HF : Hid (OwnR w3 base v' (l ++ hexC n) ∧ w.grownBy w3 (Value.slice A ln c).ownBlock) := Lib.hid ⟨o3, grown_trans (grown_of_below B2.out _) g3 (fun k hk => .inl hk)⟩
      clear o3 g3 SL HO2 B2 b2
      go_wp2_with fail
      go_returns
      exact ⟨v', rfl, HF.out⟩
    · have h16' : (16 : Int) ≤ (q : Int) := by omega
      have an := and_15 q (by omega)
      obtain ⟨d, hdd⟩ : ∃ d, d = q % 16 := ⟨_, rfl⟩
      have hd16 : d < 16 := by omega
      rw [← hdd] at an
      have ix := HIX.out d hd16
      obtain ⟨q2, hq2⟩ : ∃ q2, q2 = q / 16 := ⟨_, rfl⟩
      have sh : (q : Int) / 16 = (q2 : Int) := by omega
      have r2 := row_set (w := wr) (g := w.heap.size) (i := k') (.int .u8 (hexd d).toNat) hr
      have b2 : Below w.heap.size w (wr.setCell ⟨w.heap.size, k', none⟩ (.int .u8 (hexd d).toNat)) := Below.setCell hB (Nat.le_refl _) _
      have G2 : Hid (hexC n = hexC q2 ++ (hexd d :: t)) := Lib.hid (by rw [hG.out, hexC_snoc q h16, ← hdd, ← hq2]; simp)
      have D2 : Hid ((cs.setIfInBounds k' (.int .u8 (hexd d).toNat)).toList.drop k' = (hexd d :: t).map byteV) := Lib.hid (by
        rw [Array.toList_setIfInBounds, drop_set_self _ _ _ (by simp; omega), hd.out]
        rfl)
      have R2 := Lib.hid r2
      have ht4 : t.length ≤ 4 := by
        refine Nat.le_of_not_lt (fun h => ?_)
        rw [show 6 - t.length = 1 by omega, Nat.pow_one] at hq
        exact h16 hq
      have hq3 : q2 < 16 ^ (6 - (t.length + 1)) := by
        rw [hq2, Nat.div_lt_iff_lt_mul (by omega), ← Nat.pow_succ]
        rw [show (6 - (t.length + 1)).succ = 6 - t.length by omega]
        exact hq
      have HSZ : Hid ((cs.setIfInBounds k' (.int .u8 (hexd d).toNat)).size = 65) := Lib.hid (by simp [hcs])
      generalize (hexd d).toNat = hx at *
      clear hr hB hd hG hq hdd hq2 r2
      go_wp2_with fail
      go_roundw
      case rel => exact ⟨q2, k', hexd d :: t, _, rfl, rfl, by simp; omega, by simp; omega, by simpa using hq3, G2, R2.out, HSZ.out, D2, b2⟩
      case measure => simp [intOf]
end Go.Proofs.YtgkfolgebkjjmaaGreatDoor
namespace Go.Proofs.YtgkfolgebkjjmaaGreatDoor
open Go.RowKit
set_option linter.unusedVariables false
set_option maxRecDepth 100000

/-- What an append of the digits leaves. -/
def AppX (w : World) (base : Nat) (l : Bs) (e : Ending) (w' : World) : Prop := ∃ v', e = .returned v' ∧ OwnR w' base v' l ∧ Below base w w' ∧ KeepsOthers w w'
theorem OwnR.grown_below {w w' : World} {base : Nat} {v : Value} {l : Bs} (ho : OwnR w base v l) (hg : w.grownBy w' v.ownBlock) (hb : base ≤ w.heap.size) : Below base w w' := ⟨hg.os, hg.tape, hg.output, hg.size, fun k hk => hg.block k (by omega) (fun e => by have := (World.ownsRow.lt ho k e.symm).1; omega)⟩
theorem OwnR.others {w w' : World} {base : Nat} {v : Value} {l : Bs} (ho : OwnR w base v l) (hg : w.grownBy w' v.ownBlock) : KeepsOthers w w' := KeepsOthers.of_grownBy hg (fun j o hj hw => by
  rcases ho.2 with ⟨h1, h2⟩ | ⟨g, cap, cur, h1, hb, hh, -⟩
  · rw [h1] at hj; cases hj
  · rw [h1] at hj
    simp only [Value.ownBlock] at hj
    injection hj with hj
    subst hj
    rw [hh] at hw
    injection hw with hw
    subst hw
    rfl)
theorem Sl.under {w w' : World} {base c : Nat} {A : Option Addr} {l : Bs} (h : Sl w A c l) (hA : l ≠ [] → ∀ p, A = some p → p.block < base) (k : Below base w w') : Sl w' A c l := ⟨fun hl => by
  obtain ⟨g, off, hp, hc⟩ := h.bys hl
  refine ⟨g, off, hp, fun j hj => ?_⟩
  have := hA (fun e => by rw [e] at hl; simp at hl) _ hp
  exact (World.cell?_of_block (k.block g this)).trans (hc j hj), h.le, h.max, h.nil⟩
theorem OwnR.slice {w : World} {base : Nat} {v : Value} {l : Bs} (ho : OwnR w base v l) : ∃ A c, v = .slice A l.length c := by
  rcases ho.2 with ⟨h1, h2⟩ | ⟨g, cap, cur, h1, -⟩
  · exact ⟨none, 0, by rw [h1, h2]⟩
  · exact ⟨_, _, h1⟩
section
variable (v : Value) (l : Bs) (n : Nat) (base : Nat) (w : World) (hn : n < 16 ^ 6) (ho : OwnR w base v l) (hT : TabC w) (hbase : base ≤ w.heap.size) (hlen : l.length + (hexC n).length ≤ 140737488355328)
include hn ho hT hbase hlen
set_option maxHeartbeats 1000000 in
theorem appUint_any : Calls Tryz.prog 45 #[v, .int .u64 n, .int .i64 16] w (AppX w base (l ++ hexC n)) := by
  have E := Lib.hid (fmt_any v l n base w hn ho hT hbase hlen)
  have HD : Hid (∀ v' w', OwnR w' base v' (l ++ hexC n) ∧ Below base w w' ∧ KeepsOthers w w' → AppX w base (l ++ hexC n) (.returned v') w') := Lib.hid (fun v' w' h => ⟨v', rfl, h⟩)
  have HOO := Lib.hid ho
  have HBA := Lib.hid hbase
  obtain ⟨A, c, rfl⟩ := ho.slice
  generalize AppX w base (l ++ hexC n) = Q at *
  obtain ⟨ln, hln⟩ : ∃ ln, ln = l.length := ⟨_, rfl⟩
  rw [← hln] at HOO E ⊢
  clear ho hT hlen hn hbase hln
  go_enter Tryz.func45, Tryz.ntmps45
  go_wp2_with fail
  refine E.out.mono ?_
  rintro e w1 ⟨v', rfl, o1, g1⟩
  have HF := Lib.hid (HD.out v' w1 ⟨o1, HOO.out.grown_below g1 HBA.out, HOO.out.others g1⟩)
  obtain ⟨A1, c1, hv1⟩ := o1.slice
  obtain ⟨n1, hn1⟩ : ∃ n1, n1 = (l ++ hexC n).length := ⟨_, rfl⟩
  rw [← hn1] at hv1
  subst hv1
  clear o1 g1 E HD hn1
  go_wp2_with fail
  exact HF.out
set_option maxHeartbeats 1000000 in
theorem appInt0_any : Calls Tryz.prog 37 #[v, .int .i64 n, .int .i64 16] w (AppX w base (l ++ hexC n)) := by
  have E := Lib.hid (appUint_any v l n base w hn ho hT hbase hlen)
  have wr : IntKind.u64.wrap (n : Int) = (n : Int) := wraps_u64 _ (by omega) (by omega)
  have h0 : ¬ (n : Int) < 0 := by omega
  have HD : Hid (∀ e w', AppX w base (l ++ hexC n) e w' → ∃ v', e = .returned v' ∧ (∃ A n c, v' = .slice A n c) ∧ AppX w base (l ++ hexC n) (.returned v') w') := Lib.hid (fun e w' h => by
    obtain ⟨v', rfl, h1, h2⟩ := h
    obtain ⟨A, c, h3⟩ := h1.slice
    exact ⟨v', rfl, ⟨A, _, c, h3⟩, v', rfl, h1, h2⟩)
  obtain ⟨A, c, rfl⟩ := ho.slice
  generalize AppX w base (l ++ hexC n) = Q at *
  generalize l.length = ln at *
  clear ho hT hlen hn hbase
  go_enter Tryz.func37, Tryz.ntmps37
  go_wp2_with fail
  refine E.out.mono ?_
  intro e w1 h
  obtain ⟨v', rfl, ⟨A1, n1, c1, rfl⟩, h1⟩ := HD.out e w1 h
  have HF := Lib.hid h1
  clear h h1 E HD
  go_wp2_with fail
  exact HF.out
set_option maxHeartbeats 1000000 in
theorem appInt_any : Calls Tryz.prog 32 #[v, .int .i64 n, .int .i64 16] w (AppX w base (l ++ hexC n)) := by
  have E := Lib.hid (appInt0_any v l n base w hn ho hT hbase hlen)
  have HD : Hid (∀ e w', AppX w base (l ++ hexC n) e w' → ∃ v', e = .returned v' ∧ (∃ A n c, v' = .slice A n c) ∧ AppX w base (l ++ hexC n) (.returned v') w') := Lib.hid (fun e w' h => by
    obtain ⟨v', rfl, h1, h2⟩ := h
    obtain ⟨A, c, h3⟩ := h1.slice
    exact ⟨v', rfl, ⟨A, _, c, h3⟩, v', rfl, h1, h2⟩)
  obtain ⟨A, c, rfl⟩ := ho.slice
  generalize AppX w base (l ++ hexC n) = Q at *
  generalize l.length = ln at *
  clear ho hT hlen hn hbase
  go_enter Tryz.func32, Tryz.ntmps32
  go_wp2_with fail
  refine E.out.mono ?_
  intro e w1 h
  obtain ⟨v', rfl, ⟨A1, n1, c1, rfl⟩, h1⟩ := HD.out e w1 h
  have HF := Lib.hid h1
  clear h h1 E HD
  go_wp2_with fail
  exact HF.out
end
set_option maxHeartbeats 1000000 in
theorem appChunk_any (v : Value) (l d : Bs) (A : Option Addr) (c : Nat) (base : Nat) (w : World) (hn : d.length < 16 ^ 6) (ho : OwnR w base v l) (hT : TabC w) (hd : Sl w A c d) (hA : d ≠ [] → ∀ p, A = some p → p.block < base) (hbase : base ≤ w.heap.size) (hlen : l.length + (chunkC d).length ≤ 140737488355328) :
    Calls Tryz.prog 27 #[v, .slice A d.length c] w (AppX w base (l ++ chunkC d)) := by
  have hcl : (chunkC d).length = (hexC d.length).length + 2 + d.length + 2 := by simp [chunkC]; omega
  have E := Lib.hid (appInt_any v l d.length base w hn ho hT hbase (by omega))
  have HO := Lib.hid ho
  have HD := Lib.hid hd
  have HA := Lib.hid hA
  obtain ⟨n, hnn⟩ : ∃ n, n = d.length := ⟨_, rfl⟩
  rw [← hnn] at E ⊢
  have HN := Lib.hid hnn
  obtain ⟨y1, hy1⟩ : ∃ y, y = l ++ hexC n := ⟨_, rfl⟩
  obtain ⟨y2, hy2⟩ : ∃ y, y = y1 ++ ([13, 10] : Bs) := ⟨_, rfl⟩
  obtain ⟨y3, hy3⟩ : ∃ y, y = y2 ++ d := ⟨_, rfl⟩
  have e4 : Hid (l ++ chunkC d = y3 ++ ([13, 10] : Bs)) := Lib.hid (by rw [hy3, hy2, hy1, hnn]; simp [chunkC])
  have l1 : y1.length = l.length + (hexC n).length := by rw [hy1]; simp
  have l2 : y2.length = y1.length + 2 := by rw [hy2]; simp
  have l3 : y3.length = y2.length + n := by rw [hy3, hnn]; simp
  rw [← hnn] at hcl
  have HX1 : Hid (y1.length + ([13, 10] : Bs).length ≤ 140737488355328) := Lib.hid (by simp; omega)
  have HX2 : Hid (y2.length + d.length ≤ 140737488355328) := Lib.hid (by rw [← hnn]; omega)
  have HX3 : Hid (y3.length + ([13, 10] : Bs).length ≤ 140737488355328) := Lib.hid (by simp; omega)
  have HQ : Hid (∀ v' w', OwnR w' base v' (y3 ++ ([13, 10] : Bs)) → Below base w w' ∧ KeepsOthers w w' → AppX w base (l ++ chunkC d) (.returned v') w') := Lib.hid (fun v' w' h1 h2 => ⟨v', rfl, by rw [e4.out]; exact h1, h2⟩)
  have H1 : Hid (∀ e w', AppX w base (l ++ hexC n) e w' → ∃ A1 n1 c1, e = .returned (.slice A1 n1 c1) ∧ OwnR w' base (.slice A1 n1 c1) y1 ∧ Below base w w' ∧ KeepsOthers w w') := Lib.hid (fun e w' h => by
    obtain ⟨v', rfl, h1, h2⟩ := h
    obtain ⟨A1, c1, rfl⟩ := h1.slice
    exact ⟨A1, _, c1, rfl, by rw [hy1]; exact h1, h2⟩)
  have HY2 := Lib.hid hy2
  have HY3 := Lib.hid hy3
  obtain ⟨A0, c0, rfl⟩ := ho.slice
  generalize AppX w base (l ++ hexC n) = Q1 at *
  generalize AppX w base (l ++ chunkC d) = Q at *
  generalize l.length = ln at *
  clear hcl hnn hy1 hy2 hy3 l1 l2 l3 hn ho hT hd hA hlen
  go_enter Tryz.func27, Tryz.ntmps27
  go_wp2_with fail
  refine E.out.mono ?_
  intro e w1 h
  obtain ⟨A1, n1, c1, rfl, o1, b1, k1⟩ := H1.out e w1 h
  have hs1 : base ≤ w1.heap.size := Nat.le_trans hbase b1.size
  have O1 := Lib.hid o1
  have B1 := Lib.hid b1
  have K1 := Lib.hid k1
  clear h o1 b1 k1 E H1
  go_wp2_with (first
    | (at_builtin; refine wpList_appS rfl (.tmp 9) (.const (.string ⟨#[13, 10]⟩)) rfl base _ y1 rfl O1.out [13, 10] _ rfl rfl HX1.out hs1 ?_)
    | fail)
  intro v2 w2 o2 g2
  rw [← HY2.out] at o2
  have b2 : Below base w w2 := Below.trans B1.out (O1.out.grown_below g2 hs1)
  have hs2 : base ≤ w2.heap.size := Nat.le_trans hbase b2.size
  obtain ⟨A2, c2, rfl⟩ := o2.slice
  have O2 := Lib.hid o2
  have B2 := Lib.hid b2
  have K2 := Lib.hid (K1.out.trans (O1.out.others g2))
  have D2 := Lib.hid (HD.out.under HA.out b2)
  obtain ⟨n2, hn2⟩ : ∃ n2, n2 = y2.length := ⟨_, rfl⟩
  rw [← hn2] at O2 ⊢
  clear o2 g2 b2 O1 B1 hn2
  go_wp2_with (first
    | (at_builtin; refine wpList_appR rfl (.tmp 11) (.tmp 12) rfl base _ y2 rfl O2.out A n c rfl d HN.out D2.out.bys D2.out.nil HX2.out hs2 ?_)
    | fail)
  intro v3 w3 o3 g3
  rw [← HY3.out] at o3
  have b3 : Below base w w3 := Below.trans B2.out (O2.out.grown_below g3 hs2)
  have hs3 : base ≤ w3.heap.size := Nat.le_trans hbase b3.size
  obtain ⟨A3, c3, rfl⟩ := o3.slice
  have O3 := Lib.hid o3
  have B3 := Lib.hid b3
  have K3 := Lib.hid (K2.out.trans (O2.out.others g3))
  obtain ⟨n3, hn3⟩ : ∃ n3, n3 = y3.length := ⟨_, rfl⟩
  rw [← hn3] at O3 ⊢
  clear o3 g3 b3 O2 B2 D2 hn3
  go_wp2_with (first
    | (at_builtin; refine wpList_appS rfl (.tmp 14) (.const (.string ⟨#[13, 10]⟩)) rfl base _ y3 rfl O3.out [13, 10] _ rfl rfl HX3.out hs3 ?_)
    | fail)
  intro v4 w4 o4 g4
  have HF := Lib.hid (HQ.out v4 w4 o4 ⟨Below.trans B3.out (O3.out.grown_below g4 hs3), K3.out.trans (O3.out.others g4)⟩)
  obtain ⟨A4, c4, hv4⟩ := o4.slice
  obtain ⟨n4, hn4⟩ : ∃ n4, n4 = (y3 ++ ([13, 10] : Bs)).length := ⟨_, rfl⟩
  rw [← hn4] at hv4
  subst hv4
  clear o4 g4 O3 B3 hn4
  go_wp2_with fail
  exact HF.out
end Go.Proofs.YtgkfolgebkjjmaaGreatDoor
namespace Go.Proofs.YtgkfolgebkjjmaaGreatDoor
open Go.RowKit
set_option linter.unusedVariables false
set_option maxRecDepth 100000
attribute [local go_sem] Oper.semAt_some

set_option maxHeartbeats 1000000 in
theorem chunkFn_any (A : Option Addr) (n c sz : Nat) (hs : 0 < sz) (w : World) : Calls Tryz.prog 26 #[.slice A n c, .int .i64 sz] w fun e w' => e = .returned (.func (.func 31) #[] #[.pointer (some ⟨w.heap.size, 0, none⟩), .pointer (some ⟨w.heap.size + 1, 0, none⟩)]) ∧ w' = (w.alloc (.cells #[.slice A n c] 22)).alloc (.cells #[.int .i64 sz] 3) := by
  have h1 : ¬ (sz : Int) < 1 := by omega
  have c1 := cell_of_row _ (w.heap.size + 1) 0 _ _ _ (row_new (w := w.alloc (.cells #[.slice A n c] 22)) (k := w.heap.size + 1) (.cells #[.int .i64 sz] 3) (by simp))
  go_enter Tryz.func26, Tryz.ntmps26
  go_wp2_with fail
  go_ret
  exact ⟨rfl, rfl⟩
end Go.Proofs.YtgkfolgebkjjmaaGreatDoor
namespace Go.Proofs.YtgkfolgebkjjmaaGreatDoor
open Go.RowKit
set_option linter.unusedVariables false
set_option maxRecDepth 100000
attribute [local go_sem] Oper.semAt_some

/-- A part of bytes that lay there ahead. -/
abbrev Part (w : World) (sz : Nat) := { x : Option Addr × Nat × Bs // Sl w x.1 x.2.1 x.2.2 ∧ x.2.2.length ≤ sz ∧ (x.2.2 ≠ [] → ∀ p, x.1 = some p → p.block < w.heap.size) }
def encPart {w : World} {sz : Nat} (x : Part w sz) : Array Value := #[.slice x.1.1 x.1.2.2.length x.1.2.1]
def catP {w : World} {sz : Nat} (xs : List (Part w sz)) : Bs := (xs.map (fun x => chunkC x.1.2.2)).flatten
theorem catP_snoc {w : World} {sz : Nat} (xs : List (Part w sz)) (x : Part w sz) : catP (xs ++ [x]) = catP xs ++ chunkC x.1.2.2 := by simp [catP]
/-- What a round keeps: whatever lay below B, but one block. -/
def KpB (bb B : Nat) : World → World → Prop := fun W W' => ∀ k, k < B → k ≠ bb → W'.heap[k]? = W.heap[k]?
theorem KpB.t {bb B : Nat} {X Y Z : World} (h : KpB bb B X Y) (k : KpB bb B Y Z) : KpB bb B X Z := fun i hi hn => (k i hi hn).trans (h i hi hn)

theorem slice3 (A : Option Addr) (n c i q : Nat) (h : i + q ≤ n) (hc : n ≤ c) (hq : 0 < q) (W : World) : (Instr.slice 22 (.slice A n c) (some (.int .i64 i)) (some (.int .i64 ((i + q : Nat) : Int))) (some (.int .i64 ((i + q : Nat) : Int)))).run Tryz.prog W = .ok (.slice (A.map (·.add i)) q q) W := by
  rw [run_slice_lhm W 22 A n c (by rw [elem_bytes]; exact Tryz.underlying22) _ _ _ _ _ _ (by omega) (by omega) (by omega) (by omega), elem_bytes, size_u8]
  simp only [Result.andThen_ok, sliced, Int.toNat_natCast]
  rw [if_neg (by omega), show i + q - i = q by omega, Nat.mul_one]
set_option maxHeartbeats 4000000 in
theorem chunk_stops (w : World) (A : Option Addr) (b : Bs) (c sz : Nat) (hb : Sl w A c b) (hs : 0 < sz) (hs6 : sz < 16 ^ 6) (hA : b ≠ [] → ∀ p, A = some p → p.block < w.heap.size) (hbl : b.length ≤ 1099511627776) (bb B b1 b2 : Nat) (h1 : b1 ≠ bb ∧ b1 < B) (h2 : b2 ≠ bb ∧ b2 < B) (W0 : World)
    (c1 : W0.cell? ⟨b1, 0, none⟩ = some (.slice A b.length c)) (c2 : W0.cell? ⟨b2, 0, none⟩ = some (.int .i64 sz)) (hBW : B ≤ W0.heap.size) :
    SeqStopsK Fence.wide 2 Tryz.prog 31 #[.pointer (some ⟨b1, 0, none⟩), .pointer (some ⟨b2, 0, none⟩)] (encPart (w := w) (sz := sz)) (KpB bb B) (fun xs => catP xs ++ endC = encC sz b.length b) (fun _ => True) (b.length / sz + 1) W0 := by
  intro l J Jx W hW hJ hJx hY h0
  have d1 : W.cell? ⟨b1, 0, none⟩ = some (.slice A b.length c) := (World.cell?_of_block (hW.block b1 (by omega))).trans c1
  have d2 : W.cell? ⟨b2, 0, none⟩ = some (.int .i64 sz) := (World.cell?_of_block (hW.block b2 (by omega))).trans c2
  obtain ⟨n, hn⟩ : ∃ n, n = b.length := ⟨_, rfl⟩
  have HN := Lib.hid hn
  have HB := Lib.hid hb
  have HAA := Lib.hid hA
  have HY := Lib.hid hY
  have HJ0 := Lib.hid h0
  rw [← hn] at d1 hbl
  have HJ : Hid (∀ pre wr w1, J pre wr → Below wr.heap.size wr w1 → J pre w1) := Lib.hid (fun pre wr w1 h k => hJ pre wr w1 none h (grown_of_below k none) (fun r e => by cases e))
  have hcz : n ≤ c := by rw [hn]; exact hb.le
  clear c1 c2 hW hJ hJx hn hb hA hY h0 hBW
  refine callsIn_of_wp Tryz.func31 rfl trivial ?_
  simp only [Tryz.ntmps31, List.size_toArray, List.length_cons, List.length_nil, Nat.reduceAdd, Nat.reduceSub, Array.replicate_succ, Array.replicate_zero, List.push_toArray, List.append_toArray, List.nil_append, List.cons_append]
  gi_wp2
  gi_loopw [4] (fun iv wr => ∃ (i : Nat) (pre : List (Part w sz)) (f : Nat), iv = .int .i64 i ∧ Hid (i = pre.length * sz) ∧ J pre wr ∧ wr.cell? ⟨b1, 0, none⟩ = some (.slice A n c) ∧ wr.cell? ⟨b2, 0, none⟩ = some (.int .i64 sz) ∧ Hid (encC sz n b = catP pre ++ encC sz f (b.drop i)) ∧ n ≤ i + f ∧ i < n + sz) (fun iv _ => n - (intOf iv).toNat)
  case atStart => exact ⟨0, [], n, rfl, Lib.hid (by simp), HJ0.out, d1, d2, Lib.hid (by simp [catP]), by omega, by omega⟩
  case round =>
    clear d1 d2
    obtain ⟨i, pre, f, rfl, hi, hJp, d1, d2, hG, hf, hin⟩ := hrel
    have HJp := Lib.hid hJp
    clear hJp
    by_cases hlt : i < n
    · have hlt' : (i : Int) < (n : Int) := by omega
      obtain ⟨m, hm⟩ : ∃ m, m = n - i := ⟨_, rfl⟩
      obtain ⟨q, hq⟩ : ∃ q, q = min sz m := ⟨_, rfl⟩
      have hmin : min (sz : Int) (m : Int) = (q : Int) := by omega
      obtain ⟨A2, lo, -, -⟩ := HB.out.rest i i (by rw [← HN.out]; omega) rfl
      rw [List.length_drop, ← HN.out, ← hm] at lo
      have s3 := slice3 A n c i q (by omega) hcz (by omega)
      have wr1 : IntKind.i64.wrap ((i : Int) + (q : Int)) = ((i + q : Nat) : Int) := by rw [IntWalk.i64_in _ (by omega)]; omega
      have wr2 : IntKind.i64.wrap ((i : Int) + (sz : Int)) = ((i + sz : Nat) : Int) := by rw [IntWalk.i64_in _ (by omega)]; omega
      have hi0 : (i : Int) ≤ (n : Int) := by omega
      obtain ⟨d, hd⟩ : ∃ d, d = (b.drop i).take sz := ⟨_, rfl⟩
      have ld : d.length = q := by rw [hd, List.length_take, List.length_drop, ← HN.out, hq, hm]
      have bne : b ≠ [] := fun e => by have := HN.out; rw [e] at this; simp at this; omega
      have dne : b.drop i ≠ [] := fun e => by have := congrArg List.length e; rw [List.length_drop, ← HN.out] at this; simp at this; omega
      have sx : Sl w (A.map (·.add i)) q d := by
        refine ⟨?_, by omega, by omega, fun h => ?_⟩
        · have := (HB.out.bys.cut (k := i) HB.out.le).pre sz
          rw [if_neg (by omega), ← hd] at this
          exact this
        · cases A with
          | none => have := HB.out.nil rfl; omega
          | some a => cases h
      have px : ∀ p, A.map (·.add i) = some p → p.block < w.heap.size := fun p hp => by
        cases A with
        | none => cases hp
        | some a =>
          injection hp with hp
          rw [← hp]
          have := HAA.out bne a rfl
          have e : (a.add i).block = a.block := by unfold Addr.add; split <;> rfl
          rw [e]; exact this
      obtain ⟨f', rfl⟩ : ∃ f', f = f' + 1 := ⟨f - 1, by omega⟩
      have hx0 : Sl w (A.map (·.add i), q, d).1 (A.map (·.add i), q, d).2.1 (A.map (·.add i), q, d).2.2 ∧ (A.map (·.add i), q, d).2.2.length ≤ sz ∧ ((A.map (·.add i), q, d).2.2 ≠ [] → ∀ p, (A.map (·.add i), q, d).1 = some p → p.block < w.heap.size) := ⟨sx, by show d.length ≤ sz; omega, fun _ => px⟩
      obtain ⟨x, hx⟩ : ∃ x : Part w sz, x.1 = (A.map (·.add i), q, d) := ⟨⟨_, hx0⟩, rfl⟩
      have ex : encPart x = #[.slice (A.map (·.add i)) q q] := by simp only [encPart, hx, ld]
      have G2 : Hid (encC sz n b = catP (pre ++ [x]) ++ encC sz f' (b.drop (i + sz))) := Lib.hid (by
        rw [hG.out, enc_step dne, catP_snoc, hx, List.append_assoc, ← hd, List.drop_drop])
      have hN : pre.length < b.length / sz + 1 := by
        rw [← HN.out]
        have h1 : pre.length * sz ≤ n := by rw [← hi.out]; omega
        have := (Nat.le_div_iff_mul_le hs).2 h1
        omega
      have I2 : Hid (i + sz = (pre ++ [x]).length * sz) := Lib.hid (by rw [hi.out, List.length_append, Nat.add_mul]; simp)
      have YY := Lib.hid (fun W1 (h : J pre W1) => HY.out pre x W1 h hN)
      rw [ex] at YY
      have hcx : ∀ nq, (wr.drewN nq).cell? ⟨b1, 0, none⟩ = some (.slice A n c) := fun nq => d1
      have hcy : ∀ nq, (wr.drewN nq).cell? ⟨b2, 0, none⟩ = some (.int .i64 sz) := fun nq => d2
      have hmm : ((n : Int) - (i : Int)) = (m : Int) := by omega
      clear hm hq hd ld bne dne sx px hx ex hG hN hi
      gi_wp2
      gi_quiet (fail)
      obtain ⟨fn, tmps, assign, body, hy, hR⟩ := YY.out (wr.drewN nq) (HJ.out pre wr _ HJp.out (below_drewN (Below.refl _ _) nq))
      have e1 := hcx nq
      have e2 := hcy nq
      clear hcx hcy YY
      gi_wp2
      refine hR.mono ?_
      rintro e W3 (⟨rfl, hJ3, hk3⟩ | ⟨rfl, hJx3⟩)
      · have d1' : W3.cell? ⟨b1, 0, none⟩ = some (.slice A n c) := (World.cell?_of_block (hk3 b1 h1.2 h1.1)).trans e1
        have d2' : W3.cell? ⟨b2, 0, none⟩ = some (.int .i64 sz) := (World.cell?_of_block (hk3 b2 h2.2 h2.1)).trans e2
        have J3 := Lib.hid hJ3
        clear hJ3 hk3 e1 e2 hR
        gi_wp2
        go_roundw
        case rel => exact ⟨i + sz, pre ++ [x], f', rfl, I2, J3.out, d1', d2', G2, by omega, by omega⟩
        case measure => simp [intOf]; omega
      · have JX := Lib.hid hJx3
        clear hJx3 hR
        gi_wp2
        refine bodyPost_ret (results_none rfl _ _ _) rfl ?_
        exact ⟨⟨_, rfl⟩, .inr ⟨_, trivial, JX.out⟩⟩
    · have hlt' : ¬ (i : Int) < (n : Int) := by omega
      have FIN : Hid (catP pre ++ endC = encC sz b.length b) := Lib.hid (by
        rw [← HN.out, hG.out, List.drop_eq_nil_of_le (by rw [← HN.out]; omega), enc_nil])
      clear hG hi
      gi_wp2
      go_end0
      exact ⟨⟨_, rfl⟩, .inl ⟨_, FIN.out, HJp.out⟩⟩
end Go.Proofs.YtgkfolgebkjjmaaGreatDoor
namespace Go.Proofs.YtgkfolgebkjjmaaGreatDoor
open Go.RowKit
set_option linter.unusedVariables false
set_option maxRecDepth 100000
attribute [local go_sem] Oper.semAt_some

theorem chunkC_le {d : Bs} (h : d.length < 16 ^ 6) : (chunkC d).length ≤ d.length + 10 := by
  have h2 := (hexC_len 6 d.length (by omega) h).2
  simp [chunkC]
  omega
theorem catP_len {w : World} {sz : Nat} (hs : sz < 16 ^ 6) : ∀ (xs : List (Part w sz)), (catP xs).length ≤ xs.length * (sz + 10)
  | [] => by simp [catP]
  | x :: xs => by
    have h1 := catP_len hs xs
    have h2 := x.2.2.1
    have h3 := chunkC_le (d := x.1.2.2) (by omega)
    have e : catP (x :: xs) = chunkC x.1.2.2 ++ catP xs := by simp [catP]
    rw [e, List.length_append, List.length_cons, Nat.add_mul]
    omega
/-- What holds between two rounds: the bytes so far lie in the variable's box. -/
def EncI0 (w W2 : World) (sz bb base : Nat) (pre : List (Part w sz)) (W : World) : Prop := ∃ v, W.heap[bb]? = some (.cells #[v] 22 (0, 0)) ∧ OwnR W base v (catP pre) ∧ KpB bb base W2 W ∧ Below w.heap.size w W ∧ base ≤ W.heap.size
theorem OwnR.notCells {w w' : World} {base : Nat} {v : Value} {l : Bs} {row : Option Nat} (h : OwnR w base v l) (hg : w.grownBy w' row) (hr : ∀ r, row = some r → ∃ o : Obj, w.heap[r]? = some o ∧ o.isCells = false) : OwnR w' base v l := by
  refine ⟨h.1, ?_⟩
  rcases h.2 with h | ⟨g, cap, cur, hv, hb, hh, r⟩
  · exact .inl h
  · refine .inr ⟨g, cap, cur, hv, hb, (hg.block g (Array.getElem?_eq_some_iff.1 hh).1 (fun e => ?_)).trans hh, r⟩
    obtain ⟨o, ho, hc⟩ := hr g e.symm
    rw [hh] at ho
    injection ho with ho
    subst ho
    cases hc
theorem EncI0.own {w W2 : World} {sz bb base B : Nat} (hbb : bb < B) (hb : base ≤ B) (hw : w.heap.size ≤ base) : OwnFrom B (EncI0 w W2 sz bb base) := fun s W W' row h hg hr => by
  obtain ⟨v, h1, h2, h3, h4, h5⟩ := h
  have hlt := (Array.getElem?_eq_some_iff.1 h1).1
  refine ⟨v, (hg.block bb hlt (fun e => by have := (hr bb e.symm).1; omega)).trans h1, h2.notCells hg (fun r e => (hr r e).2), fun k hk hn => ?_, h4.grown hg h4.size (fun k e => by have := (hr k e).1; omega), Nat.le_trans h5 hg.size⟩
  rw [← h3 k hk hn]
  exact hg.block k (by omega) (fun e => by have := (hr k e.symm).1; omega)

set_option maxHeartbeats 4000000 in
theorem encL_good (A : Option Addr) (b : Bs) (c sz : Nat) (w : World) (hb : Sl w A c b) (hT : TabC w) (hl : b.length ≤ 1099511627776) (hs : 0 < sz) (hs6 : sz < 16 ^ 6) : Calls Tryz.prog 19 #[.slice A b.length c, .int .i64 sz] w fun e w' => ∃ v, e = .returned (.tuple #[v, .int .i64 0]) ∧ OwnB w' w.heap.size v (encK sz b) ∧ Below w.heap.size w w' := by
  obtain ⟨n, hn⟩ : ∃ n, n = b.length := ⟨_, rfl⟩
  rw [← hn]
  have CF := Lib.hid (fun W => chunkFn_any A n c sz hs W)
  have z1 : ¬ (sz : Int) < 1 := by omega
  have z2 : ¬ (16777215 : Int) < (sz : Int) := by omega
  have HN := Lib.hid hn
  have HB := Lib.hid hb
  have HT := Lib.hid hT
  clear hn hb hT
  refine (callsIn_wide (n := 3)).1 ?_
  refine callsIn_of_wp_marks Tryz.func19 rfl trivial ?_ rfl
  simp only [Tryz.ntmps19, List.size_toArray, List.length_cons, List.length_nil, Nat.reduceAdd, Nat.reduceSub, Array.replicate_succ, Array.replicate_zero, List.push_toArray, List.append_toArray, List.nil_append, List.cons_append]
  gi_wp2_with (refine ⟨trivial, ?_⟩; gi_at_call 26; refine (callsIn_wide.2 (CF.out _)).mono ?_; rintro e w' ⟨rfl, rfl⟩)
  obtain ⟨W2, hW2⟩ : ∃ W2, W2 = ((w.alloc (.cells #[.slice none 0 0] 22)).alloc (.cells #[.slice A n c] 22)).alloc (.cells #[.int .i64 sz] 3) := ⟨_, rfl⟩
  rw [← hW2]
  have hsz : W2.heap.size = w.heap.size + 3 := by rw [hW2]; simp
  have b2 : Below w.heap.size w W2 := by rw [hW2]; exact Below.alloc (Below.alloc (Below.alloc (Below.refl _ _) (Nat.le_refl _) _) (by simp) _) (by simp; omega) _
  have rb : W2.heap[w.heap.size]? = some (.cells #[.slice none 0 0] 22 (0, 0)) := by rw [hW2]; exact row_old _ (row_old _ (row_new _ rfl))
  have c1 : W2.cell? ⟨w.heap.size + 1, 0, none⟩ = some (.slice A n c) := (cell_of_row _ _ 0 _ _ _ (show W2.heap[w.heap.size + 1]? = some (.cells #[.slice A n c] 22 (0, 0)) by rw [hW2]; exact row_old _ (row_new _ (by simp)))).trans rfl
  have c2 : W2.cell? ⟨w.heap.size + 1 + 1, 0, none⟩ = some (.int .i64 sz) := (cell_of_row _ _ 0 _ _ _ (show W2.heap[w.heap.size + 1 + 1]? = some (.cells #[.int .i64 sz] 3 (0, 0)) by rw [hW2]; exact row_new _ (by simp))).trans rfl
  have I0 : EncI0 w W2 sz w.heap.size W2.heap.size [] W2 := ⟨_, rb, World.ownsRow_nil _ _ _ _, fun _ _ _ => rfl, b2, Nat.le_refl _⟩
  have hAb : b ≠ [] → ∀ p, A = some p → p.block < w.heap.size := fun hb p hp => HB.out.inside p hp (List.length_pos_iff.2 hb)
  have hT2 : (2 : Nat) < w.heap.size := World.block_lt_of_cell? w _ HT.out
  have ST := chunk_stops w A b c sz HB.out hs hs6 hAb hl w.heap.size W2.heap.size (w.heap.size + 1) (w.heap.size + 1 + 1) ⟨by omega, by omega⟩ ⟨by omega, by omega⟩ W2 (by rw [← HN.out]; exact c1) c2 (Nat.le_refl _)
  have HI0 := Lib.hid I0
  have hmx : ∀ (pre : List (Part w sz)), pre.length ≤ b.length / sz + 1 → (catP pre).length ≤ 12094627905536 + 16777225 := fun pre hp => by
    have h1 := catP_len hs6 pre
    have h2 : pre.length * (sz + 10) ≤ (b.length / sz + 1) * (sz + 10) := Nat.mul_le_mul_right _ hp
    have h3 : (b.length / sz + 1) * (sz + 10) = b.length / sz * sz + b.length / sz * 10 + (sz + 10) := by rw [Nat.add_mul, Nat.mul_add]; omega
    have h4 := Nat.div_mul_le_self b.length sz
    have h5 := Nat.div_le_self b.length sz
    omega
  have HMX := Lib.hid hmx
  clear CF HB hW2 b2 rb c1 c2 I0 hAb hmx
  refine wpIn_rangeFunc_ownF rfl (by omega) (gf := 31) (lb := #[.pointer (some ⟨w.heap.size + 1, 0, none⟩), .pointer (some ⟨w.heap.size + 1 + 1, 0, none⟩)]) rfl trivial (enters_of Tryz.func31 (by kernel_rfl) rfl)
    ST KpB.t (fun W l o o' hl' _ _ _ k hk hn => World.putObj_heap_other (by omega)) (Below.refl _ _) (fun _ => rfl) (EncI0 w W2 sz w.heap.size W2.heap.size) (fun _ _ _ => False) (EncI0.own (by omega) (Nat.le_refl _) (by omega)) (fun _ _ _ _ _ h _ _ => h.elim) HI0.out
    (fun x => { tmps := #[.slice A n c, .int .i64 sz, undef, undef, .slice none 0 0, .int .i64 0, .pointer (some ⟨w.heap.size, 0, none⟩), .slice x.1.1 x.1.2.2.length x.1.2.1, .int .i64 sz, .bool false, .bool false, .int .i64 sz, .bool false, .bool false, .slice A n c, .int .i64 sz, .func (.func 31) #[] #[.pointer (some ⟨w.heap.size + 1, 0, none⟩), .pointer (some ⟨w.heap.size + 1 + 1, 0, none⟩)], .slice x.1.1 x.1.2.2.length x.1.2.1, undef, undef, undef, undef, undef], defers := [] }) ?assign ?body ?done ?stop
  case assign =>
    intro l x W K hK
    unfold encPart
    gi_wp2
    exact hK
  case stop =>
    rintro D c pre W _ _ h _
    exact h.elim
  case body =>
    rintro l pre x W hI hlen
    obtain ⟨v, hr, ho, hk, hB, hbs⟩ := hI
    have hTW : TabC W := HT.out.on hB
    have hxl : x.1.2.2.length < 16 ^ 6 := by have := x.2.2.1; omega
    have hxs : Sl W x.1.1 x.1.2.1 x.1.2.2 := x.2.1.under x.2.2.2 hB
    have hlt2 := HMX.out (pre ++ [x]) (by simp; omega)
    rw [catP_snoc, List.length_append] at hlt2
    have AC := Lib.hid (appChunk_any v (catP pre) x.1.2.2 x.1.1 x.1.2.1 W2.heap.size W hxl ho hTW hxs (fun h p hp => by have := x.2.2.2 h p hp; omega) hbs (by omega))
    have HR := Lib.hid hr
    have HK := Lib.hid hk
    have HBW := Lib.hid hB
    have HE : Hid (catP (pre ++ [x]) = catP pre ++ chunkC x.1.2.2) := Lib.hid (catP_snoc _ _)
    have cb : W.cell? ⟨w.heap.size, 0, none⟩ = some v := (cell_of_row _ _ 0 _ _ _ hr).trans rfl
    obtain ⟨Av, cv, rfl⟩ := ho.slice
    generalize (catP pre).length = nv at *
    clear hr ho hk hB hTW hxs hlt2 HI0 HMX hxl
    have hbb : w.heap.size < W2.heap.size := by omega
    have FIN : Hid (∀ v3 w3, OwnR w3 W2.heap.size v3 (catP pre ++ chunkC x.1.2.2) → Below W2.heap.size W w3 → KeepsOthers W w3 → w3.cell? ⟨w.heap.size, 0, none⟩ = some (.slice Av nv cv) ∧ w3.frozen? ⟨w.heap.size, 0, none⟩ = false ∧ (KeepsOthers W (w3.setCell ⟨w.heap.size, 0, none⟩ v3) ∧ KpB w.heap.size W2.heap.size W (w3.setCell ⟨w.heap.size, 0, none⟩ v3) ∧ EncI0 w W2 sz w.heap.size W2.heap.size (pre ++ [x]) (w3.setCell ⟨w.heap.size, 0, none⟩ v3))) := Lib.hid (fun v3 w3 o3 b3 k3 => by
      have r3 := (b3.block w.heap.size hbb).trans HR.out
      have gs : w3.grownBy (w3.setCell ⟨w.heap.size, 0, none⟩ v3) (some w.heap.size) := by
        have := grownBy_setCells w.heap.size [v3] 0 w3
        simpa [World.setCells] using this
      have kb : KpB w.heap.size W2.heap.size W (w3.setCell ⟨w.heap.size, 0, none⟩ v3) := fun k hk hn => (gs.block k (by have := b3.size; omega) (fun e => by injection e with e; exact hn e)).trans (b3.block k hk)
      refine ⟨(cell_of_row _ _ 0 _ _ _ r3).trans rfl, frozen_of_row _ _ 0 _ _ r3, k3.trans (KeepsOthers.of_grownBy gs (fun j o hj hw => by injection hj with hj; subst hj; rw [r3] at hw; injection hw with hw; subst hw; rfl)), kb, v3, row_set (i := 0) v3 r3, ?_, fun k hk hn => (kb k hk hn).trans (HK.out k hk hn), ?_, ?_⟩
      · rw [HE.out]
        exact o3.kept gs (by cases hv : v3.ownBlock with | none => exact .inl rfl | some k => exact .inr (fun e => by injection e with e; have := (World.ownsRow.lt o3 k hv).1; omega))
      · exact (Below.trans HBW.out (b3.mono (by omega))).grown gs (by have := HBW.out.size; have := b3.size; omega) (fun k e => by injection e with e; omega)
      · have := b3.size; have := gs.size; omega)
    gi_wp2_with (refine ⟨trivial, ?_⟩; gi_at_call 27; refine (CallsIn.inRound l (callsIn_wide.2 AC.out)).mono ?_; rintro e w3 ⟨v3, rfl, o3, b3, k3⟩; obtain ⟨c3, f3, hfin⟩ := FIN.out v3 w3 o3 b3 k3; have HF3 := Lib.hid hfin; obtain ⟨A3, cc3, hv3⟩ := o3.slice; obtain ⟨n3, hn3⟩ : ∃ n3, n3 = (catP pre ++ chunkC x.1.2.2).length := ⟨_, rfl⟩; rw [← hn3] at hv3; subst hv3; clear hn3 o3 b3 k3 hfin FIN AC)
    exact HF3.out
  case done =>
    rintro D xs W hD hS hI hK
    obtain ⟨v, hr, ho, hk, hB, hbs⟩ := hI
    have hTW : TabC W := HT.out.on hB
    have hlen : (catP xs).length ≤ 6597069766661 := by
      have h1 := congrArg List.length hS
      rw [List.length_append] at h1
      have h2 := encC_len b.length sz b hs hs6
      omega
    have e5 : (chunkC []).length = 5 := by rw [chunkC]; simp [hexC]
    have AC : Hid (Calls Tryz.prog 27 #[v, .slice none 0 0] W (AppX W W2.heap.size (catP xs ++ chunkC []))) := Lib.hid (appChunk_any v (catP xs) [] none 0 W2.heap.size W (by simp) ho hTW (Sl.none W) (fun h => absurd rfl h) hbs (by omega))
    have cb : W.cell? ⟨w.heap.size, 0, none⟩ = some v := (cell_of_row _ _ 0 _ _ _ hr).trans rfl
    have hend : catP xs ++ chunkC [] = encK sz b := by rw [← show endC = chunkC [] by simp [endC, chunkC, hexC, hexd]]; exact hS
    have FIN : Hid (∀ v3 w3, OwnR w3 W2.heap.size v3 (catP xs ++ chunkC []) → Below W2.heap.size W w3 → KeepsOthers W w3 → w3.heap[D]? = some (.deferred (some [])) ∧ (OwnB (w3.putObj D (.deferred none)) w.heap.size v3 (encK sz b) ∧ Below w.heap.size w (w3.putObj D (.deferred none)))) := Lib.hid (fun v3 w3 o3 b3 k3 => by
      have hd3 := k3.same D _ hK rfl
      have hg := grownBy_putObj' w3 D (.deferred none)
      refine ⟨hd3, ?_, (Below.trans hB (b3.mono (by omega))).grown hg (by have := hB.size; have := b3.size; omega) (fun k e => by injection e with e; omega)⟩
      rw [← hend]
      exact ((o3.notCells hg (fun r e => by injection e with e; subst e; exact ⟨_, hd3, rfl⟩)).ownB).mono (by omega))
    obtain ⟨Av, cv, rfl⟩ := ho.slice
    generalize (catP xs).length = nv at *
    clear hr ho hk hB hTW HI0 HMX hend hS hK
    gi_wp2_with (refine ⟨trivial, ?_⟩; gi_at_call 27; refine (callsIn_wide.2 AC.out).mono ?_; rintro e w3 ⟨v3, rfl, o3, b3, k3⟩; obtain ⟨hd3, hfin⟩ := FIN.out v3 w3 o3 b3 k3; have HF3 := Lib.hid hfin; have HD3 := Lib.hid hd3; obtain ⟨A3, cc3, hv3⟩ := o3.slice; obtain ⟨n3, hn3⟩ : ∃ n3, n3 = (catP xs ++ chunkC []).length := ⟨_, rfl⟩; rw [← hn3] at hv3; subst hv3; clear hn3 o3 b3 k3 hfin FIN AC hd3)
    refine ⟨by simp, .inl ⟨_, _, rfl, run_takeDeferred HD3.out, ?_⟩⟩
    refine ⟨_, results_tmp2 rfl _ _ _, _, rfl, HF3.out⟩
set_option maxHeartbeats 1000000 in
theorem encL_any (A : Option Addr) (b : Bs) (c : Nat) (size : Int) (w : World) (hb : Sl w A c b) (hT : TabC w) (hl : b.length ≤ 1099511627776) : Calls Tryz.prog 19 #[.slice A b.length c, .int .i64 size] w (EncK w b size) := by
  by_cases hs : size < 1 ∨ 16777215 < size
  · have HF : Hid (EncK w b size (.returned (.tuple #[.slice none 0 0, .int .i64 1])) w) := Lib.hid ⟨Below.refl _ _, .inl ⟨hs, rfl⟩⟩
    generalize EncK w b size = Q at *
    generalize b.length = n at *
    clear hb hT hl
    by_cases h1 : size < 1
    · clear hs
      go_enter Tryz.func19, Tryz.ntmps19
      go_wp2_with fail
      exact HF.out
    · have h2 : 16777215 < size := hs.resolve_left h1
      clear hs
      go_enter Tryz.func19, Tryz.ntmps19
      go_wp2_with fail
      exact HF.out
  · obtain ⟨sz, rfl⟩ : ∃ sz : Nat, size = sz := ⟨size.toNat, by omega⟩
    refine (encL_good A b c sz w hb hT hl (by omega) (by omega)).mono ?_
    rintro e w' ⟨v, rfl, ho, hB⟩
    exact ⟨hB, .inr ⟨by omega, by omega, v, rfl, by simpa using ho⟩⟩
end Go.Proofs.YtgkfolgebkjjmaaGreatDoor
