/-
  strconv.AppendInt at base 16: the digits.
-/
import Derived.Test.YtdifemaidngnjaaDoorFbA
import Derived.Deep.MidRow
namespace Go.Proofs.YtdifemaidngnjaaDoor
open Go.RowKit
set_option linter.unusedVariables false
set_option maxRecDepth 100000

theorem wraps_u64 (n : Int) (h₀ : 0 ≤ n) (h₁ : n < 2 ^ 64) : IntKind.u64.wrap n = n := by simp [IntKind.wrap, IntKind.bits, IntKind.signed]; omega
theorem and_15 (u : Nat) (hu : u < 18446744073709551616) : bits .and .u64 (u : Int) 15 = ((u % 16 : Nat) : Int) := by
  have h := (bits_nat .u64 64 (by decide) wraps_u64 u 15 (by omega) (by omega)).1
  rw [Nat.and_two_pow_sub_one_eq_mod u 4] at h
  exact h
abbrev hexS : ByteArray := ⟨#[48, 49, 50, 51, 52, 53, 54, 55, 56, 57, 97, 98, 99, 100, 101, 102, 103, 104, 105, 106, 107, 108, 109, 110, 111, 112, 113, 114, 115, 116, 117, 118, 119, 120, 121, 122]⟩
theorem hexS_at (r : Nat) (h : r < 16) (W : World) : (Instr.index 9 (.string ⟨#[48, 49, 50, 51, 52, 53, 54, 55, 56, 57, 97, 98, 99, 100, 101, 102, 103, 104, 105, 106, 107, 108, 109, 110, 111, 112, 113, 114, 115, 116, 117, 118, 119, 120, 121, 122]⟩) (.int .u64 r)).run Tryd.prog W = .ok (.int .u8 (hexd r).toNat) W := by
  have hz : hexS.size = 36 := rfl
  have key : ∀ (r : Fin 16) (h : r.val < hexS.size), hexS[r.val] = hexd r.val := by decide +kernel
  have hs : (r : Int).toNat = r := Int.toNat_natCast r
  rw [run_index_string _ _ _ _ _ Tryd.underlying9, dif_pos ⟨by omega, by show (r : Int) < (hexS.size : Int); omega⟩]
  have := key ⟨r, h⟩ (by omega)
  simp only [hs]
  exact congrArg (fun z : UInt8 => Result.ok (Value.int .u8 z.toNat) W) this
theorem drop_set_self : ∀ (l : List Value) (k : Nat) (v : Value), k < l.length → (l.set k v).drop k = v :: l.drop (k + 1)
  | [], k, v, h => by simp at h
  | x :: l, 0, v, h => rfl
  | x :: l, k + 1, v, h => by simpa using drop_set_self l k v (by simpa using h)
theorem zero65 (W : World) : (zeroValue 71).run Tryd.prog W = .ok (.agg (List.replicate 65 (Value.int .u8 0)).toArray) W := by kernel_rfl
theorem elem65 : Tryd.prog.elem 71 = 5 := by kernel_rfl
theorem len65 : Tryd.prog.arrayLen 71 = 65 := by kernel_rfl
theorem slice65 (g k m : Nat) (h0 : 0 < m) (h : k + m = 65) (W : World) : (Instr.sliceAt 71 (.pointer (some ⟨g, 0, none⟩)) (some (.int .i64 k)) none none).run Tryd.prog W = .ok (.slice (some ⟨g, k, none⟩) m m) W := by
  rw [run_sliceAt_array_l W 71 ⟨g, 0, none⟩ (by rw [elem65, len65]; exact Tryd.underlying71) .i64 (k : Int) (by omega) (by rw [len65]; omega), elem65, size_u8, len65]
  simp only [Result.andThen_ok, slicedAt, Int.toNat_natCast]
  rw [if_neg (by omega), show 65 - k = m by omega, Nat.mul_one, Addr.add_lit, Nat.zero_add]
theorem hexC_snoc (u : Nat) (h : ¬ u < 16) : hexC u = hexC (u / 16) ++ [hexd (u % 16)] := hexC_big h
set_option maxHeartbeats 4000000 in
theorem fmt_any (v : Value) (l : Bs) (n : Nat) (base : Nat) (w : World) (hn : n < 16 ^ 6) (ho : OwnR w base v l) (hT : TabC w) (hbase : base ≤ w.heap.size) (hlen : l.length + (hexC n).length ≤ 140737488355328) :
    Calls Tryd.prog 34 #[v, .int .u64 n, .int .i64 16, .bool false, .bool true] w fun e w' => ∃ v', e = .returned (.tuple #[v', .string ⟨#[]⟩]) ∧ OwnR w' base v' (l ++ hexC n) ∧ w.grownBy w' v.ownBlock := by
  have P2 := Lib.hid (fun W => pow2_any W)
  have TZ := Lib.hid (fun W h => tz_any W h)
  have HO := Lib.hid ho
  have HT := Lib.hid hT
  have HN : Hid (n < 16 ^ 6) := Lib.hid hn
  have HLEN2 := Lib.hid hlen
  have hv : ∃ A c, v = .slice A l.length c := by
    rcases ho.2 with ⟨h1, h2⟩ | ⟨g, cap, cur, h1, -⟩
    · exact ⟨none, 0, by rw [h1, h2]⟩
    · exact ⟨_, _, h1⟩
  obtain ⟨A, c, rfl⟩ := hv
  obtain ⟨Z, hZ⟩ : ∃ Z, Z = (List.replicate 65 (Value.int .u8 0)).toArray := ⟨_, rfl⟩
  have hZs : Hid (Z.size = 65) := Lib.hid (by rw [hZ]; rfl)
  have zv := fun W => zero65 W
  rw [← hZ] at zv
  clear hZ
  obtain ⟨ln, hln⟩ : ∃ ln, ln = l.length := ⟨_, rfl⟩
  rw [← hln] at HO ⊢
  clear ho hT hlen hn hln
  go_enter Tryd.func34, Tryd.ntmps34
  go_wp2_with fail
  refine (P2.out _).mono ?_
  rintro e w1 ⟨rfl, hw⟩
  rw [hw]
  clear hw P2
  go_wp2_with fail
  refine (TZ.out _ ?_).mono ?_
  · exact HT.out.on (Below.alloc (Below.refl _ _) (Nat.le_refl _) _)
  rintro e w2 ⟨rfl, hw⟩
  rw [hw]
  clear hw TZ
  go_wp2_with fail
  have b0 : Below w.heap.size w (w.alloc (.cells Z 71)) := Below.alloc (Below.refl _ _) (Nat.le_refl _) _
  have r0 : (w.alloc (.cells Z 71)).heap[w.heap.size]? = some (.cells Z 71 (0, 0)) := row_new _ rfl
  have B0 := Lib.hid b0
  have R0 := Lib.hid r0
  have HIX := Lib.hid (fun r h W => hexS_at r h W)
  clear zv b0 r0
  generalize w.alloc (.cells Z 71) = W0 at *
  go_loopw [1, 13] (fun u i wr => ∃ (q k : Nat) (t : Bs) (cs : Array Value), u = .int .u64 q ∧ i = .int .i64 k ∧ k + t.length = 65 ∧ t.length ≤ 5 ∧ q < 16 ^ (6 - t.length) ∧ Hid (hexC n = hexC q ++ t) ∧ wr.heap[w.heap.size]? = some (.cells cs 71 (0, 0)) ∧ cs.size = 65 ∧ Hid (cs.toList.drop k = t.map byteV) ∧ Below w.heap.size w wr) (fun _ i _ => (intOf i).toNat)
  case atStart => exact ⟨n, 65, [], Z, rfl, rfl, rfl, Nat.zero_le _, HN.out, Lib.hid (by simp), R0.out, hZs.out, Lib.hid (by rw [List.drop_eq_nil_of_le (by have := hZs.out; simp; omega)]; rfl), B0.out⟩
  case round =>
    clear B0 R0
    obtain ⟨q, k, t, cs, rfl, rfl, hk, ht, hq, hG, hr, hcs, hd, hB⟩ := hrel
    have hq6 : q < 16 ^ 6 := Nat.lt_of_lt_of_le hq (Nat.pow_le_pow_right (by omega) (by omega))
    obtain ⟨k', rfl⟩ : ∃ k', k = k' + 1 := ⟨k - 1, by omega⟩
    have wr1 : IntKind.i64.wrap (((k' + 1 : Nat) : Int) - 1) = (k' : Int) := by rw [IntWalk.i64_in _ (by omega)]; omega
    have there : ∃ z, wr.cell? ⟨w.heap.size, k', none⟩ = some z := by
      rw [cell_of_row _ _ _ _ _ _ hr]
      exact ⟨_, Array.getElem?_eq_getElem (by omega)⟩
    obtain ⟨z, hz⟩ := there
    have fz : wr.frozen? ⟨w.heap.size, k', none⟩ = false := frozen_of_row _ _ k' _ _ hr
    by_cases h16 : q < 16
    · have h16' : ¬ (16 : Int) ≤ (q : Int) := by omega
      have ix := HIX.out q h16
      have r2 := row_set (w := wr) (g := w.heap.size) (i := k') (.int .u8 (hexd q).toNat) hr
      have b2 : Below w.heap.size w (wr.setCell ⟨w.heap.size, k', none⟩ (.int .u8 (hexd q).toNat)) := Below.setCell hB (Nat.le_refl _) _
      have G2 : hexC n = hexd q :: t := by rw [hG.out, hexC_small h16]; rfl
      have D2 : (cs.setIfInBounds k' (.int .u8 (hexd q).toNat)).toList.drop k' = (hexd q :: t).map byteV := by
        rw [Array.toList_setIfInBounds, drop_set_self _ _ _ (by simp; omega), hd.out]
        rfl
      rw [← G2] at D2
      have SL : Hid (Sl (wr.setCell ⟨w.heap.size, k', none⟩ (.int .u8 (hexd q).toNat)) (some ⟨w.heap.size, k', none⟩) (65 - k') (hexC n)) := Lib.hid ⟨fun _ => ⟨_, k', rfl, fun j hj => by
        rw [cell_of_row _ _ _ _ _ _ r2]
        have e := congrArg (fun x => x[j]?) D2
        simp only [List.getElem?_drop, List.getElem?_map, List.getElem?_eq_getElem hj, Option.map_some] at e
        rw [← Array.getElem?_toList]
        exact e⟩, by rw [G2]; simp; omega, by omega, fun h => by cases h⟩
      have HL2 : Hid (65 - k' = (hexC n).length) := Lib.hid (by rw [G2]; simp; omega)
      have B2 := Lib.hid b2
      obtain ⟨m, hm⟩ : ∃ m, m = 65 - k' := ⟨_, rfl⟩
      rw [← hm] at SL HL2
      have hk65 : (k' : Int) < 65 := by omega
      have hm2 : 65 - k' = m := hm.symm
      have HO2 := Lib.hid (HO.out.below b2)
      have sl := slice65 w.heap.size k' m (by omega) (by omega)
      generalize (hexd q).toNat = hx at *
      clear hr hB hd hG hq r2 D2 G2 HIX hm
      go_wp2_with (first
        | (at_builtin; refine wpList_appR rfl (.tmp 95) (.tmp 97) rfl base _ l rfl HO2.out (some ⟨w.heap.size, k', none⟩) m m rfl (hexC n) HL2.out SL.out.bys (fun h => by cases h) HLEN2.out (by have := B2.out.size; omega) ?_)
        | fail)
      intro v' w3 o3 g3
      have HF : Hid (OwnR w3 base v' (l ++ hexC n) ∧ w.grownBy w3 (Value.slice A ln c).ownBlock) := Lib.hid ⟨o3, grown_trans (grown_of_below B2.out _) g3 (fun k hk => .inl hk)⟩
      clear o3 g3 SL HO2 B2 b2
      go_wp2_with fail
      go_returns
      exact ⟨v', rfl, HF.out⟩
    · have h16' : (16 : Int) ≤ (q : Int) := by omega
      have an := and_15 q (by omega)
      obtain ⟨d, hdd⟩ : ∃ d, d = q % 16 := ⟨_, rfl⟩
      have hd16 : d < 16 := by omega
      rw [← hdd] at an
      have ix := HIX.out d hd16
      obtain ⟨q2, hq2⟩ : ∃ q2, q2 = q / 16 := ⟨_, rfl⟩
      have sh : (q : Int) / 16 = (q2 : Int) := by omega
      have r2 := row_set (w := wr) (g := w.heap.size) (i := k') (.int .u8 (hexd d).toNat) hr
      have b2 : Below w.heap.size w (wr.setCell ⟨w.heap.size, k', none⟩ (.int .u8 (hexd d).toNat)) := Below.setCell hB (Nat.le_refl _) _
      have G2 : Hid (hexC n = hexC q2 ++ (hexd d :: t)) := Lib.hid (by rw [hG.out, hexC_snoc q h16, ← hdd, ← hq2]; simp)
      have D2 : Hid ((cs.setIfInBounds k' (.int .u8 (hexd d).toNat)).toList.drop k' = (hexd d :: t).map byteV) := Lib.hid (by
        rw [Array.toList_setIfInBounds, drop_set_self _ _ _ (by simp; omega), hd.out]
        rfl)
      have R2 := Lib.hid r2
      have ht4 : t.length ≤ 4 := by
        refine Nat.le_of_not_lt (fun h => ?_)
        rw [show 6 - t.length = 1 by omega, Nat.pow_one] at hq
        exact h16 hq
      have hq3 : q2 < 16 ^ (6 - (t.length + 1)) := by
        rw [hq2, Nat.div_lt_iff_lt_mul (by omega), ← Nat.pow_succ]
        rw [show (6 - (t.length + 1)).succ = 6 - t.length by omega]
        exact hq
      have HSZ : Hid ((cs.setIfInBounds k' (.int .u8 (hexd d).toNat)).size = 65) := Lib.hid (by simp [hcs])
      generalize (hexd d).toNat = hx at *
      clear hr hB hd hG hq hdd hq2 r2
      go_wp2_with fail
      go_roundw
      case rel => exact ⟨q2, k', hexd d :: t, _, rfl, rfl, by simp; omega, by simp; omega, by simpa using hq3, G2, R2.out, HSZ.out, D2, b2⟩
      case measure => simp [intOf]
end Go.Proofs.YtdifemaidngnjaaDoor
