/-
  The walk of EntryShort.
-/
import Derived.Test.YtonmkhejmiphnaaEnU
namespace Go.Proofs.Ytonmkhejmiphnaa
open Go.RowKit
set_option linter.unusedVariables false
set_option maxRecDepth 100000
attribute [local go_sem ↓] exec_loadSt exec_loadEn

theorem can_pos {l : Bs} (h : can l = true) : 1 ≤ l.length := by
  cases l with
  | nil =>
    have : can [] = false := by decide +kernel
    rw [this] at h; cases h
  | cons a l => simp
theorem head_len (d : Bool) (s : St) : (headB d s).length = 6 + s.n.length := by simp [headB, partB, bigs, big_len]; omega
theorem tail_len (s : St) : (tailB s).length = 13 + s.z.length + dsz s.ds := by simp [tailB, partB, bigs, big_len, dsz]; omega
theorem enc_len {d : Bool} {s : St} (h : canE d s = true) : 7 ≤ (encB d s).length ∧ (encB d s).length ≤ 4000 ∧ (d = true → (encB d s).length = 6 + s.n.length) := by
  have hk : canKeyS s = true := by
    cases d with
    | true => simp only [canE, if_true, Bool.and_eq_true] at h; exact h.1
    | false => simp only [canE, canS, Bool.and_eq_true, Bool.false_eq_true, if_false] at h; exact h.1
  have hn : can s.n = true := by simp only [canKeyS, Bool.and_eq_true] at hk; exact hk.1
  have h1 := can_pos hn
  have h2 := (can_out hn).1
  have h3 := head_len d s
  cases d with
  | true => simp only [encB, if_true]; exact ⟨by omega, by omega, fun _ => h3⟩
  | false =>
    have h4 := tail_len s
    have h5 : fitsS s = true := by simp only [canE, canS, Bool.and_eq_true, Bool.false_eq_true, if_false] at h; exact h.2.2.1
    have h6 := of_decide_eq_true h5
    simp only [encB, Bool.false_eq_true, if_false, List.length_append]
    exact ⟨by omega, by omega, fun h => by cases h⟩
theorem u64_mod (n : Int) : IntKind.u64.wrap n = n % 18446744073709551616 := by simp [IntKind.wrap, IntKind.bits, IntKind.signed]
theorem i64_id (q : Nat) (h : q < 9223372036854775808) : IntKind.i64.wrap (q : Int) = q := by rw [IntKind.wrap_i64]; omega
theorem run_max (N : Nat) (h : 1 ≤ N) (ats : Array TypeId) (ty : TypeId) (w : World) : (Builtin.max_ ats ty #[.int .i64 N, .int .i64 1]).run Try.prog w = .ok (.int .i64 N) w := by
  have h1 : ¬ (1 : Int) > (N : Int) := by omega
  unfold Builtin.max_
  simp [Builtin.max2, h1]
/-- What is no entry's bytes. -/
theorem dec_bad {l : Bs} (h : noR ML l = true) (A : Option Addr) (c : Nat) (W : World) (hb : Sl W A c l) : Calls Try.prog 18 #[.slice A l.length c] W fun e w' => e = .returned (.tuple #[.agg #[.bool false, .string ⟨#[]⟩, .int .i64 0, .int .i64 0, .int .i64 0, .int .i64 0, .int .i64 0, .string ⟨#[]⟩, .slice none 0 0], .int .i64 80]) ∧ Below W.heap.size W w' := by
  refine (Dec_any A l c W hb).mono ?_
  rintro e w' ⟨hB, h1 | ⟨h1, _⟩⟩
  · exact ⟨h1.2, hB⟩
  · rw [h] at h1; cases h1

set_option maxHeartbeats 8000000 in
set_option maxRecDepth 100000 in
theorem EntryShort_any (d : Bool) (s : St) (A : Option Addr) (c : Nat) (n : Int) (y : UInt8) (w : World) (hS : Byss w A s.ds) (hz : Reach8 s) : Calls Try.prog 7 #[.agg (enC d s A c), .int .i64 n, .int .u8 y.toNat] w fun e w' => e = .returned (.bool true) ∧ Below w.heap.size w w' := by
  have r1 := row_new (w := w) (k := w.heap.size) (.cells (enC d s A c) 26 (0, 0)) rfl
  have b0 : Below w.heap.size w (w.alloc (.cells (enC d s A c) 26 (0, 0))) := Below.alloc (Below.refl _ _) (Nat.le_refl _) _
  have hS1 := Lib.hid (hS.on b0)
  have hl0 := hz.sized.l
  have hsz := Lib.hid hz.sized
  have K1 := Lib.hid (fun W (h : Byss W A s.ds) => dCanE_any d s A c W h (by omega))
  have E1 := Lib.hid (Enc_any d s A c (w.alloc (.cells (enC d s A c) 26 (0, 0))) hS1.out hsz.out)
  have I1 : Hid ((Try.prog.info? 26).map (·.size) = some (enC d s A c).size) := Lib.hid info_en
  have L1 := loadEn_row r1 I1.out
  obtain ⟨D, hD⟩ : ∃ D, D = enC d s A c := ⟨_, rfl⟩
  rw [← hD] at r1 b0 hS1 I1 L1 K1 E1
  rw [← hD]
  have HD := Lib.hid hD
  have R1 := Lib.hid r1
  have s1 := b0.size
  clear hD hS hz r1
  go_enter Try.func7, Try.ntmps7
  go_wp2_with fail
  refine E1.out.mono ?_
  rintro e w1 h
  cases hr : canE d s with
  | false =>
    obtain ⟨A1, c1, rfl, hx1, k1⟩ := EncPost.outS h
    have e2 : encK d s = 1 := by simp [encK, hr]
    have L2 := loadEn_row ((k1.block _ (Array.getElem?_eq_some_iff.1 R1.out).1).trans R1.out) I1.out
    have K2 := Lib.hid (K1.out _ (hS1.out.on k1))
    rw [hr] at K2
    rw [e2]
    have bel := Below.trans b0 (k1.mono s1)
    have big := Nat.le_trans s1 k1.size
    generalize encL d s = xl at *
    clear h L1 K1 E1 hx1 k1 b0 s1 e2
    go_wp2_with fail
    refine K2.out.mono ?_
    rintro e w2 ⟨rfl, k2⟩
    have bel2 := Below.trans bel (k2.mono big)
    have big2 := Nat.le_trans big k2.size
    clear K2
    go_wp2_with fail
    refine (awakeE _).mono ?_
    rintro e w3 ⟨rfl, k3⟩
    go_wp2_with fail
    go_ret
    exact ⟨rfl, Below.trans bel2 (k3.mono big2)⟩
  | true =>
    obtain ⟨A1, c1, rfl, hx1, k1⟩ := enc_read hr rfl h
    obtain ⟨hx7, hx8, -⟩ := enc_len hr
    have NS := Lib.hid (fun (a t : Bs) (hb : a ++ t = encB d s) (ht : t ≠ []) => no_short ML hr hb ht)
    have NL := Lib.hid (fun (t : Bs) (ht : t ≠ []) => no_long ML hr ht)
    have bel := Below.trans b0 (k1.mono s1)
    have big := Nat.le_trans s1 k1.size
    clear h L1 K1 E1 k1 b0 s1 R1 hS1 I1 hr
    generalize encB d s = x at *
    obtain ⟨N, hN⟩ : ∃ N, N = x.length := ⟨_, rfl⟩
    obtain ⟨q, hq, hqN⟩ : ∃ q : Nat, Int.tmod (IntKind.u64.wrap n) (N : Int) = q ∧ q < N := by
      have h0 : 0 ≤ IntKind.u64.wrap n := by rw [u64_mod]; omega
      have h1 := Int.tmod_nonneg (N : Int) h0
      have h2 := Int.tmod_lt_of_pos (IntKind.u64.wrap n) (show (0 : Int) < (N : Int) by omega)
      exact ⟨(Int.tmod (IntKind.u64.wrap n) (N : Int)).toNat, by omega, by omega⟩
    have HU : IntKind.u64.wrap (N : Int) = N := by rw [u64_mod]; omega
    have HI := i64_id q (by omega)
    have hN0 : ¬ ((N : Int) = 0) := by omega
    have MX := run_max N (by omega)
    have SL := slice_pre A1 x c1 q (q : Int) (by omega) hx1.le rfl
    have hge : (N : Int) ≥ 7 := by omega
    have hsp : (x.take q).length = q := by rw [List.length_take]; omega
    have D1 := Lib.hid (dec_bad (NS.out (x.take q) (x.drop q) (List.take_append_drop q x) (fun h => by have := congrArg List.length h; rw [List.length_drop] at this; simp at this; omega)) A1 c1 w1 ⟨hx1.bys.pre q, by rw [hsp]; have := hx1.le; omega, hx1.max, hx1.nil⟩)
    have NL2 := Lib.hid (NL.out [y] (by simp))
    have HX := Lib.hid hx1
    rw [hsp] at SL D1
    rw [← hN]
    rw [← hN] at SL
    have HN := Lib.hid hN
    clear NS NL hsp hx1 hN hx7
    go_wp2_with fail
    refine D1.out.mono ?_
    rintro e w2 ⟨rfl, k2⟩
    have bel2 := Below.trans bel (k2.mono big)
    have big2 := Nat.le_trans big k2.size
    have rE := row_new (w := w2) (k := w2.heap.size) (.cells #[.bool false, .string ⟨#[]⟩, .int .i64 0, .int .i64 0, .int .i64 0, .int .i64 0, .int .i64 0, .string ⟨#[]⟩, .slice none 0 0] 26 (0, 0)) rfl
    have bE : Below w2.heap.size w2 ((w2.alloc (.cells #[.bool false, .string ⟨#[]⟩, .int .i64 0, .int .i64 0, .int .i64 0, .int .i64 0, .int .i64 0, .string ⟨#[]⟩, .slice none 0 0] 26)).setRow w2.heap.size #[.bool false, .string ⟨#[]⟩, .int .i64 0, .int .i64 0, .int .i64 0, .int .i64 0, .int .i64 0, .string ⟨#[]⟩, .slice none 0 0]) := Below.setRow (Below.alloc (Below.refl _ _) (Nat.le_refl _) _) (Nat.le_refl _) _
    have IE : Hid ((Try.prog.info? 26).map (·.size) = some (#[.bool false, .string ⟨#[]⟩, .int .i64 0, .int .i64 0, .int .i64 0, .int .i64 0, .int .i64 0, .string ⟨#[]⟩, .slice none 0 0] : Array Value).size) := Lib.hid info_en
    have OE : Hid ((#[.bool false, .string ⟨#[]⟩, .int .i64 0, .int .i64 0, .int .i64 0, .int .i64 0, .int .i64 0, .string ⟨#[]⟩, .slice none 0 0] : Array Value).all (·.oneCell') = true) := Lib.hid (by simp [Value.oneCell'])
    obtain ⟨W3, hW3⟩ : ∃ W5, W5 = (w2.alloc (.cells #[.bool false, .string ⟨#[]⟩, .int .i64 0, .int .i64 0, .int .i64 0, .int .i64 0, .int .i64 0, .string ⟨#[]⟩, .slice none 0 0] 26)).setRow w2.heap.size #[.bool false, .string ⟨#[]⟩, .int .i64 0, .int .i64 0, .int .i64 0, .int .i64 0, .int .i64 0, .string ⟨#[]⟩, .slice none 0 0] := ⟨_, rfl⟩
    rw [← hW3] at bE
    have HW3 := Lib.hid hW3
    have bel3 := Below.trans bel2 (bE.mono big2)
    have big3 := Nat.le_trans big2 bE.size
    have HX3 := Lib.hid ((HX.out.on k2).on bE)
    have CL := Lib.hid (CloneB_any A1 x N c1 W3 HX3.out.bys HN.out (by have := HN.out; omega) (by rw [HN.out]; exact HX3.out.bys.inside))
    clear hW3 bE D1 SL MX HU HI hq bel bel2 k2
    go_wp2_with (first
      | (refine wpList_store_row rfl 26 (.tmp 9) (.tmp 38) rfl w2.heap.size #[.bool false, .string ⟨#[]⟩, .int .i64 0, .int .i64 0, .int .i64 0, .int .i64 0, .int .i64 0, .string ⟨#[]⟩, .slice none 0 0] rfl rfl 26 _ rE IE.out rfl OE.out ?_; rw [← HW3.out])
      | fail)
    refine CL.out.mono ?_
    rintro e w5 ⟨v, rfl, o5, k5⟩
    have bel5 := Below.trans bel3 (k5.mono big3)
    have big5 := Nat.le_trans big3 k5.size
    have hxN : x.length ≤ 4000 := by have := HN.out; omega
    clear CL rE IE OE HW3
    go_wp2_with (first
      | (at_builtin; refine wpList_append_ownC rfl _ _ rfl W3.heap.size _ x rfl (o5.alloc _) ⟨w5.heap.size, 0, none⟩ 1 1 [y] rfl rfl [.int .u8 y.toNat] rfl (World.news_of_block (cs := #[.int .u8 y.toNat]) (t := 5) (fr := (0, 0)) (row_new _ rfl)) (by simp; omega) (by have := k5.size; simp; omega) ?_)
      | fail)
    intro v6 w6 o6 g6 _
    have bel6 : Below w.heap.size w w6 := Below.grown (Below.alloc bel5 big5 _) g6 (by simp; omega) (fun k e => Nat.le_trans big3 (o5.lt k e).1)
    have big6 := bel6.size
    obtain ⟨z, hz⟩ : ∃ z, z = x ++ [y] := ⟨_, rfl⟩
    rw [← hz] at o6 NL2
    clear hz
    obtain ⟨A6, c6, rfl, hs6⟩ := o6.bysN
    have D6 := Lib.hid (dec_bad NL2.out A6 c6 w6 hs6)
    clear o6 g6 o5 k5 hs6 NL2
    go_wp2_with fail
    refine D6.out.mono ?_
    rintro e w7 ⟨rfl, k7⟩
    have bel7 := Below.trans bel6 (k7.mono big6)
    have big7 := Nat.le_trans big6 k7.size
    have rE := row_new (w := w7) (k := w7.heap.size) (.cells #[.bool false, .string ⟨#[]⟩, .int .i64 0, .int .i64 0, .int .i64 0, .int .i64 0, .int .i64 0, .string ⟨#[]⟩, .slice none 0 0] 26 (0, 0)) rfl
    have bE : Below w7.heap.size w7 ((w7.alloc (.cells #[.bool false, .string ⟨#[]⟩, .int .i64 0, .int .i64 0, .int .i64 0, .int .i64 0, .int .i64 0, .string ⟨#[]⟩, .slice none 0 0] 26)).setRow w7.heap.size #[.bool false, .string ⟨#[]⟩, .int .i64 0, .int .i64 0, .int .i64 0, .int .i64 0, .int .i64 0, .string ⟨#[]⟩, .slice none 0 0]) := Below.setRow (Below.alloc (Below.refl _ _) (Nat.le_refl _) _) (Nat.le_refl _) _
    have IE : Hid ((Try.prog.info? 26).map (·.size) = some (#[.bool false, .string ⟨#[]⟩, .int .i64 0, .int .i64 0, .int .i64 0, .int .i64 0, .int .i64 0, .string ⟨#[]⟩, .slice none 0 0] : Array Value).size) := Lib.hid info_en
    have OE : Hid ((#[.bool false, .string ⟨#[]⟩, .int .i64 0, .int .i64 0, .int .i64 0, .int .i64 0, .int .i64 0, .string ⟨#[]⟩, .slice none 0 0] : Array Value).all (·.oneCell') = true) := Lib.hid (by simp [Value.oneCell'])
    obtain ⟨W8, hW8⟩ : ∃ W5, W5 = (w7.alloc (.cells #[.bool false, .string ⟨#[]⟩, .int .i64 0, .int .i64 0, .int .i64 0, .int .i64 0, .int .i64 0, .string ⟨#[]⟩, .slice none 0 0] 26)).setRow w7.heap.size #[.bool false, .string ⟨#[]⟩, .int .i64 0, .int .i64 0, .int .i64 0, .int .i64 0, .int .i64 0, .string ⟨#[]⟩, .slice none 0 0] := ⟨_, rfl⟩
    rw [← hW8] at bE
    have HW8 := Lib.hid hW8
    have bel8 := Below.trans bel7 (bE.mono big7)
    clear hW8 bE D6 k7
    go_wp2_with (first
      | (refine wpList_store_row rfl 26 (.tmp 11) (.tmp 47) rfl w7.heap.size #[.bool false, .string ⟨#[]⟩, .int .i64 0, .int .i64 0, .int .i64 0, .int .i64 0, .int .i64 0, .string ⟨#[]⟩, .slice none 0 0] rfl rfl 26 _ rE IE.out rfl OE.out ?_; rw [← HW8.out])
      | fail)
    go_ret
    exact ⟨rfl, bel8⟩
open Go.ChangeShapes Go.WideShapes Go.ChangeAt in
theorem wf_u8 {n : Int} (h : (Lit.int .u8 n).wf = true) : ∃ x : UInt8, n = x.toNat := by
  have h : 0 ≤ n ∧ n < 256 := by simp [Lit.wf, IntKind.min, IntKind.max, IntKind.signed, IntKind.bits] at h; omega
  exact ⟨UInt8.ofNat n.toNat, by simp; omega⟩
end Go.Proofs.Ytonmkhejmiphnaa
