/-
  HeaderReads: for all bytes, header.Decode answers the header and the counts, or the error, that the document's own Decode answers, and the bytes stay; the argument reads as it did. The table of masks stands as the program's text lays it (the card ties that).
-/
import Derived.Test.YtigpkcpdccgnfaaDoorHdX
import Derived.SizedLaws
namespace Go.Proofs.YtigpkcpdccgnfaaDoor.headerReads
open Go.ChangeShapes Go.WideShapes Go.ChangeAt Go.RowKit

theorem table {W : World} (h : laidMetH Tryd.prog Rows.headerReadsRow.laid W) : Lib.TabIs Tryd.prog W "cicerone/header.masks" .i64 [32768, 1024, 512, 256, 128] :=
  Lib.tabIs_of_head (rest := []) gMask gMaskType Tryd.underlying39 Tryd.underlying3 intCells mkCells h

theorem bytes1 : Tryd.checked.prog.bytesOf 5 = 1 := by kernel_rfl

/-- Bytes that came in, whatever their length: their cells, and what they read as. -/
theorem open_any {H : Type} {enc : TypeId × Value → H} {w : World} {held : Bool} {a : Option Addr} {len cap : Nat} {d : DataW H} {p : List MemPlace} (h : DataW.Trod enc Tryd.prog w 0 (fun _ => true) held 25 (.slice a len cap) d p) :
    len ≤ cap ∧ cap ≤ 9223372036854775807 ∧ ∃ xs : List Int, (∀ i : Nat, 0 ≤ xs[i]?.getD 0 ∧ xs[i]?.getD 0 ≤ 255) ∧ ((d = .nil ∧ len = 0) ∨ ∃ sp : List Int, d = .slice (lits .u8 xs) (lits .u8 sp)) ∧ (len ≤ 140737488351232 → Bytes w a len xs) ∧ xs.length = len := by
  obtain ⟨fuel, hf⟩ := h
  rcases open_ints Tryd.underlying25 Tryd.underlying5 (by kernel_rfl) hf with ⟨hcs, hx⟩ | ⟨x, l, c, zs, hcs, _, hl, hm, hz, hx, hcell, hwz⟩
  · simp [Value.cells] at hcs
    obtain ⟨rfl, rfl, rfl⟩ := hcs
    simp only [Prod.mk.injEq] at hx
    exact ⟨by omega, by omega, [], fun i => by simp, .inl ⟨hx.1, rfl⟩, fun _ => ⟨rfl, by omega, fun _ => rfl, fun p hp => (by cases hp), fun p hp => (by cases hp)⟩, rfl⟩
  · simp [Value.cells] at hcs
    obtain ⟨rfl, rfl, rfl⟩ := hcs
    simp only [Prod.mk.injEq] at hx
    have hz' : zs.length = cap := by simpa using hz
    have hw := range_u8 hwz
    have hlen : (zs.take len).length = len := by simp; omega
    have hget : ∀ i, i < len → (zs.take len).getD i 0 = zs.getD i 0 := fun i hi => by simp [List.getD, List.getElem?_take, hi]
    refine ⟨hl, by unfold maxLen at hm; omega, zs.take len, fun i => ?_, .inr ⟨_, hx.1⟩, fun hr => ⟨hlen, hr, fun hq => (by cases hq), fun p hp i hi => ?_, fun p hp hn => ?_⟩, hlen⟩
    · rw [List.getElem?_take]
      split
      · exact hw i
      · simp
    · cases hp
      rw [hget i hi]
      exact hcell i (by omega)
    · cases hp
      have hc := hcell 0 (by omega)
      have := World.block_lt_of_cell? w _ hc
      have hb : (x.add 0).block = x.block := by unfold Addr.add; split <;> rfl
      omega

set_option maxHeartbeats 1000000 in
theorem contract (H : Type) (enc : TypeId × Value → H) (W : World) (base : Nat) (args : Array Value) (ds gs : List (DataW H)) (before : List MemPlace)
    (hval : ∀ (j : Nat) t v, Tryd.f4.params[j]? = some t → args[j]? = some v → Value.okWide Tryd.prog W .any base t v)
    (hW : DataW.Whole enc Tryd.prog Tryd.f4.params.toList Rows.headerReadsSpec.vars false W args.toList ds gs before) (hL : laidMetH Tryd.prog Rows.headerReadsRow.laid W)
    (hsz : (DataW.weightsEach Tryd.checked.prog (Tryd.f4.params.toList ++ (OpenSpec.ofChange Rows.headerReadsSpec).bare.plain.varTypes Tryd.checked.prog) (ds ++ gs)).all (· ≤ reachBytes) = true) :
    Calls Tryd.prog 4 args W fun e W' => ∃ v, e = .returned v ∧ Rows.headerReadsSpec.post enc Tryd.prog Tryd.f4 false true false false W args v W' := by
  have hm := masks_of (table hL)
  have hW' := hW
  obtain ⟨p, q, hA0, hV, rfl, hfz, hnd⟩ := hW
  have hA : DataW.TrodAll enc Tryd.prog W 0 (fun _ => true) true Tryd.f4.params.toList args.toList ds p := hA0
  rw [Tryd.params4] at hA hval
  obtain ⟨v0, vs0, d0, ds0, p0, q0, hargs, rfl, rfl, h0, r0⟩ := trodAll_cons hA
  obtain ⟨rfl, rfl, rfl⟩ := trodAll_nil r0
  obtain rfl : args = #[v0] := by cases args; simp_all
  obtain ⟨rfl, rfl⟩ := trodVars_none hV
  have lt0 : ∀ x ∈ p0, x.block < W.heap.size := by obtain ⟨m, hm⟩ := h0; exact DataW.trod_lt m _ _ _ hm
  obtain ⟨a0, len0, cap0, rfl⟩ := okWide_slice Tryd.underlying25 (hval 0 25 v0 rfl rfl)
  obtain ⟨hc, hx, xs, hb, hd, hBy, hxl⟩ := open_any h0
  clear hA0
  have hroom : len0 ≤ 140737488351232 := by
    rcases hd with ⟨_, h0'⟩ | ⟨sp, rfl⟩
    · omega
    · have := sized_slice hsz (j := 0) (t := 25) (e := 5) rfl rfl Tryd.underlying25
      rw [bytes1] at this
      simp only [lits, List.length_map, reachBytes] at this
      omega
  have hBy := hBy hroom
  have walk : Calls Tryd.prog 4 #[.slice a0 len0 cap0] W fun e w' => e = .returned (.bool true) ∧ Below W.heap.size W w' := by
    by_cases h12 : (len0 : Int) < 12
    · exact Reads_short a0 len0 cap0 xs W hm hBy h12
    · obtain ⟨bk, off, rfl⟩ := hBy.place (by omega)
      by_cases hz : bits .and .i64 (xs[2]?.getD 0 * 256 + xs[3]?.getD 0) 112 = 0
      · exact Reads_ok bk off len0 cap0 xs W hm hBy (by omega) (by omega) hb hz
      · exact Reads_bits bk off len0 cap0 xs W hm hBy (by omega) (by omega) hb hz
  refine walk.mono fun e W' ⟨he, bel⟩ => ?_
  subst he
  exact ⟨_, rfl, _, _, _, [], _, [], hW', trodAll_mk1 (shut_bool Tryd.underlying4 _), (trodAll_cons_mk (Below.trod laidOut (by kernel_rfl) (of_decide_eq_true (by kernel_rfl)) h0 bel lt0) trodAll_mk0), rfl, bel.frame _, fun h => by cases h⟩

/-- A world for the witness: the settled one, the table holding what its initialiser lays. -/
noncomputable def laidWorld (os : Os) : World :=
  { World.holding Tryd.prog os ⟨#[], #[], []⟩ with heap := (World.holding Tryd.prog os ⟨#[], #[], []⟩).heap.modify 0 fun
      | .cells _ t frozen => .cells #[.int .i64 32768, .int .i64 1024, .int .i64 512, .int .i64 256, .int .i64 128] t frozen
      | o => o }
abbrev wit : Array Value := #[.slice none 0 0]
theorem laid_met (os : Os) : laidMet Tryd.prog Rows.headerReadsRow.laid ((laidWorld os).forCall (fun _ _ => 0) ⟨#[], wit, []⟩).memory :=
  laidMet_of_run' 8 (by kernel_rfl) (by kernel_rfl)
theorem reads (os : Os) {H : Type} (enc : TypeId × Value → H) : ∃ x, DataW.whole enc Tryd.prog ((laidWorld os).forCall (fun _ _ => 0) ⟨#[], wit, []⟩).memory Tryd.f4.params.toList Rows.headerReadsSpec.vars false wit.toList 8 = some ([.nil], [], x) :=
  ⟨[], by kernel_rfl⟩

set_option maxRecDepth 100000 in
theorem lifted (os : Os) (started : os.Started) (H : Type) (enc : TypeId × Value → H) (F : Stop.Interp) :
    ReturnsInHanded {} Tryd.checked os 4 .any ((OpenSpec.ofChange Rows.headerReadsSpec).preRow enc Tryd.prog Tryd.f4 Rows.headerReadsRow.domain false Rows.headerReadsRow.laid) (((OpenSpec.ofChange Rows.headerReadsSpec).at F).post enc Tryd.prog Tryd.f4 false true false false) := by
  obtain ⟨places, hx⟩ := reads os enc
  refine returnsInHanded_of_row (C := Tryd.checked) (s := OpenSpec.ofChange Rows.headerReadsSpec) own started (by kernel_rfl) Tryd.func4
    (witness_row_at (enc := enc) (C := Tryd.checked) false (laidWorld os) wit rfl (by kernel_rfl) (by kernel_rfl) (by kernel_rfl)
      (OpenSpec.preRow_of_cond 8 hx (by kernel_rfl) (fun k hk => by cases hk) (by kernel_rfl) (laid_met os))) ?_
  intro W base args ds gs before hval hW _ _ hsz hL _ _
  exact contract H enc W base args ds gs before hval hW hL hsz

theorem said : Rows.HeaderReadsSaid :=
  OpenClaim.holds_of_cond 4 Tryd.f4 rfl rfl rfl rfl rfl rfl rfl ⟨rfl, rfl, rfl, rfl, rfl⟩ rfl rfl rfl rfl rfl (by kernel_rfl) Tryd.func4 (by kernel_rfl)
    (of_decide_eq_true (by kernel_rfl)) (by unfold Func.isWrapper; first | (rw [if_pos (by decide +kernel)]; kernel_rfl) | (rw [if_neg (by decide +kernel)]; exact ⟨rfl, rfl⟩))
    (fun os started H enc _ F => by rw [OpenClaim.pre_eq_preRow]; exact lifted os started H enc F)

/-- No parameter wants a stand-in; the program's own looks are off. -/
theorem plain (f : FuncId) (fn : Func) (hf : Tryd.pinned.checked.prog.funcNamed "cicerone/ciceronelaw02.HeaderReads" = some f) (hfn : Tryd.pinned.checked.prog.funcs[f]? = some fn) :
    false = Tryd.pinned.checked.prog.looks [] ∧ ∀ (j : Nat) t, fn.params[j]? = some t → Tryd.pinned.checked.prog.wantsStandIn t = false := by
  obtain rfl : f = 4 := Option.some.inj ((show Tryd.prog.funcNamed "cicerone/ciceronelaw02.HeaderReads" = some 4 by kernel_rfl).symm.trans hf) |>.symm
  obtain rfl : fn = Tryd.f4 := (Option.some.inj (Tryd.func4.symm.trans hfn)).symm
  refine ⟨by kernel_rfl, fun j t ht => ?_⟩
  rw [Tryd.params4] at ht
  have hmem := Array.mem_of_getElem? ht
  obtain rfl : t = 25 := by simpa using hmem
  exact (show Tryd.prog.wantsStandIn 25 = false by kernel_rfl)

theorem card : Rows.HeaderReadsCardSaid :=
  Claim7.holds_tied_plain_at .later [] _ _ _ _ said (fun _ h => by cases h) (by kernel_rfl) (fun _ h => by cases h) headerReads_row_tie rfl ⟨rfl, rfl⟩ (by kernel_rfl) rfl plain (by kernel_rfl)
#print axioms card
end Go.Proofs.YtigpkcpdccgnfaaDoor.headerReads
