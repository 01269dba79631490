/-
  A region that draws its order: quiet operations and calls ahead (in a class C of worlds), a forced tail behind: one walk of the text's order serves every order, and the tail is walked in any world of the class. (The library has the two halves: Derived/Deep/Quiet.lean, no tail; Derived/StillTail.lean, a tail behind operations that leave the very world. This joins them.)
  The document's SOA (layer 3).
  The document's Can for data (layer 3).
  The document's Names (layer 3).
-/
import Derived.StillTail
import Derived.Deep.Quiet
import Derived.Deep.QuietTactic
import Derived.BigQuiet
import Derived.Test.YtknpkifhkefikaaDoorWa
import Derived.Laws.ResultCell
import Derived.Test.YtknpkifhkefikaaDoorGb
namespace Go.Proofs.YtknpkifhkefikaaDoor
open Go

section
variable {P : Program} {ops : Array Oper} {md : Region.Mode} {C : World → Prop}

/-- Any order of the first n operations, f of them yet to come; L is what is asked behind. -/
def headQ (P : Program) (md : Region.Mode) (ops : Array Oper) (C : World → Prop) (n : Nat) (L : Array Bool → Act → Prop) : Nat → Array Bool → Act → Prop
  | 0, b, a => L b a
  | f + 1, b, a => Region.ready md ops b ≠ [] ∧ ∀ i ∈ Region.ready md ops b, i < n ∧ qOp P ops C i (headQ P md ops C n L f (b.setIfInBounds i true)) a

theorem headQ_runs {n g : Nat} {L : Array Bool → Act → Prop} {Q : Exit → Act → World → Prop} (hL : ∀ b a w, C w → L b a → wpAny P md ops Q g b a w) :
    ∀ (f : Nat) (b : Array Bool) (a : Act), headQ P md ops C n L f b a → ∀ w, C w → wpAny P md ops Q (f + g) b a w := by
  intro f
  induction f with
  | zero => intro b a h w hw; rw [Nat.zero_add]; exact hL b a w hw h
  | succ f ih =>
    intro b a h w hw
    obtain ⟨hne, hall⟩ := h
    rw [Nat.succ_add]
    refine ⟨fun h0 => absurd h0 hne, fun i hi => ?_⟩
    exact wpOp_of_qOp hw (fun a' w' hw' h' => ih _ a' h' w' hw') (hall i hi).2

/-- What is ready in the head, and apart from all that may come between, may be taken first. -/
theorem headQ_take {n i : Nat} {o : Oper} {v : Value} {L : Array Bool → Act → Prop} (ho : ops[i]? = some o) (hsel : ∀ (j : Nat) (o : Oper) cs b, ops[j]? = some o → o.op ≠ .select cs b)
    (hs : Region.sinkB md ops n = true) (hc : Region.chainB md ops n = true) (hn : n < ops.size) (hin : i < n) (hend : ∀ b a, L b a → ∀ j ∈ Region.ready md ops b, n ≤ j)
    (f : Nat) : ∀ (b : Array Bool) (a : Act), HeadInv md ops n b →
      (∀ j oj, ops[j]? = some oj → j ≠ i → b.getD j true = false → (∀ e ∈ oj.after, Region.binds md e = true → e.on ≠ i) → o.apart ops oj = true) →
      i ∈ Region.ready md ops b → YieldsIn P ops C o v a → headQ P md ops C n L f (b.setIfInBounds i true) (a.put o.dst v) → headQ P md ops C n L (f + 1) b a := by
  induction f with
  | zero =>
    intro b a inv _ hr hy H
    have hun := (mem_ready.1 hr).1
    refine ⟨List.ne_nil_of_mem hr, fun j hj => ?_⟩
    have hjn : j < n := Nat.lt_of_not_le fun h => tail_waits hs hc hn inv _ i rfl hin hun j h hj
    by_cases e : j = i
    · rw [e]; exact ⟨hin, hy.qOp ho H⟩
    · have := hend _ _ H j (ready_mono hj e)
      omega
  | succ f ih =>
    intro b a inv hap hr hy H
    have hun := (mem_ready.1 hr).1
    refine ⟨List.ne_nil_of_mem hr, fun j hj => ?_⟩
    have hjn : j < n := Nat.lt_of_not_le fun h => tail_waits hs hc hn inv _ i rfl hin hun j h hj
    by_cases e : j = i
    · rw [e]; exact ⟨hin, hy.qOp ho H⟩
    · obtain ⟨hju, oj, hoj, hdeps⟩ := mem_ready.1 hj
      have hno : ∀ e ∈ oj.after, Region.binds md e = true → e.on ≠ i := by
        intro e he hb heq
        have := hdeps e he hb
        rw [heq, getD_both hun] at this
        cases this
      have hq := (H.2 j (ready_mono hj e)).2
      have hq := qOp_put hoj (hap j oj hoj e hju hno) (fun cs d => hsel i o cs d ho) (fun cs d => hsel j oj cs d hoj) hy hq
      refine ⟨hjn, qOp_mono (fun a' h' => ?_) hq⟩
      obtain ⟨hy', H'⟩ := h'
      refine ih (b.setIfInBounds j true) a' (inv.set hj hjn) (fun k ok hk hki hku hkn => hap k ok hk hki ?_ hkn) (ready_mono hr (Ne.symm e)) hy' ?_
      · by_cases hjk : j = k
        · rw [← hjk]; exact hju
        · rwa [getD_set_ne true hjk] at hku
      · rw [Array.setIfInBounds_comm _ _ e]
        exact H'

theorem headQ_lex {n g : Nat} {K : Act → Prop} (hsel : Region.noSelect ops = true) (hs : Region.sinkB md ops n = true) (hc : Region.chainB md ops n = true) (hn : n < ops.size) (l : List Oper) :
    ∀ (k : Nat) (b : Array Bool) (a : Act), (∀ j, j < l.length → l[j]? = ops[k + j]?) → k + l.length = n → HeadInv md ops n b → Region.lexHead md ops g l.length k b = true → wpQuiet P ops C K l a →
    headQ P md ops C n (fun b' a' => Region.seqB md ops g n b' = true ∧ K a') l.length b a := by
  induction l with
  | nil =>
    intro k b a _ hk _ hB h
    rw [List.length_nil, Nat.add_zero] at hk
    subst hk
    exact ⟨by simpa [Region.lexHead] using hB, h⟩
  | cons o l ih =>
    intro k b a hl hk inv hB h
    rw [List.length_cons] at hk
    have ho : ops[k]? = some o := by
      have := hl 0 (by simp)
      rw [Nat.add_zero] at this
      exact this.symm
    simp only [List.length_cons, Region.lexHead, Bool.and_eq_true, List.contains_eq_mem, decide_eq_true_eq] at hB
    obtain ⟨⟨hr, hf⟩, hB'⟩ := hB
    have hq : qOp P ops C k (wpQuiet P ops C K l) a := by
      unfold qOp
      rw [ho]
      exact h
    obtain ⟨v, hy, hK⟩ := yieldsIn_of_qOp ho hq
    refine headQ_take ho (Region.noSelect_spec hsel) hs hc hn (by omega) (fun b' a' h' => seqB_ready h'.1) l.length b a inv (Region.free_spec ho hf) hr hy ?_
    refine ih (k + 1) _ _ (fun j hj => ?_) (by omega) (inv.set hr (by omega)) hB' hK
    have := hl (j + 1) (by simp; omega)
    rw [List.getElem?_cons_succ] at this
    rw [this]
    congr 1
    omega

/-- The law: n quiet operations, then the rest in its order. -/
theorem wp_region_quiet_tail {id : Nat} {Q : Exit → Act → World → Prop} {a : Act} {w : World} {l : List Oper} (n : Nat) (hm : P.follows .mixedOrders = true) (hB : Region.lexTailB .any l.toArray n = true)
    (h : wpQuiet P l.toArray (fun w' => ∃ k, w' = w.drewN k) (fun a' => ∀ w', (∃ k, w' = w.drewN k) → wpList P l.toArray Q (l.drop n) a' w') (l.take n) a) : (Code.region id l.toArray true).wp P Q a w := by
  unfold Region.lexTailB at hB
  simp only [Bool.and_eq_true, decide_eq_true_eq] at hB
  obtain ⟨⟨⟨⟨hsel, hn⟩, hs⟩, hc⟩, hx⟩ := hB
  have hn' : n < l.length := by simpa using hn
  have hlen : (l.take n).length = n := by rw [List.length_take]; omega
  have inv : HeadInv .any l.toArray n (Array.replicate l.toArray.size false) :=
    ⟨by simp, fun j oj _ hj => (by rw [getD_replicate_false] at hj; cases hj), fun t _ ht => getD_in (by simpa using ht) (getD_replicate_false _ _)⟩
  have hH := headQ_lex (md := .any) (g := l.toArray.size - n) hsel hs hc hn (l.take n) 0 _ a (fun j hj => by
    rw [hlen] at hj
    rw [Nat.zero_add, List.getElem?_take_of_lt hj]
    simp) (by omega) inv (by rw [hlen]; exact hx) h
  have hR := headQ_runs (Q := Q) (g := l.toArray.size - n) (fun b a' w' hw' hL => by
    have ht := wpAny_of_seq (md := .any) (Q' := Q) (l.drop n) n b a' w' (fun j => by simp [List.getElem?_drop]) (by
      have : (l.drop n).length = l.toArray.size - n := by simp
      rw [this]; exact hL.1) (hL.2 w' hw')
    have e : (l.drop n).length = l.toArray.size - n := by simp
    rwa [e] at ht) _ _ _ hH { w with drawn := w.drawn + 1 } ⟨1, rfl⟩
  refine wp_region_any hm ?_
  rw [hlen, show n + (l.toArray.size - n) = l.toArray.size by omega] at hR
  exact hR
end
end Go.Proofs.YtknpkifhkefikaaDoor
namespace Go.Proofs.YtknpkifhkefikaaDoor
open Go.RowKit
set_option linter.unusedVariables false
set_option maxRecDepth 100000

/-- What the data of an SOA say, as cells. -/
def soaC : Option Soa → Array Value
  | none => #[.string ⟨#[]⟩, .string ⟨#[]⟩, .int .i64 0, .int .i64 0, .int .i64 0, .int .i64 0, .int .i64 0]
  | some s => #[.string (bs s.m), .string (bs s.r), .int .i64 s.a, .int .i64 s.b, .int .i64 s.c, .int .i64 s.d, .int .i64 s.e]
def SoaPost (w : World) (l : Bs) (e : Ending) (w' : World) : Prop := e = .returned (.tuple #[.agg (soaC (soa l)), .bool (soa l).isSome]) ∧ Below w.heap.size w w'

theorem heap_lt3 {w : World} {g : Nat} {o : Obj} (h : w.heap[g]? = some o) : g < w.heap.size := (Array.getElem?_eq_some_iff.1 h).1
theorem soa_none1 {l : Bs} (h : nameLen l = none) : soa l = none := by unfold soa; rw [h]
theorem soa_none2 {l : Bs} {i : Nat} (h : nameLen l = some i) (h2 : nameLen (l.drop i) = none) : soa l = none := by unfold soa; rw [h]; simp only; rw [h2]
theorem soa_at {l : Bs} {i j : Nat} (h : nameLen l = some i) (h2 : nameLen (l.drop i) = some j) : soa l = if l.length = i + j + 20 then some ⟨l.take i, (l.drop i).take j, four (l.drop (i + j)), four (l.drop (i + j + 4)), four (l.drop (i + j + 8)), four (l.drop (i + j + 12)), four (l.drop (i + j + 16))⟩ else none := by unfold soa; rw [h]; simp only; rw [h2]

theorem soaC_size (o : Option Soa) : (soaC o).size = 7 := by cases o <;> rfl
theorem soaC_one (o : Option Soa) : (soaC o).all (·.oneCell') = true := by cases o <;> simp [soaC, Value.oneCell']
theorem soa_info {n : Nat} (h : n = 7) : (Tryd.prog.info? 148).map (·.size) = some n := by subst h; kernel_rfl
theorem results_soa {c : Value} {tmps : Array Value} {W : World} {g : Nat} {cs : Array Value} (h2 : tmps.getD 2 undef = .pointer (some ⟨g, 0, none⟩)) (h3 : tmps.getD 3 undef = c)
    (r2 : W.heap[g]? = some (.cells cs 148 (0, 0))) (hs : cs.size = 7) :
    (results Tryd.f83 tmps).run Tryd.prog W = .ok (.tuple #[.agg cs, c]) W := by
  have q0 : (loadVar 148 ⟨g, 0, none⟩).run Tryd.prog W = .ok (.agg cs) W := run_loadVar_row W g 148 148 cs (0, 0) _ r2 Tryd.underlying148 rfl (soa_info hs)
  subst h3
  have h2' : tmps[2]?.getD undef = .pointer (some ⟨g, 0, none⟩) := by simpa using h2
  simp [results, Tryd.results83, asAddr, h2', q0]

set_option maxHeartbeats 4000000 in
set_option maxRecDepth 100000 in
theorem rSOA_any (A : Option Addr) (l : Bs) (c : Nat) (w : World) (hS : Bys w A l) (hc : l.length ≤ c) (hcm : c ≤ 9223372036854775807) : Calls Tryd.prog 83 #[.slice A l.length c] w (SoaPost w l) := by
  have hZ0 : soaC none = #[.string ⟨#[]⟩, .string ⟨#[]⟩, .int .i64 0, .int .i64 0, .int .i64 0, .int .i64 0, .int .i64 0] := rfl
  go_enter Tryd.func83, Tryd.ntmps83
  go_wp2_with fail
  have bw : Below w.heap.size w (w.alloc (.cells (soaC none) 148)) := Below.alloc (Below.refl _ _) (Nat.le_refl _) _
  have hrow0 := row_new (w := w) (k := w.heap.size) (.cells (soaC none) 148 (0, 0)) rfl
  rw [hZ0] at bw hrow0
  clear hZ0
  refine (rFirst_any A l c _ (hS.on bw) hc hcm).mono ?_
  rintro e w1 (⟨hn, rfl, b1⟩ | ⟨i, A1, c1, hn, rfl, hS1, hc1, hm1, b1⟩)
  · have HZ := Lib.hid (soa_none1 hn)
    have hrow := (b1.block _ (heap_lt3 hrow0)).trans hrow0
    have b2 : Below w.heap.size w w1 := Below.trans bw (b1.mono bw.size)
    clear hn hrow0 b1 bw
    go_wp2_with (first
      | (refine wpList_store_row rfl 148 (.tmp 2) (.tmp 16) rfl w.heap.size (soaC none) rfl rfl 148 _ hrow (soa_info rfl) rfl (soaC_one none) ?_)
      | fail)
    refine bodyPost_ret (v := .tuple #[.agg (soaC none), .bool false]) (results_soa (g := w.heap.size) rfl rfl (setRow_heap _ _ _ _ _ _ hrow) rfl) rfl ?_
    exact ⟨by rw [HZ.out]; rfl, Below.setRow b2 (Nat.le_refl _) _⟩
  · have hrow1 := (b1.block _ (heap_lt3 hrow0)).trans hrow0
    have b2 : Below w.heap.size w w1 := Below.trans bw (b1.mono bw.size)
    have HN := Lib.hid hn
    clear hn hrow0 b1 bw
    obtain ⟨x, hx⟩ : ∃ x, x = l.drop i := ⟨_, rfl⟩
    rw [← hx] at hS1 hc1
    rw [← hx]
    have HX := Lib.hid hx
    have hxl : x.length = l.length - i := by rw [hx, List.length_drop]
    have hil := nameLen_le HN.out
    have HXL := Lib.hid hxl
    clear hx hxl
    have hx1 : x.length ≤ 9223372036854775807 := by have := HXL.out; omega
    go_wp2_with fail
    refine (rFirst_any A1 x c1 _ hS1 hc1 hm1).mono ?_
    rintro e w2 (⟨hn2, rfl, b3⟩ | ⟨j, A2, c2, hn2, rfl, hS2, hc2, hm2, b3⟩)
    · have HZ := Lib.hid (soa_none2 HN.out (by rw [← HX.out]; exact hn2))
      have hrow := (b3.block _ (heap_lt3 hrow1)).trans hrow1
      have b4 : Below w.heap.size w w2 := Below.trans b2 (b3.mono b2.size)
      clear hn2 hrow1 b2 b3
      go_wp2_with (first
        | (refine wpList_store_row rfl 148 (.tmp 2) (.tmp 30) rfl w.heap.size (soaC none) rfl rfl 148 _ hrow (soa_info rfl) rfl (soaC_one none) ?_)
        | fail)
      refine bodyPost_ret (v := .tuple #[.agg (soaC none), .bool false]) (results_soa (g := w.heap.size) rfl rfl (setRow_heap _ _ _ _ _ _ hrow) rfl) rfl ?_
      exact ⟨by rw [HZ.out]; rfl, Below.setRow b4 (Nat.le_refl _) _⟩
    · have hrow := (b3.block _ (heap_lt3 hrow1)).trans hrow1
      have b4 : Below w.heap.size w w2 := Below.trans b2 (b3.mono b2.size)
      have hsoa := soa_at HN.out (by rw [← HX.out]; exact hn2)
      have hjl := nameLen_le hn2
      have hyl : (x.drop j).length = x.length - j := List.length_drop
      obtain ⟨y, hy⟩ : ∃ y, y = x.drop j := ⟨_, rfl⟩
      rw [← hy] at hS2 hc2 hyl
      rw [← hy]
      clear hrow1 b2 b3 hn2
      by_cases h20 : y.length = 20
      · rw [if_pos (by have := HXL.out; omega)] at hsoa
        have hd : ∀ k, l.drop (i + j + k) = y.drop k := fun k => by rw [hy, HX.out, List.drop_drop, List.drop_drop]; congr 1; omega
        have hd0 : l.drop (i + j) = y := by have := hd 0; simpa using this
        rw [hd 4, hd 8, hd 12, hd 16, hd0, ← HX.out] at hsoa
        have HSO := Lib.hid hsoa
        obtain ⟨B4, r4, S4, _⟩ := slice_bys A2 y c2 4 4 w2 hS2 (by omega) hc2 rfl
        obtain ⟨B8, r8, S8, _⟩ := slice_bys A2 y c2 8 8 w2 hS2 (by omega) hc2 rfl
        obtain ⟨B12, r12, S12, _⟩ := slice_bys A2 y c2 12 12 w2 hS2 (by omega) hc2 rfl
        obtain ⟨B16, r16, S16, _⟩ := slice_bys A2 y c2 16 16 w2 hS2 (by omega) hc2 rfl
        have L4 : (y.drop 4).length = 16 := by rw [List.length_drop]; omega
        have L8 : (y.drop 8).length = 12 := by rw [List.length_drop]; omega
        have L12 : (y.drop 12).length = 8 := by rw [List.length_drop]; omega
        have L16 : (y.drop 16).length = 4 := by rw [List.length_drop]; omega
        have F0 := Lib.hid (fun W (hW : Bys W A2 y) => rfour_any A2 y 20 c2 W hW h20.symm (by omega))
        have F4 := Lib.hid (fun W (hW : Bys W B4 (y.drop 4)) => rfour_any B4 (y.drop 4) 16 (c2 - 4) W hW L4.symm (by omega))
        have F8 := Lib.hid (fun W (hW : Bys W B8 (y.drop 8)) => rfour_any B8 (y.drop 8) 12 (c2 - 8) W hW L8.symm (by omega))
        have F12 := Lib.hid (fun W (hW : Bys W B12 (y.drop 12)) => rfour_any B12 (y.drop 12) 8 (c2 - 12) W hW L12.symm (by omega))
        have F16 := Lib.hid (fun W (hW : Bys W B16 (y.drop 16)) => rfour_any B16 (y.drop 16) 4 (c2 - 16) W hW L16.symm (by omega))
        rw [L4, h20] at r4
        rw [L8, h20] at r8
        rw [L12, h20] at r12
        rw [L16, h20] at r16
        rw [h20]
        clear hsoa hd hd0 hyl L4 L8 L12 L16 hc hcm hc1 hc2 hx1 hy
        go_wp2_with fail
        refine wp_region_quiet_tail 17 (by kernel_rfl) (by kernel_rfl) ?_
        simp only [List.take_succ_cons, List.take_zero, List.drop_succ_cons, List.drop_zero]
        repeat (go_big_quiet_step ((first
          | (go_at_call 116; (with_reducible refine Calls.quiet_of (F0.out _ ?_)); exact hS2.on (below_drewN (Below.refl _ _) _))
          | (go_at_call 116; (with_reducible refine Calls.quiet_of (F4.out _ ?_)); exact S4.on (below_drewN (Below.refl _ _) _))
          | (go_at_call 116; (with_reducible refine Calls.quiet_of (F8.out _ ?_)); exact S8.on (below_drewN (Below.refl _ _) _))
          | (go_at_call 116; (with_reducible refine Calls.quiet_of (F12.out _ ?_)); exact S12.on (below_drewN (Below.refl _ _) _))
          | (go_at_call 116; (with_reducible refine Calls.quiet_of (F16.out _ ?_)); exact S16.on (below_drewN (Below.refl _ _) _)))))
        refine wpQuiet_nil ?_
        intro w3 hw3
        obtain ⟨nq, rfl⟩ := hw3
        have hrow' : (w2.drewN nq).heap[w.heap.size]? = some (.cells (soaC none) 148 (0, 0)) := hrow
        have b5 := below_drewN b4 nq
        clear r4 r8 r12 r16 S4 S8 S12 S16 F0 F4 F8 F12 F16 hS2 hS1 hS hrow b4
        generalize w2.drewN nq = w4 at *
        obtain ⟨s, hs⟩ : ∃ s : Soa, s = { m := l.take i, r := x.take j, a := four y, b := four (y.drop 4), c := four (y.drop 8), d := four (y.drop 12), e := four (y.drop 16) } := ⟨_, rfl⟩
        rw [← hs] at HSO
        have HSS := Lib.hid hs
        clear hs
        refine wpList_store_row rfl 148 (.tmp 2) (.tmp 47) rfl w.heap.size (soaC (some s)) rfl (by rw [HSS.out]; rfl) 148 _ hrow' (soa_info (soaC_size _)) (by rw [soaC_size, soaC_size]) (soaC_one _) ?_
        go_wp2_with fail
        refine bodyPost_ret (v := .tuple #[.agg (soaC (some s)), .bool true]) (results_soa (g := w.heap.size) rfl rfl (setRow_heap _ _ _ _ _ _ hrow') (soaC_size _)) rfl ?_
        exact ⟨by rw [HSO.out]; rfl, Below.setRow b5 (Nat.le_refl _) _⟩
      · rw [if_neg (by have := HXL.out; omega)] at hsoa
        have HZ := Lib.hid hsoa
        have hne : ((y.length : Int) != 20) = true := by rw [bne_iff_ne]; omega
        clear hsoa
        go_wp2_with (first
          | (refine wpList_store_row rfl 148 (.tmp 2) (.tmp 30) rfl w.heap.size (soaC none) rfl rfl 148 _ hrow (soa_info rfl) rfl (soaC_one none) ?_)
          | fail)
        refine bodyPost_ret (v := .tuple #[.agg (soaC none), .bool false]) (results_soa (g := w.heap.size) rfl rfl (setRow_heap _ _ _ _ _ _ hrow) rfl) rfl ?_
        exact ⟨by rw [HZ.out]; rfl, Below.setRow b4 (Nat.le_refl _) _⟩
end Go.Proofs.YtknpkifhkefikaaDoor
namespace Go.Proofs.YtknpkifhkefikaaDoor
open Go.RowKit
set_option linter.unusedVariables false
set_option maxRecDepth 100000

theorem soaC_none : soaC none = #[.string ⟨#[]⟩, .string ⟨#[]⟩, .int .i64 0, .int .i64 0, .int .i64 0, .int .i64 0, .int .i64 0] := rfl
theorem canD_far {t : Int} {l : Bs} (h : t < 0 ∨ 65535 < t ∨ 65535 < l.length) : canD t l = false := by unfold canD; rw [if_pos h]
theorem canD_in {t : Int} {l : Bs} (h : ¬ (t < 0 ∨ 65535 < t ∨ 65535 < l.length)) : canD t l = if t = 1 then l.length == 4
  else if t = 28 then l.length == 16
  else if t = 2 ∨ t = 5 ∨ t = 12 then can l
  else if t = 15 then decide (2 < l.length) && can (l.drop 2)
  else if t = 6 then (soa l).isSome
  else if t = 16 then texts l
  else if t = 41 then opts l
  else true := by unfold canD; rw [if_neg h]

set_option maxHeartbeats 4000000 in
set_option maxRecDepth 100000 in
theorem rCanD_any (t : Int) (A : Option Addr) (l : Bs) (c : Nat) (w : World) (hS : Bys w A l) (hc : l.length ≤ c) (hcm : c ≤ 9223372036854775807) : Calls Tryd.prog 45 #[.int .i64 t, .slice A l.length c] w fun e w' => e = .returned (.bool (canD t l)) ∧ Below w.heap.size w w' := by
  by_cases hfar : t < 0 ∨ 65535 < t ∨ 65535 < l.length
  · have HF := Lib.hid (canD_far hfar)
    by_cases h0 : t < 0
    · clear hfar
      go_enter Tryd.func45, Tryd.ntmps45
      go_wp2_with fail
      go_ret
      exact ⟨by rw [HF.out]; rfl, Below.refl _ _⟩
    · by_cases h1 : 65535 < t
      · clear hfar
        go_enter Tryd.func45, Tryd.ntmps45
        go_wp2_with fail
        go_ret
        exact ⟨by rw [HF.out]; rfl, Below.refl _ _⟩
      · have h2 : (65535 : Int) < (l.length : Int) := by omega
        clear hfar
        go_enter Tryd.func45, Tryd.ntmps45
        go_wp2_with fail
        go_ret
        exact ⟨by rw [HF.out]; rfl, Below.refl _ _⟩
  · have hin := canD_in hfar
    have h0 : ¬ t < 0 := fun h => hfar (Or.inl h)
    have h1 : ¬ 65535 < t := fun h => hfar (Or.inr (Or.inl h))
    have hl : l.length ≤ 65535 := by omega
    have h2 : ¬ (65535 : Int) < (l.length : Int) := by omega
    clear hfar
    by_cases e1 : t = 1
    · subst e1
      rw [if_pos rfl] at hin
      have HI := Lib.hid (hin.trans (show (l.length == 4) = ((l.length : Int) == 4) by rw [Bool.eq_iff_iff]; simp; omega))
      clear hin h0 h1
      go_enter Tryd.func45, Tryd.ntmps45
      go_wp2_with fail
      go_ret
      exact ⟨by rw [HI.out]; rfl, Below.refl _ _⟩
    rw [if_neg e1] at hin
    by_cases e28 : t = 28
    · subst e28
      rw [if_pos rfl] at hin
      have HI := Lib.hid (hin.trans (show (l.length == 16) = ((l.length : Int) == 16) by rw [Bool.eq_iff_iff]; simp; omega))
      clear hin h0 h1 e1
      go_enter Tryd.func45, Tryd.ntmps45
      go_wp2_with fail
      go_ret
      exact ⟨by rw [HI.out]; rfl, Below.refl _ _⟩
    rw [if_neg e28] at hin
    have T1 : (t == 1) = false := by simp [e1]
    have T28 : (t == 28) = false := by simp [e28]
    clear e1 e28
    by_cases en : t = 2 ∨ t = 5 ∨ t = 12
    · rw [if_pos en] at hin
      have HI := Lib.hid hin
      have hst := Lib.hid (fun W (hW : Bys W A l) => string_bys A l c W hW)
      clear hin
      rcases en with rfl | rfl | rfl
      all_goals
        clear h0 h1 T1 T28
        go_enter Tryd.func45, Tryd.ntmps45
        have hs := hst.out w hS
        go_wp2_with fail
        refine (rCan_any l _).mono ?_
        rintro e w1 ⟨rfl, rfl⟩
        go_wp2_with fail
        go_ret
        exact ⟨by rw [HI.out]; rfl, Below.refl _ _⟩
    rw [if_neg en] at hin
    have T2 : (t == 2) = false := by simp; omega
    have T5 : (t == 5) = false := by simp; omega
    have T12 : (t == 12) = false := by simp; omega
    clear en
    by_cases e15 : t = 15
    · subst e15
      rw [if_pos rfl] at hin
      by_cases h3 : 2 < l.length
      · have hi2 : canD 15 l = can (l.drop 2) := by rw [hin]; simp [h3]
        have HI := Lib.hid hi2
        obtain ⟨B, r2, S2, _⟩ := slice_bys A l c 2 2 w hS (by omega) hc rfl
        have hs := string_bys B (l.drop 2) (c - 2) w S2
        obtain ⟨q, hq⟩ : ∃ q, q = l.drop 2 := ⟨_, rfl⟩
        rw [← hq] at r2 hs HI
        have h4 : (2 : Int) < (l.length : Int) := by omega
        clear hin hi2 h0 h1 T1 T28 T2 T5 T12 S2 hq h3
        generalize q.length = z at *
        go_enter Tryd.func45, Tryd.ntmps45
        go_wp2_with fail
        refine (rCan_any q _).mono ?_
        rintro e w1 ⟨rfl, rfl⟩
        go_wp2_with fail
        go_ret
        exact ⟨by rw [HI.out]; rfl, Below.refl _ _⟩
      · have hi2 : canD 15 l = false := by rw [hin]; simp [h3]
        have HI := Lib.hid hi2
        have h4 : ¬ (2 : Int) < (l.length : Int) := by omega
        clear hin hi2 h0 h1 T1 T28 T2 T5 T12 h3
        go_enter Tryd.func45, Tryd.ntmps45
        go_wp2_with fail
        go_ret
        exact ⟨by rw [HI.out]; rfl, Below.refl _ _⟩
    rw [if_neg e15] at hin
    have T15 : (t == 15) = false := by simp [e15]
    clear e15
    by_cases e6 : t = 6
    · subst e6
      rw [if_pos rfl] at hin
      have HI := Lib.hid hin
      clear hin h0 h1 T1 T28 T2 T5 T12 T15
      go_enter Tryd.func45, Tryd.ntmps45
      go_wp2_with fail
      refine (rSOA_any A l c _ hS hc hcm).mono ?_
      rintro e w1 ⟨rfl, b1⟩
      obtain ⟨o, ho⟩ : ∃ o, o = soa l := ⟨_, rfl⟩
      rw [← ho] at HI
      rw [← ho]
      clear ho
      have hrow0 := row_new (w := w1) (k := w1.heap.size) (.cells (soaC none) 148 (0, 0)) rfl
      have bw : Below w.heap.size w (w1.alloc (.cells (soaC none) 148)) := Below.alloc b1 b1.size _
      rw [soaC_none] at hrow0 bw
      go_wp2_with (first
        | (refine wpList_store_row rfl 148 (.tmp 5) (.tmp 52) rfl w1.heap.size (soaC o) rfl rfl 148 _ hrow0 (soa_info (soaC_size _)) (by rw [soaC_size]; rfl) (soaC_one _) ?_)
        | fail)
      go_ret
      exact ⟨by rw [HI.out]; rfl, Below.setRow bw b1.size _⟩
    rw [if_neg e6] at hin
    have T6 : (t == 6) = false := by simp [e6]
    clear e6
    by_cases e16 : t = 16
    · subst e16
      rw [if_pos rfl] at hin
      have HI := Lib.hid hin
      clear hin h0 h1 T1 T28 T2 T5 T12 T15 T6
      go_enter Tryd.func45, Tryd.ntmps45
      go_wp2_with fail
      refine (rtexts_any A l c _ hS hc hcm hl).mono ?_
      rintro e w1 ⟨rfl, rfl⟩
      go_wp2_with fail
      go_ret
      exact ⟨by rw [HI.out]; rfl, Below.refl _ _⟩
    rw [if_neg e16] at hin
    have T16 : (t == 16) = false := by simp [e16]
    clear e16
    by_cases e41 : t = 41
    · subst e41
      rw [if_pos rfl] at hin
      have HI := Lib.hid hin
      clear hin h0 h1 T1 T28 T2 T5 T12 T15 T6 T16
      go_enter Tryd.func45, Tryd.ntmps45
      go_wp2_with fail
      refine (roptions_any A l c _ hS hc hcm hl).mono ?_
      rintro e w1 ⟨rfl, b1⟩
      go_wp2_with fail
      go_ret
      exact ⟨by rw [HI.out]; rfl, b1⟩
    rw [if_neg e41] at hin
    have T41 : (t == 41) = false := by simp [e41]
    have HI := Lib.hid hin
    clear e41 hin
    go_enter Tryd.func45, Tryd.ntmps45
    go_wp2_with fail
    go_ret
    exact ⟨by rw [HI.out]; rfl, Below.refl _ _⟩
end Go.Proofs.YtknpkifhkefikaaDoor
namespace Go.Proofs.YtknpkifhkefikaaDoor
open Go.RowKit
set_option linter.unusedVariables false
set_option maxRecDepth 100000

theorem namesD_no {t : Int} {l : Bs} (h : canD t l = false) : namesD t l = [] := by unfold namesD; rw [h]; rfl
theorem namesD_in {t : Int} {l : Bs} (h : canD t l = true) : namesD t l = if t = 2 ∨ t = 5 ∨ t = 12 then [l]
    else if t = 15 then [l.drop 2]
    else if t = 6 then (match soa l with | some s => [s.m, s.r] | none => [])
    else [] := by unfold namesD; rw [if_pos h]; rfl
theorem strs_one {w1 : World} {x : Bs} {t : TypeId} : Strs (w1.alloc (.cells #[.string (bs x)] t)) (some ⟨w1.heap.size, 0, none⟩) [x] := fun _ => by
  refine ⟨_, 0, rfl, fun j hj => ?_⟩
  have hr := row_new (w := w1) (k := w1.heap.size) (.cells #[.string (bs x)] t (0, 0)) rfl
  have : j = 0 := by simp at hj; exact hj
  subst this
  exact (cell_of_row _ _ _ _ _ _ hr).trans rfl
theorem strs_two {w1 : World} {x y : Bs} {t : TypeId} {k : Nat} (hk : k = w1.heap.size) : Strs (w1.alloc (.cells #[.string (bs x), .string (bs y)] t)) (some ⟨k, 0, none⟩) [x, y] := fun _ => by
  subst hk
  refine ⟨_, 0, rfl, fun j hj => ?_⟩
  have hr := row_new (w := w1) (k := w1.heap.size) (.cells #[.string (bs x), .string (bs y)] t (0, 0)) rfl
  have : j = 0 ∨ j = 1 := by simp at hj; omega
  rcases this with rfl | rfl
  · exact (cell_of_row _ _ _ _ _ _ hr).trans rfl
  · exact (cell_of_row _ _ _ _ _ _ hr).trans rfl
theorem canD_mx {l : Bs} (h : canD 15 l = true) : 2 < l.length := by
  unfold canD at h
  split at h
  · cases h
  · simp at h; exact h.1
theorem canD_soa {l : Bs} (h : canD 6 l = true) : ∃ s, soa l = some s := by
  unfold canD at h
  split at h
  · cases h
  · simp at h; exact Option.isSome_iff_exists.1 h

set_option maxHeartbeats 4000000 in
set_option maxRecDepth 100000 in
theorem rNames_any (t : Int) (A : Option Addr) (l : Bs) (c : Nat) (w : World) (hS : Bys w A l) (hc : l.length ≤ c) (hcm : c ≤ 9223372036854775807) : Calls Tryd.prog 77 #[.int .i64 t, .slice A l.length c] w (StrsPost w (namesD t l)) := by
  have C := rCanD_any t A l c w hS hc hcm
  cases hcan : canD t l with
  | false =>
    rw [hcan] at C
    have C := Lib.hid C
    have HN := Lib.hid (namesD_no hcan)
    clear hcan
    go_enter Tryd.func77, Tryd.ntmps77
    go_wp2_with fail
    refine C.out.mono ?_
    rintro e w1 ⟨rfl, b1⟩
    go_wp2_with fail
    go_ret
    rw [HN.out]
    exact ⟨none, 0, rfl, fun h => absurd h (by simp), by simp, b1⟩
  | true =>
    rw [hcan] at C
    have C := Lib.hid C
    have hin := namesD_in hcan
    by_cases en : t = 2 ∨ t = 5 ∨ t = 12
    · rw [if_pos en] at hin
      have HI := Lib.hid hin
      have hst := Lib.hid (fun W (hW : Bys W A l) => string_bys A l c W hW)
      clear hin hcan
      rcases en with rfl | rfl | rfl
      all_goals
        go_enter Tryd.func77, Tryd.ntmps77
        go_wp2_with fail
        refine C.out.mono ?_
        rintro e w1 ⟨rfl, b1⟩
        have hs := hst.out w1 (hS.on b1)
        go_wp2_with fail
        go_ret
        rw [HI.out]
        exact ⟨_, _, rfl, strs_one, by simp, Below.alloc b1 b1.size _⟩
    rw [if_neg en] at hin
    have T2 : (t == 2) = false := by simp; omega
    have T5 : (t == 5) = false := by simp; omega
    have T12 : (t == 12) = false := by simp; omega
    clear en
    by_cases e15 : t = 15
    · subst e15
      rw [if_pos rfl] at hin
      have h3 := canD_mx hcan
      have HI := Lib.hid hin
      obtain ⟨B, r2, S2, _⟩ := slice_bys A l c 2 2 w hS (by omega) hc rfl
      have hst := Lib.hid (fun W (hW : Bys W B (l.drop 2)) => string_bys B (l.drop 2) (c - 2) W hW)
      obtain ⟨q, hq⟩ : ∃ q, q = l.drop 2 := ⟨_, rfl⟩
      rw [← hq] at r2 hst HI S2
      clear hin hcan T2 T5 T12 hq h3
      go_enter Tryd.func77, Tryd.ntmps77
      go_wp2_with fail
      refine C.out.mono ?_
      rintro e w1 ⟨rfl, b1⟩
      have hs := hst.out w1 (S2.on b1)
      clear S2 hst
      generalize q.length = z at *
      go_wp2_with fail
      go_ret
      rw [HI.out]
      exact ⟨_, _, rfl, strs_one, by simp, Below.alloc b1 b1.size _⟩
    rw [if_neg e15] at hin
    have T15 : (t == 15) = false := by simp [e15]
    clear e15
    by_cases e6 : t = 6
    · subst e6
      rw [if_pos rfl] at hin
      obtain ⟨s, hs⟩ := canD_soa hcan
      have R := Lib.hid (fun W (hW : Bys W A l) => rSOA_any A l c W hW hc hcm)
      unfold SoaPost at R
      rw [hs] at R hin
      simp only at hin
      have HI := Lib.hid hin
      clear hin hcan T2 T5 T12 T15
      go_enter Tryd.func77, Tryd.ntmps77
      go_wp2_with fail
      refine C.out.mono ?_
      rintro e w1 ⟨rfl, b1⟩
      go_wp2_with fail
      refine (R.out _ (hS.on b1)).mono ?_
      rintro e w2 ⟨rfl, b2⟩
      have b3 : Below w.heap.size w w2 := Below.trans b1 (b2.mono b1.size)
      clear b1 b2 R
      have hrow0 := row_new (w := w2) (k := w2.heap.size) (.cells (soaC none) 148 (0, 0)) rfl
      have bw : Below w.heap.size w (w2.alloc (.cells (soaC none) 148)) := Below.alloc b3 b3.size _
      rw [soaC_none] at hrow0 bw
      have hrow2 := setRow_heap _ _ _ (soaC (some s)) _ _ hrow0
      have z0 := (cell_of_row _ w2.heap.size 0 _ _ _ hrow2).trans (show (soaC (some s))[0]? = some (.string (bs s.m)) from rfl)
      have z1 := (cell_of_row _ w2.heap.size 1 _ _ _ hrow2).trans (show (soaC (some s))[1]? = some (.string (bs s.r)) from rfl)
      go_wp2_with (first
        | (refine wpList_store_row rfl 148 (.tmp 5) (.tmp 30) rfl w2.heap.size (soaC (some s)) rfl rfl 148 _ hrow0 (soa_info (soaC_size _)) (by rw [soaC_size]; rfl) (soaC_one _) ?_)
        | fail)
      go_ret
      rw [HI.out]
      exact ⟨_, _, rfl, strs_two (by simp), by simp, Below.alloc (Below.setRow bw b3.size _) (by rw [size_setRow]; exact bw.size) _⟩
    rw [if_neg e6] at hin
    have T6 : (t == 6) = false := by simp [e6]
    have HI := Lib.hid hin
    clear e6 hin
    go_enter Tryd.func77, Tryd.ntmps77
    go_wp2_with fail
    refine C.out.mono ?_
    rintro e w1 ⟨rfl, b1⟩
    go_wp2_with fail
    go_ret
    rw [HI.out]
    exact ⟨none, 0, rfl, fun h => absurd h (by simp), by simp, b1⟩
end Go.Proofs.YtknpkifhkefikaaDoor
