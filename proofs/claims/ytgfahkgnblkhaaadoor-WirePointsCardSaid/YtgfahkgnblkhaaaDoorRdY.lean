/-
  The document's SOA (layer 3).
-/
import Derived.Test.YtgfahkgnblkhaaaDoorRdX
import Derived.Test.YtgfahkgnblkhaaaDoorQt
import Derived.Laws.ResultCell
namespace Go.Proofs.YtgfahkgnblkhaaaDoor
open Go.RowKit
set_option linter.unusedVariables false
set_option maxRecDepth 100000

/-- What the data of an SOA say, as cells. -/
def soaC : Option Soa → Array Value
  | none => #[.string ⟨#[]⟩, .string ⟨#[]⟩, .int .i64 0, .int .i64 0, .int .i64 0, .int .i64 0, .int .i64 0]
  | some s => #[.string (bs s.m), .string (bs s.r), .int .i64 s.a, .int .i64 s.b, .int .i64 s.c, .int .i64 s.d, .int .i64 s.e]
def SoaPost (w : World) (l : Bs) (e : Ending) (w' : World) : Prop := e = .returned (.tuple #[.agg (soaC (soa l)), .bool (soa l).isSome]) ∧ Below w.heap.size w w'

theorem heap_lt3 {w : World} {g : Nat} {o : Obj} (h : w.heap[g]? = some o) : g < w.heap.size := (Array.getElem?_eq_some_iff.1 h).1
theorem soa_none1 {l : Bs} (h : nameLen l = none) : soa l = none := by unfold soa; rw [h]
theorem soa_none2 {l : Bs} {i : Nat} (h : nameLen l = some i) (h2 : nameLen (l.drop i) = none) : soa l = none := by unfold soa; rw [h]; simp only; rw [h2]
theorem soa_at {l : Bs} {i j : Nat} (h : nameLen l = some i) (h2 : nameLen (l.drop i) = some j) : soa l = if l.length = i + j + 20 then some ⟨l.take i, (l.drop i).take j, four (l.drop (i + j)), four (l.drop (i + j + 4)), four (l.drop (i + j + 8)), four (l.drop (i + j + 12)), four (l.drop (i + j + 16))⟩ else none := by unfold soa; rw [h]; simp only; rw [h2]

theorem soaC_size (o : Option Soa) : (soaC o).size = 7 := by cases o <;> rfl
theorem soaC_one (o : Option Soa) : (soaC o).all (·.oneCell') = true := by cases o <;> simp [soaC, Value.oneCell']
theorem soa_info {n : Nat} (h : n = 7) : (Tryd.prog.info? 135).map (·.size) = some n := by subst h; kernel_rfl
theorem results_soa {c : Value} {tmps : Array Value} {W : World} {g : Nat} {cs : Array Value} (h2 : tmps.getD 2 undef = .pointer (some ⟨g, 0, none⟩)) (h3 : tmps.getD 3 undef = c)
    (r2 : W.heap[g]? = some (.cells cs 135 (0, 0))) (hs : cs.size = 7) :
    (results Tryd.f74 tmps).run Tryd.prog W = .ok (.tuple #[.agg cs, c]) W := by
  have q0 : (loadVar 135 ⟨g, 0, none⟩).run Tryd.prog W = .ok (.agg cs) W := run_loadVar_row W g 135 135 cs (0, 0) _ r2 Tryd.underlying135 rfl (soa_info hs)
  subst h3
  have h2' : tmps[2]?.getD undef = .pointer (some ⟨g, 0, none⟩) := by simpa using h2
  simp [results, Tryd.results74, asAddr, h2', q0]

set_option maxHeartbeats 4000000 in
set_option maxRecDepth 100000 in
theorem rSOA_any (A : Option Addr) (l : Bs) (c : Nat) (w : World) (hS : Bys w A l) (hc : l.length ≤ c) (hcm : c ≤ 9223372036854775807) : Calls Tryd.prog 74 #[.slice A l.length c] w (SoaPost w l) := by
  have hZ0 : soaC none = #[.string ⟨#[]⟩, .string ⟨#[]⟩, .int .i64 0, .int .i64 0, .int .i64 0, .int .i64 0, .int .i64 0] := rfl
  go_enter Tryd.func74, Tryd.ntmps74
  go_wp2_with fail
  have bw : Below w.heap.size w (w.alloc (.cells (soaC none) 135)) := Below.alloc (Below.refl _ _) (Nat.le_refl _) _
  have hrow0 := row_new (w := w) (k := w.heap.size) (.cells (soaC none) 135 (0, 0)) rfl
  rw [hZ0] at bw hrow0
  clear hZ0
  refine (rFirst_any A l c _ (hS.on bw) hc hcm).mono ?_
  rintro e w1 (⟨hn, rfl, b1⟩ | ⟨i, A1, c1, hn, rfl, hS1, hc1, hm1, b1⟩)
  · have HZ := Lib.hid (soa_none1 hn)
    have hrow := (b1.block _ (heap_lt3 hrow0)).trans hrow0
    have b2 : Below w.heap.size w w1 := Below.trans bw (b1.mono bw.size)
    clear hn hrow0 b1 bw
    go_wp2_with (first
      | (refine wpList_store_row rfl 135 (.tmp 2) (.tmp 16) rfl w.heap.size (soaC none) rfl rfl 135 _ hrow (soa_info rfl) rfl (soaC_one none) ?_)
      | fail)
    refine bodyPost_ret (v := .tuple #[.agg (soaC none), .bool false]) (results_soa (g := w.heap.size) rfl rfl (setRow_heap _ _ _ _ _ _ hrow) rfl) rfl ?_
    exact ⟨by rw [HZ.out]; rfl, Below.setRow b2 (Nat.le_refl _) _⟩
  · have hrow1 := (b1.block _ (heap_lt3 hrow0)).trans hrow0
    have b2 : Below w.heap.size w w1 := Below.trans bw (b1.mono bw.size)
    have HN := Lib.hid hn
    clear hn hrow0 b1 bw
    obtain ⟨x, hx⟩ : ∃ x, x = l.drop i := ⟨_, rfl⟩
    rw [← hx] at hS1 hc1
    rw [← hx]
    have HX := Lib.hid hx
    have hxl : x.length = l.length - i := by rw [hx, List.length_drop]
    have hil := nameLen_le HN.out
    have HXL := Lib.hid hxl
    clear hx hxl
    have hx1 : x.length ≤ 9223372036854775807 := by have := HXL.out; omega
    go_wp2_with fail
    refine (rFirst_any A1 x c1 _ hS1 hc1 hm1).mono ?_
    rintro e w2 (⟨hn2, rfl, b3⟩ | ⟨j, A2, c2, hn2, rfl, hS2, hc2, hm2, b3⟩)
    · have HZ := Lib.hid (soa_none2 HN.out (by rw [← HX.out]; exact hn2))
      have hrow := (b3.block _ (heap_lt3 hrow1)).trans hrow1
      have b4 : Below w.heap.size w w2 := Below.trans b2 (b3.mono b2.size)
      clear hn2 hrow1 b2 b3
      go_wp2_with (first
        | (refine wpList_store_row rfl 135 (.tmp 2) (.tmp 30) rfl w.heap.size (soaC none) rfl rfl 135 _ hrow (soa_info rfl) rfl (soaC_one none) ?_)
        | fail)
      refine bodyPost_ret (v := .tuple #[.agg (soaC none), .bool false]) (results_soa (g := w.heap.size) rfl rfl (setRow_heap _ _ _ _ _ _ hrow) rfl) rfl ?_
      exact ⟨by rw [HZ.out]; rfl, Below.setRow b4 (Nat.le_refl _) _⟩
    · have hrow := (b3.block _ (heap_lt3 hrow1)).trans hrow1
      have b4 : Below w.heap.size w w2 := Below.trans b2 (b3.mono b2.size)
      have hsoa := soa_at HN.out (by rw [← HX.out]; exact hn2)
      have hjl := nameLen_le hn2
      have hyl : (x.drop j).length = x.length - j := List.length_drop
      obtain ⟨y, hy⟩ : ∃ y, y = x.drop j := ⟨_, rfl⟩
      rw [← hy] at hS2 hc2 hyl
      rw [← hy]
      clear hrow1 b2 b3 hn2
      by_cases h20 : y.length = 20
      · rw [if_pos (by have := HXL.out; omega)] at hsoa
        have hd : ∀ k, l.drop (i + j + k) = y.drop k := fun k => by rw [hy, HX.out, List.drop_drop, List.drop_drop]; congr 1; omega
        have hd0 : l.drop (i + j) = y := by have := hd 0; simpa using this
        rw [hd 4, hd 8, hd 12, hd 16, hd0, ← HX.out] at hsoa
        have HSO := Lib.hid hsoa
        obtain ⟨B4, r4, S4, _⟩ := slice_bys A2 y c2 4 4 w2 hS2 (by omega) hc2 rfl
        obtain ⟨B8, r8, S8, _⟩ := slice_bys A2 y c2 8 8 w2 hS2 (by omega) hc2 rfl
        obtain ⟨B12, r12, S12, _⟩ := slice_bys A2 y c2 12 12 w2 hS2 (by omega) hc2 rfl
        obtain ⟨B16, r16, S16, _⟩ := slice_bys A2 y c2 16 16 w2 hS2 (by omega) hc2 rfl
        have L4 : (y.drop 4).length = 16 := by rw [List.length_drop]; omega
        have L8 : (y.drop 8).length = 12 := by rw [List.length_drop]; omega
        have L12 : (y.drop 12).length = 8 := by rw [List.length_drop]; omega
        have L16 : (y.drop 16).length = 4 := by rw [List.length_drop]; omega
        have F0 := Lib.hid (fun W (hW : Bys W A2 y) => rfour_any A2 y 20 c2 W hW h20.symm (by omega))
        have F4 := Lib.hid (fun W (hW : Bys W B4 (y.drop 4)) => rfour_any B4 (y.drop 4) 16 (c2 - 4) W hW L4.symm (by omega))
        have F8 := Lib.hid (fun W (hW : Bys W B8 (y.drop 8)) => rfour_any B8 (y.drop 8) 12 (c2 - 8) W hW L8.symm (by omega))
        have F12 := Lib.hid (fun W (hW : Bys W B12 (y.drop 12)) => rfour_any B12 (y.drop 12) 8 (c2 - 12) W hW L12.symm (by omega))
        have F16 := Lib.hid (fun W (hW : Bys W B16 (y.drop 16)) => rfour_any B16 (y.drop 16) 4 (c2 - 16) W hW L16.symm (by omega))
        rw [L4, h20] at r4
        rw [L8, h20] at r8
        rw [L12, h20] at r12
        rw [L16, h20] at r16
        rw [h20]
        clear hsoa hd hd0 hyl L4 L8 L12 L16 hc hcm hc1 hc2 hx1 hy
        go_wp2_with fail
        refine wp_region_quiet_tail 17 (by kernel_rfl) (by kernel_rfl) ?_
        simp only [List.take_succ_cons, List.take_zero, List.drop_succ_cons, List.drop_zero]
        repeat (go_big_quiet_step ((first
          | (go_at_call 102; (with_reducible refine Calls.quiet_of (F0.out _ ?_)); exact hS2.on (below_drewN (Below.refl _ _) _))
          | (go_at_call 102; (with_reducible refine Calls.quiet_of (F4.out _ ?_)); exact S4.on (below_drewN (Below.refl _ _) _))
          | (go_at_call 102; (with_reducible refine Calls.quiet_of (F8.out _ ?_)); exact S8.on (below_drewN (Below.refl _ _) _))
          | (go_at_call 102; (with_reducible refine Calls.quiet_of (F12.out _ ?_)); exact S12.on (below_drewN (Below.refl _ _) _))
          | (go_at_call 102; (with_reducible refine Calls.quiet_of (F16.out _ ?_)); exact S16.on (below_drewN (Below.refl _ _) _)))))
        refine wpQuiet_nil ?_
        intro w3 hw3
        obtain ⟨nq, rfl⟩ := hw3
        have hrow' : (w2.drewN nq).heap[w.heap.size]? = some (.cells (soaC none) 135 (0, 0)) := hrow
        have b5 := below_drewN b4 nq
        clear r4 r8 r12 r16 S4 S8 S12 S16 F0 F4 F8 F12 F16 hS2 hS1 hS hrow b4
        generalize w2.drewN nq = w4 at *
        obtain ⟨s, hs⟩ : ∃ s : Soa, s = { m := l.take i, r := x.take j, a := four y, b := four (y.drop 4), c := four (y.drop 8), d := four (y.drop 12), e := four (y.drop 16) } := ⟨_, rfl⟩
        rw [← hs] at HSO
        have HSS := Lib.hid hs
        clear hs
        refine wpList_store_row rfl 135 (.tmp 2) (.tmp 47) rfl w.heap.size (soaC (some s)) rfl (by rw [HSS.out]; rfl) 135 _ hrow' (soa_info (soaC_size _)) (by rw [soaC_size, soaC_size]) (soaC_one _) ?_
        go_wp2_with fail
        refine bodyPost_ret (v := .tuple #[.agg (soaC (some s)), .bool true]) (results_soa (g := w.heap.size) rfl rfl (setRow_heap _ _ _ _ _ _ hrow') (soaC_size _)) rfl ?_
        exact ⟨by rw [HSO.out]; rfl, Below.setRow b5 (Nat.le_refl _) _⟩
      · rw [if_neg (by have := HXL.out; omega)] at hsoa
        have HZ := Lib.hid hsoa
        have hne : ((y.length : Int) != 20) = true := by rw [bne_iff_ne]; omega
        clear hsoa
        go_wp2_with (first
          | (refine wpList_store_row rfl 135 (.tmp 2) (.tmp 30) rfl w.heap.size (soaC none) rfl rfl 135 _ hrow (soa_info rfl) rfl (soaC_one none) ?_)
          | fail)
        refine bodyPost_ret (v := .tuple #[.agg (soaC none), .bool false]) (results_soa (g := w.heap.size) rfl rfl (setRow_heap _ _ _ _ _ _ hrow) rfl) rfl ?_
        exact ⟨by rw [HZ.out]; rfl, Below.setRow b4 (Nat.le_refl _) _⟩
end Go.Proofs.YtgfahkgnblkhaaaDoor
