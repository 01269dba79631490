/-
  Lists of records, of questions the same.
-/
import Derived.Test.YtbeggckkgaoacaaWmB
import Derived.Laws.StructEq
import Derived.BigQuiet
namespace Go.Proofs.Ytbeggckkgaoacaa
open Go.RowKit
set_option linter.unusedVariables false
set_option maxRecDepth 100000

def rrZ : Array Value := #[.string ⟨#[]⟩, .int .i64 0, .int .i64 0, .int .i64 0, .slice none 0 0]
theorem rrZ_lit : rrZ = #[.string ⟨#[]⟩, .int .i64 0, .int .i64 0, .int .i64 0, .slice none 0 0] := rfl
set_option maxHeartbeats 400000 in
set_option maxRecDepth 100000 in
theorem EqualF_any (G : FuncId) (hE : ∀ (args : Array Value) (w : World), (callFunc G args).run Try.prog w = .ok (.enter G args) w) (hG : ∀ (a b : Rr) (A B : Option Addr) (c d : Nat) (W : World), Bys W A a.d → Bys W B b.d → Calls Try.prog G #[.agg (rrC a A c), .agg (rrC b B d)] W fun e w' => e = .returned (.bool (sameR a b)) ∧ Below W.heap.size W w')
    (A1 A2 : Option Addr) (L1 L2 : List Rr) (c1 c2 : Nat) (w : World) (h1 : Rs w A1 L1) (h2 : Rs w A2 L2) (hm : L1.length ≤ 9223372036854775807) :
    Calls Try.prog 42 #[.slice A1 L1.length c1, .slice A2 L2.length c2, .func (.func G) #[] #[]] w fun e w' => e = .returned (.bool (sameL sameR L1 L2)) ∧ Below w.heap.size w w' := by
  by_cases hne : L1.length = L2.length
  · have HT : Hid (sameL sameR L1 L2 = sameL sameR (L1.drop 0) (L2.drop 0)) := Lib.hid rfl
    obtain ⟨n, hn⟩ : ∃ n, n = L1.length := ⟨_, rfl⟩
    rw [← hne, ← hn]
    rw [← hn] at hm
    have E1 := Lib.hid hn
    have E2 := Lib.hid (hn.trans hne)
    have HGG := Lib.hid hG
    clear hn hne hG
    go_enter Try.func42, Try.ntmps42
    go_wp2_with fail
    go_loopw [17] (fun v wr => ∃ k : Nat, v = .int .i64 k ∧ k ≤ n ∧ Below w.heap.size w wr ∧ Hid (sameL sameR L1 L2 = sameL sameR (L1.drop k) (L2.drop k))) (fun v _ => n - (intOf v).toNat)
    case atStart => exact ⟨0, rfl, by omega, Below.refl _ _, HT⟩
    case round =>
      clear HT
      obtain ⟨k, rfl, hk, hB, hT⟩ := hrel
      by_cases hlt : k < n
      · have e1 := E1.out
        have e2 := E2.out
        obtain ⟨g1, o1, rfl, hc1⟩ := id h1 (by omega)
        obtain ⟨g2, o2, rfl, hc2⟩ := id h2 (by omega)
        have k1 : k < L1.length := by omega
        have k2 : k < L2.length := by omega
        obtain ⟨a1, d1, D1, R1⟩ := hc1 k k1
        obtain ⟨a2, d2, D2, R2⟩ := hc2 k k2
        have hT2 := hT.out
        rw [sameL_at k1 k2] at hT2
        have hlt' : (k : Int) < (n : Int) := by omega
        obtain ⟨x1, hx1⟩ : ∃ x, x = L1[k] := ⟨_, rfl⟩
        obtain ⟨x2, hx2⟩ : ∃ x, x = L2[k] := ⟨_, rfl⟩
        rw [← hx1] at D1 R1 hT2
        rw [← hx2] at D2 R2 hT2
        have HT := Lib.hid hT2
        have R1' := range_on R1 hB
        have R2' := range_on R2 hB
        have hsz := hB.size
        have hB' := hB
        have HC := Lib.hid (fun W (b1 : Bys W a1 x1.d) (b2 : Bys W a2 x2.d) => HGG.out x1 x2 a1 a2 d1 d2 W b1 b2)
        unfold rrC at HC
        have i1 : Hid ((Try.prog.info? 39).map (·.size) = some (rrL x1 a1 d1).toArray.size) := Lib.hid info_rr
        have i2 : Hid ((Try.prog.info? 39).map (·.size) = some (rrL x2 a2 d2).toArray.size) := Lib.hid info_rr
        have j1 : Hid ((Try.prog.info? 39).map (·.size) = some (rrL x1 a1 d1).length) := Lib.hid info_rr
        have j2 : Hid ((Try.prog.info? 39).map (·.size) = some (rrL x2 a2 d2).length) := Lib.hid info_rr
        have one1 := Lib.hid (rr_one x1 a1 d1)
        have one2 := Lib.hid (rr_one x2 a2 d2)
        unfold rrC at one1 one2
        have z1 : Hid ((rrZ).size = (rrL x1 a1 d1).toArray.size) := Lib.hid rfl
        have z2 : Hid ((rrZ).size = (rrL x2 a2 d2).toArray.size) := Lib.hid rfl
        have B1 := D1.bys
        have B2 := D2.bys
        clear hx1 hx2 hT hT2 hc1 hc2 k1 k2 e1 e2 R1 R2 D1 D2 HGG
        generalize rrL x1 a1 d1 = l1 at *
        generalize rrL x2 a2 d2 = l2 at *
        have rZ := row_new (w := wr) (k := wr.heap.size) (.cells rrZ 39 (0, 0)) rfl
        have r8 := setRow_heap _ _ _ l1.toArray _ _ rZ
        have q1 : Below wr.heap.size wr ((wr.alloc (.cells rrZ 39)).setRow wr.heap.size l1.toArray) := Below.setRow (Below.alloc (Below.refl _ _) (Nat.le_refl _) _) (Nat.le_refl _) _
        have R2'' := range_on R2' q1
        have sz1 : ((wr.alloc (.cells rrZ 39)).setRow wr.heap.size l1.toArray).heap.size = wr.heap.size + 1 := by rw [size_setRow]; simp
        rw [rrZ_lit] at rZ r8 q1 R2'' sz1
        obtain ⟨W1, hW1⟩ : ∃ W1, W1 = (wr.alloc (.cells #[.string ⟨#[]⟩, .int .i64 0, .int .i64 0, .int .i64 0, .slice none 0 0] 39)).setRow wr.heap.size l1.toArray := ⟨_, rfl⟩
        rw [← hW1] at r8 q1 R2'' sz1
        have rY := row_new (w := W1) (k := W1.heap.size) (.cells #[.string ⟨#[]⟩, .int .i64 0, .int .i64 0, .int .i64 0, .slice none 0 0] 39 (0, 0)) rfl
        have r9 := setRow_heap _ _ _ l2.toArray _ _ rY
        have q2 : Below W1.heap.size W1 ((W1.alloc (.cells #[.string ⟨#[]⟩, .int .i64 0, .int .i64 0, .int .i64 0, .slice none 0 0] 39)).setRow W1.heap.size l2.toArray) := Below.setRow (Below.alloc (Below.refl _ _) (Nat.le_refl _) _) (Nat.le_refl _) _
        have r8' := (q2.block _ (by omega)).trans r8
        have qq := Below.trans q1 (q2.mono q1.size)
        have qw := Below.trans hB (qq.mono hsz)
        obtain ⟨W2, hW2⟩ : ∃ W2, W2 = (W1.alloc (.cells #[.string ⟨#[]⟩, .int .i64 0, .int .i64 0, .int .i64 0, .slice none 0 0] 39)).setRow W1.heap.size l2.toArray := ⟨_, rfl⟩
        rw [← hW2] at r9 r8' qq qw
        have B1' := (B1.on hB').on qq
        have B2' := (B2.on hB').on qq
        have HW1 := Lib.hid hW1
        have HW2 := Lib.hid hW2
        clear r8 q1 q2 sz1 hW1 hW2 B1 B2 qq hB hB' hsz h1 h2
        go_wp2_with (first
          | (refine wpList_load_mid rfl 39 (.tmp 20) rfl g1 (o1 + k * 5) rfl l1 _ R1' Try.underlying39 rfl j1.out ?_)
          | (refine wpList_load_mid rfl 39 (.tmp 24) rfl g2 (o2 + k * 5) rfl l2 _ R2'' Try.underlying39 rfl j2.out ?_)
          | (refine wpList_store_row rfl 39 (.tmp 8) (.tmp 21) rfl wr.heap.size l1.toArray rfl rfl 39 _ rZ i1.out (by first | exact z1.out | exact z1.out.symm) one1.out ?_; rw [← HW1.out])
          | (refine wpList_store_row rfl 39 (.tmp 9) (.tmp 25) rfl W1.heap.size l2.toArray rfl rfl 39 _ rY i2.out (by first | exact z2.out | exact z2.out.symm) one2.out ?_; rw [← HW2.out])
          | (refine wpList_load_row rfl 39 (.tmp 8) rfl wr.heap.size rfl 39 l1.toArray (0, 0) _ r8' Try.underlying39 rfl i1.out ?_)
          | (refine wpList_load_row rfl 39 (.tmp 9) rfl W1.heap.size rfl 39 l2.toArray (0, 0) _ r9 Try.underlying39 rfl i2.out ?_)
          | fail)
        refine (HC.out _ B1' B2').mono ?_
        rintro e w3 ⟨rfl, b3⟩
        have bb := Below.trans qw (b3.mono qw.size)
        cases hv : sameR x1 x2 with
        | true =>
          have HT2 := Lib.hid (show sameL sameR L1 L2 = sameL sameR (L1.drop (k + 1)) (L2.drop (k + 1)) by rw [HT.out, hv]; rfl)
          clear HT hv
          go_wp2_with fail
          go_roundw
          case rel => exact ⟨k + 1, by go_num, by omega, bb, HT2⟩
          case measure => simp [intOf]; omega
        | false =>
          have HT2 := Lib.hid (show sameL sameR L1 L2 = false by rw [HT.out, hv]; rfl)
          clear HT hv
          go_wp2_with fail
          go_ret
          exact ⟨by rw [HT2.out]; rfl, bb⟩
      · obtain rfl : k = n := by omega
        have HT := Lib.hid (hT.out.trans (sameL_end (by have := E1.out; omega) (by have := E2.out; omega)))
        clear hT h1 h2
        go_wp2_with fail
        go_ret
        exact ⟨by rw [HT.out]; rfl, hB⟩
  · have HT := Lib.hid (sameL_len (f := sameR) hne)
    have hne' : ((L1.length : Int) != (L2.length : Int)) = true := by rw [bne_iff_ne]; omega
    clear hG hE h1 h2 hne
    generalize L1.length = n1 at *
    generalize L2.length = n2 at *
    go_enter Try.func42, Try.ntmps42
    go_wp2_with fail
    go_ret
    exact ⟨by rw [HT.out]; rfl, Below.refl _ _⟩

theorem SameRRs_any (A1 A2 : Option Addr) (L1 L2 : List Rr) (c1 c2 : Nat) (w : World) (h1 : Rs w A1 L1) (h2 : Rs w A2 L2) (hm : L1.length ≤ 9223372036854775807) :
    Calls Try.prog 14 #[.slice A1 L1.length c1, .slice A2 L2.length c2] w fun e w' => e = .returned (.bool (sameL sameR L1 L2)) ∧ Below w.heap.size w w' := by
  have E := Lib.hid (EqualF_any 43 (run_enter Try.func43 (by kernel_rfl) (by kernel_rfl)) sameRR_any A1 A2 L1 L2 c1 c2 w h1 h2 hm)
  clear h1 h2 hm
  generalize sameL sameR L1 L2 = r at *
  go_enter Try.func14, Try.ntmps14
  go_wp2_with fail
  refine E.out.mono ?_
  rintro e w1 ⟨rfl, b1⟩
  go_wp2_with fail
  go_ret
  exact ⟨rfl, b1⟩
end Go.Proofs.Ytbeggckkgaoacaa
