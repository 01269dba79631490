/-
  Two records the same: wire.sameRecord, and the statements' own.
  Lists of records, of questions the same.
  Lists of questions the same: slices.Equal.
  Two messages the same: wire.Same, and the statements' own.
-/
import Derived.Test.YtknpkifhkefikaaDoorWmA
import Derived.Laws.StructEq
import Derived.BigQuiet
import Derived.Deep.QuietTactic
namespace Go.Proofs.YtknpkifhkefikaaDoor
open Go.RowKit
set_option linter.unusedVariables false
set_option maxRecDepth 100000

theorem sameR_1 {a b : Rr} (h : a.n ≠ b.n) : sameR a b = false := by simp [sameR, h]
theorem sameR_2 {a b : Rr} (h : a.t ≠ b.t) : sameR a b = false := by simp [sameR, h]
theorem sameR_3 {a b : Rr} (h : a.c ≠ b.c) : sameR a b = false := by simp [sameR, h]
theorem sameR_4 {a b : Rr} (h : a.ttl ≠ b.ttl) : sameR a b = false := by simp [sameR, h]
theorem sameR_5 {a b : Rr} (h1 : a.n = b.n) (h2 : a.t = b.t) (h3 : a.c = b.c) (h4 : a.ttl = b.ttl) : sameR a b = (a.d == b.d) := by simp [sameR, h1, h2, h3, h4]

set_option maxHeartbeats 2000000 in
set_option maxRecDepth 100000 in
theorem sameRecord_any (a b : Rr) (A B : Option Addr) (c d : Nat) (w : World) (hA : Bys w A a.d) (hB : Bys w B b.d) :
    Calls Tryd.prog 51 #[.agg (rrC a A c), .agg (rrC b B d)] w fun e w' => e = .returned (.bool (sameR a b)) ∧ Below w.heap.size w w' := by
  have E := Lib.hid (fun W (h1 : Bys W A a.d) (h2 : Bys W B b.d) => EqualB_any A B a.d b.d a.d.length b.d.length c d W h1 h2 rfl rfl)
  have H1 := Lib.hid (@sameR_1 a b)
  have H2 := Lib.hid (@sameR_2 a b)
  have H3 := Lib.hid (@sameR_3 a b)
  have H4 := Lib.hid (@sameR_4 a b)
  have H5 := Lib.hid (@sameR_5 a b)
  have e0 := Lib.hid (bs_beq a.n b.n)
  generalize sameR a b = R at *
  obtain ⟨an, at', ac, attl, ad⟩ := a
  obtain ⟨bn, bt, bc, bttl, bd⟩ := b
  simp only [rrC, rrL] at *
  have ra := row_old (.cells #[.string (bs bn), .int .i64 bt, .int .i64 bc, .int .i64 bttl, .slice B bd.length d] 72 (0, 0)) (row_new (w := w) (k := w.heap.size) (.cells #[.string (bs an), .int .i64 at', .int .i64 ac, .int .i64 attl, .slice A ad.length c] 72 (0, 0)) rfl)
  have rb := row_new (w := w.alloc (.cells #[.string (bs an), .int .i64 at', .int .i64 ac, .int .i64 attl, .slice A ad.length c] 72 (0, 0))) (k := w.heap.size + 1) (.cells #[.string (bs bn), .int .i64 bt, .int .i64 bc, .int .i64 bttl, .slice B bd.length d] 72 (0, 0)) (by simp)
  have bw : Below w.heap.size w ((w.alloc (.cells #[.string (bs an), .int .i64 at', .int .i64 ac, .int .i64 attl, .slice A ad.length c] 72 (0, 0))).alloc (.cells #[.string (bs bn), .int .i64 bt, .int .i64 bc, .int .i64 bttl, .slice B bd.length d] 72 (0, 0))) := Below.alloc (Below.alloc (Below.refl _ _) (Nat.le_refl _) _) (by simp) _
  have a0 := (cell_of_row _ _ 0 _ _ _ ra).trans (show _ = some (.string (bs an)) from rfl)
  have a1 := (cell_of_row _ _ 1 _ _ _ ra).trans (show _ = some (.int .i64 at') from rfl)
  have a2 := (cell_of_row _ _ 2 _ _ _ ra).trans (show _ = some (.int .i64 ac) from rfl)
  have a3 := (cell_of_row _ _ 3 _ _ _ ra).trans (show _ = some (.int .i64 attl) from rfl)
  have a4 := (cell_of_row _ _ 4 _ _ _ ra).trans (show _ = some (.slice A ad.length c) from rfl)
  have b0 := (cell_of_row _ _ 0 _ _ _ rb).trans (show _ = some (.string (bs bn)) from rfl)
  have b1 := (cell_of_row _ _ 1 _ _ _ rb).trans (show _ = some (.int .i64 bt) from rfl)
  have b2 := (cell_of_row _ _ 2 _ _ _ rb).trans (show _ = some (.int .i64 bc) from rfl)
  have b3 := (cell_of_row _ _ 3 _ _ _ rb).trans (show _ = some (.int .i64 bttl) from rfl)
  have b4 := (cell_of_row _ _ 4 _ _ _ rb).trans (show _ = some (.slice B bd.length d) from rfl)
  clear ra rb
  have x1 := bs_toList an
  have x2 := bs_toList bn
  by_cases h1 : an = bn
  case neg =>
    have HF := H1.out h1
    have t1 : (an == bn) = false := by simp [h1]
    clear H1 H2 H3 H4 H5 E h1 e0 hA hB
    have HFH := Lib.hid HF
    clear HF
    go_enter Tryd.func51, Tryd.ntmps51
    go_wp2_with fail
    go_ret
    exact ⟨by rw [HFH.out]; rfl, bw⟩
  have t1 : (an == bn) = true := by simp [h1]
  have G1 := Lib.hid h1
  clear h1
  by_cases h2 : at' = bt
  case neg =>
    have HFH := Lib.hid (H2.out h2)
    have t2 : (at' == bt) = false := by simp [h2]
    clear H1 H2 H3 H4 H5 E h2 e0 hA hB G1
    go_enter Tryd.func51, Tryd.ntmps51
    go_wp2_with fail
    go_ret
    exact ⟨by rw [HFH.out]; rfl, bw⟩
  have t2 : (at' == bt) = true := by simp [h2]
  have G2 := Lib.hid h2
  clear h2
  by_cases h3 : ac = bc
  case neg =>
    have HFH := Lib.hid (H3.out h3)
    have t3 : (ac == bc) = false := by simp [h3]
    clear H1 H2 H3 H4 H5 E h3 e0 hA hB G1 G2
    go_enter Tryd.func51, Tryd.ntmps51
    go_wp2_with fail
    go_ret
    exact ⟨by rw [HFH.out]; rfl, bw⟩
  have t3 : (ac == bc) = true := by simp [h3]
  have G3 := Lib.hid h3
  clear h3
  by_cases h4 : attl = bttl
  case neg =>
    have HFH := Lib.hid (H4.out h4)
    have t4 : (attl == bttl) = false := by simp [h4]
    clear H1 H2 H3 H4 H5 E h4 e0 hA hB G1 G2 G3
    go_enter Tryd.func51, Tryd.ntmps51
    go_wp2_with fail
    go_ret
    exact ⟨by rw [HFH.out]; rfl, bw⟩
  have t4 : (attl == bttl) = true := by simp [h4]
  have G4 := Lib.hid h4
  clear h4
  have HFH := Lib.hid (H5.out G1.out G2.out G3.out G4.out)
  have hA' := hA.on bw
  have hB' := hB.on bw
  clear H1 H2 H3 H4 H5 G1 G2 G3 G4 e0 hA hB
  go_enter Tryd.func51, Tryd.ntmps51
  go_wp2_with fail
  refine (E.out _ hA' hB').mono ?_
  rintro e w1 ⟨rfl, rfl⟩
  rw [← HFH.out]
  go_wp2_with fail
  go_ret
  exact ⟨rfl, bw⟩

set_option maxHeartbeats 2000000 in
set_option maxRecDepth 100000 in
theorem sameRR_any (a b : Rr) (A B : Option Addr) (c d : Nat) (w : World) (hA : Bys w A a.d) (hB : Bys w B b.d) :
    Calls Tryd.prog 86 #[.agg (rrC a A c), .agg (rrC b B d)] w fun e w' => e = .returned (.bool (sameR a b)) ∧ Below w.heap.size w w' := by
  have E := Lib.hid (fun W (h1 : Bys W A a.d) (h2 : Bys W B b.d) => EqualB_any A B a.d b.d a.d.length b.d.length c d W h1 h2 rfl rfl)
  have H1 := Lib.hid (@sameR_1 a b)
  have H2 := Lib.hid (@sameR_2 a b)
  have H3 := Lib.hid (@sameR_3 a b)
  have H4 := Lib.hid (@sameR_4 a b)
  have H5 := Lib.hid (@sameR_5 a b)
  have e0 := Lib.hid (bs_beq a.n b.n)
  generalize sameR a b = R at *
  obtain ⟨an, at', ac, attl, ad⟩ := a
  obtain ⟨bn, bt, bc, bttl, bd⟩ := b
  simp only [rrC, rrL] at *
  have ra := row_old (.cells #[.string (bs bn), .int .i64 bt, .int .i64 bc, .int .i64 bttl, .slice B bd.length d] 72 (0, 0)) (row_new (w := w) (k := w.heap.size) (.cells #[.string (bs an), .int .i64 at', .int .i64 ac, .int .i64 attl, .slice A ad.length c] 72 (0, 0)) rfl)
  have rb := row_new (w := w.alloc (.cells #[.string (bs an), .int .i64 at', .int .i64 ac, .int .i64 attl, .slice A ad.length c] 72 (0, 0))) (k := w.heap.size + 1) (.cells #[.string (bs bn), .int .i64 bt, .int .i64 bc, .int .i64 bttl, .slice B bd.length d] 72 (0, 0)) (by simp)
  have bw : Below w.heap.size w ((w.alloc (.cells #[.string (bs an), .int .i64 at', .int .i64 ac, .int .i64 attl, .slice A ad.length c] 72 (0, 0))).alloc (.cells #[.string (bs bn), .int .i64 bt, .int .i64 bc, .int .i64 bttl, .slice B bd.length d] 72 (0, 0))) := Below.alloc (Below.alloc (Below.refl _ _) (Nat.le_refl _) _) (by simp) _
  have a0 := (cell_of_row _ _ 0 _ _ _ ra).trans (show _ = some (.string (bs an)) from rfl)
  have a1 := (cell_of_row _ _ 1 _ _ _ ra).trans (show _ = some (.int .i64 at') from rfl)
  have a2 := (cell_of_row _ _ 2 _ _ _ ra).trans (show _ = some (.int .i64 ac) from rfl)
  have a3 := (cell_of_row _ _ 3 _ _ _ ra).trans (show _ = some (.int .i64 attl) from rfl)
  have a4 := (cell_of_row _ _ 4 _ _ _ ra).trans (show _ = some (.slice A ad.length c) from rfl)
  have b0 := (cell_of_row _ _ 0 _ _ _ rb).trans (show _ = some (.string (bs bn)) from rfl)
  have b1 := (cell_of_row _ _ 1 _ _ _ rb).trans (show _ = some (.int .i64 bt) from rfl)
  have b2 := (cell_of_row _ _ 2 _ _ _ rb).trans (show _ = some (.int .i64 bc) from rfl)
  have b3 := (cell_of_row _ _ 3 _ _ _ rb).trans (show _ = some (.int .i64 bttl) from rfl)
  have b4 := (cell_of_row _ _ 4 _ _ _ rb).trans (show _ = some (.slice B bd.length d) from rfl)
  clear ra rb
  have x1 := bs_toList an
  have x2 := bs_toList bn
  by_cases h1 : an = bn
  case neg =>
    have HF := H1.out h1
    have t1 : (an == bn) = false := by simp [h1]
    clear H1 H2 H3 H4 H5 E h1 e0 hA hB
    have HFH := Lib.hid HF
    clear HF
    go_enter Tryd.func86, Tryd.ntmps86
    go_wp2_with fail
    go_ret
    exact ⟨by rw [HFH.out]; rfl, bw⟩
  have t1 : (an == bn) = true := by simp [h1]
  have G1 := Lib.hid h1
  clear h1
  by_cases h2 : at' = bt
  case neg =>
    have HFH := Lib.hid (H2.out h2)
    have t2 : (at' == bt) = false := by simp [h2]
    clear H1 H2 H3 H4 H5 E h2 e0 hA hB G1
    go_enter Tryd.func86, Tryd.ntmps86
    go_wp2_with fail
    go_ret
    exact ⟨by rw [HFH.out]; rfl, bw⟩
  have t2 : (at' == bt) = true := by simp [h2]
  have G2 := Lib.hid h2
  clear h2
  by_cases h3 : ac = bc
  case neg =>
    have HFH := Lib.hid (H3.out h3)
    have t3 : (ac == bc) = false := by simp [h3]
    clear H1 H2 H3 H4 H5 E h3 e0 hA hB G1 G2
    go_enter Tryd.func86, Tryd.ntmps86
    go_wp2_with fail
    go_ret
    exact ⟨by rw [HFH.out]; rfl, bw⟩
  have t3 : (ac == bc) = true := by simp [h3]
  have G3 := Lib.hid h3
  clear h3
  by_cases h4 : attl = bttl
  case neg =>
    have HFH := Lib.hid (H4.out h4)
    have t4 : (attl == bttl) = false := by simp [h4]
    clear H1 H2 H3 H4 H5 E h4 e0 hA hB G1 G2 G3
    go_enter Tryd.func86, Tryd.ntmps86
    go_wp2_with fail
    go_ret
    exact ⟨by rw [HFH.out]; rfl, bw⟩
  have t4 : (attl == bttl) = true := by simp [h4]
  have G4 := Lib.hid h4
  clear h4
  have HFH := Lib.hid (H5.out G1.out G2.out G3.out G4.out)
  have hA' := hA.on bw
  have hB' := hB.on bw
  clear H1 H2 H3 H4 H5 G1 G2 G3 G4 e0 hA hB
  go_enter Tryd.func86, Tryd.ntmps86
  go_wp2_with fail
  refine (E.out _ hA' hB').mono ?_
  rintro e w1 ⟨rfl, rfl⟩
  rw [← HFH.out]
  go_wp2_with fail
  go_ret
  exact ⟨rfl, bw⟩
end Go.Proofs.YtknpkifhkefikaaDoor
namespace Go.Proofs.YtknpkifhkefikaaDoor
open Go.RowKit
set_option linter.unusedVariables false
set_option maxRecDepth 100000

def rrZ : Array Value := #[.string ⟨#[]⟩, .int .i64 0, .int .i64 0, .int .i64 0, .slice none 0 0]
theorem rrZ_lit : rrZ = #[.string ⟨#[]⟩, .int .i64 0, .int .i64 0, .int .i64 0, .slice none 0 0] := rfl
set_option maxHeartbeats 400000 in
set_option maxRecDepth 100000 in
theorem EqualF_any (G : FuncId) (hE : ∀ (args : Array Value) (w : World), (callFunc G args).run Tryd.prog w = .ok (.enter G args) w) (hG : ∀ (a b : Rr) (A B : Option Addr) (c d : Nat) (W : World), Bys W A a.d → Bys W B b.d → Calls Tryd.prog G #[.agg (rrC a A c), .agg (rrC b B d)] W fun e w' => e = .returned (.bool (sameR a b)) ∧ Below W.heap.size W w')
    (A1 A2 : Option Addr) (L1 L2 : List Rr) (c1 c2 : Nat) (w : World) (h1 : Rs w A1 L1) (h2 : Rs w A2 L2) (hm : L1.length ≤ 9223372036854775807) :
    Calls Tryd.prog 50 #[.slice A1 L1.length c1, .slice A2 L2.length c2, .func (.func G) #[] #[]] w fun e w' => e = .returned (.bool (sameL sameR L1 L2)) ∧ Below w.heap.size w w' := by
  by_cases hne : L1.length = L2.length
  · have HT : Hid (sameL sameR L1 L2 = sameL sameR (L1.drop 0) (L2.drop 0)) := Lib.hid rfl
    obtain ⟨n, hn⟩ : ∃ n, n = L1.length := ⟨_, rfl⟩
    rw [← hne, ← hn]
    rw [← hn] at hm
    have E1 := Lib.hid hn
    have E2 := Lib.hid (hn.trans hne)
    have HGG := Lib.hid hG
    clear hn hne hG
    go_enter Tryd.func50, Tryd.ntmps50
    go_wp2_with fail
    go_loopw [17] (fun v wr => ∃ k : Nat, v = .int .i64 k ∧ k ≤ n ∧ Below w.heap.size w wr ∧ Hid (sameL sameR L1 L2 = sameL sameR (L1.drop k) (L2.drop k))) (fun v _ => n - (intOf v).toNat)
    case atStart => exact ⟨0, rfl, by omega, Below.refl _ _, HT⟩
    case round =>
      clear HT
      obtain ⟨k, rfl, hk, hB, hT⟩ := hrel
      by_cases hlt : k < n
      · have e1 := E1.out
        have e2 := E2.out
        obtain ⟨g1, o1, rfl, hc1⟩ := id h1 (by omega)
        obtain ⟨g2, o2, rfl, hc2⟩ := id h2 (by omega)
        have k1 : k < L1.length := by omega
        have k2 : k < L2.length := by omega
        obtain ⟨a1, d1, D1, R1⟩ := hc1 k k1
        obtain ⟨a2, d2, D2, R2⟩ := hc2 k k2
        have hT2 := hT.out
        rw [sameL_at k1 k2] at hT2
        have hlt' : (k : Int) < (n : Int) := by omega
        obtain ⟨x1, hx1⟩ : ∃ x, x = L1[k] := ⟨_, rfl⟩
        obtain ⟨x2, hx2⟩ : ∃ x, x = L2[k] := ⟨_, rfl⟩
        rw [← hx1] at D1 R1 hT2
        rw [← hx2] at D2 R2 hT2
        have HT := Lib.hid hT2
        have R1' := range_on R1 hB
        have R2' := range_on R2 hB
        have hsz := hB.size
        have hB' := hB
        have HC := Lib.hid (fun W (b1 : Bys W a1 x1.d) (b2 : Bys W a2 x2.d) => HGG.out x1 x2 a1 a2 d1 d2 W b1 b2)
        unfold rrC at HC
        have i1 : Hid ((Tryd.prog.info? 72).map (·.size) = some (rrL x1 a1 d1).toArray.size) := Lib.hid info_rr
        have i2 : Hid ((Tryd.prog.info? 72).map (·.size) = some (rrL x2 a2 d2).toArray.size) := Lib.hid info_rr
        have j1 : Hid ((Tryd.prog.info? 72).map (·.size) = some (rrL x1 a1 d1).length) := Lib.hid info_rr
        have j2 : Hid ((Tryd.prog.info? 72).map (·.size) = some (rrL x2 a2 d2).length) := Lib.hid info_rr
        have one1 := Lib.hid (rr_one x1 a1 d1)
        have one2 := Lib.hid (rr_one x2 a2 d2)
        unfold rrC at one1 one2
        have z1 : Hid ((rrZ).size = (rrL x1 a1 d1).toArray.size) := Lib.hid rfl
        have z2 : Hid ((rrZ).size = (rrL x2 a2 d2).toArray.size) := Lib.hid rfl
        have B1 := D1.bys
        have B2 := D2.bys
        clear hx1 hx2 hT hT2 hc1 hc2 k1 k2 e1 e2 R1 R2 D1 D2 HGG
        generalize rrL x1 a1 d1 = l1 at *
        generalize rrL x2 a2 d2 = l2 at *
        have rZ := row_new (w := wr) (k := wr.heap.size) (.cells rrZ 72 (0, 0)) rfl
        have r8 := setRow_heap _ _ _ l1.toArray _ _ rZ
        have q1 : Below wr.heap.size wr ((wr.alloc (.cells rrZ 72)).setRow wr.heap.size l1.toArray) := Below.setRow (Below.alloc (Below.refl _ _) (Nat.le_refl _) _) (Nat.le_refl _) _
        have R2'' := range_on R2' q1
        have sz1 : ((wr.alloc (.cells rrZ 72)).setRow wr.heap.size l1.toArray).heap.size = wr.heap.size + 1 := by rw [size_setRow]; simp
        rw [rrZ_lit] at rZ r8 q1 R2'' sz1
        obtain ⟨W1, hW1⟩ : ∃ W1, W1 = (wr.alloc (.cells #[.string ⟨#[]⟩, .int .i64 0, .int .i64 0, .int .i64 0, .slice none 0 0] 72)).setRow wr.heap.size l1.toArray := ⟨_, rfl⟩
        rw [← hW1] at r8 q1 R2'' sz1
        have rY := row_new (w := W1) (k := W1.heap.size) (.cells #[.string ⟨#[]⟩, .int .i64 0, .int .i64 0, .int .i64 0, .slice none 0 0] 72 (0, 0)) rfl
        have r9 := setRow_heap _ _ _ l2.toArray _ _ rY
        have q2 : Below W1.heap.size W1 ((W1.alloc (.cells #[.string ⟨#[]⟩, .int .i64 0, .int .i64 0, .int .i64 0, .slice none 0 0] 72)).setRow W1.heap.size l2.toArray) := Below.setRow (Below.alloc (Below.refl _ _) (Nat.le_refl _) _) (Nat.le_refl _) _
        have r8' := (q2.block _ (by omega)).trans r8
        have qq := Below.trans q1 (q2.mono q1.size)
        have qw := Below.trans hB (qq.mono hsz)
        obtain ⟨W2, hW2⟩ : ∃ W2, W2 = (W1.alloc (.cells #[.string ⟨#[]⟩, .int .i64 0, .int .i64 0, .int .i64 0, .slice none 0 0] 72)).setRow W1.heap.size l2.toArray := ⟨_, rfl⟩
        rw [← hW2] at r9 r8' qq qw
        have B1' := (B1.on hB').on qq
        have B2' := (B2.on hB').on qq
        have HW1 := Lib.hid hW1
        have HW2 := Lib.hid hW2
        clear r8 q1 q2 sz1 hW1 hW2 B1 B2 qq hB hB' hsz h1 h2
        go_wp2_with (first
          | (refine wpList_load_mid rfl 72 (.tmp 20) rfl g1 (o1 + k * 5) rfl l1 _ R1' Tryd.underlying72 rfl j1.out ?_)
          | (refine wpList_load_mid rfl 72 (.tmp 24) rfl g2 (o2 + k * 5) rfl l2 _ R2'' Tryd.underlying72 rfl j2.out ?_)
          | (refine wpList_store_row rfl 72 (.tmp 8) (.tmp 21) rfl wr.heap.size l1.toArray rfl rfl 72 _ rZ i1.out (by first | exact z1.out | exact z1.out.symm) one1.out ?_; rw [← HW1.out])
          | (refine wpList_store_row rfl 72 (.tmp 9) (.tmp 25) rfl W1.heap.size l2.toArray rfl rfl 72 _ rY i2.out (by first | exact z2.out | exact z2.out.symm) one2.out ?_; rw [← HW2.out])
          | (refine wpList_load_row rfl 72 (.tmp 8) rfl wr.heap.size rfl 72 l1.toArray (0, 0) _ r8' Tryd.underlying72 rfl i1.out ?_)
          | (refine wpList_load_row rfl 72 (.tmp 9) rfl W1.heap.size rfl 72 l2.toArray (0, 0) _ r9 Tryd.underlying72 rfl i2.out ?_)
          | fail)
        refine (HC.out _ B1' B2').mono ?_
        rintro e w3 ⟨rfl, b3⟩
        have bb := Below.trans qw (b3.mono qw.size)
        cases hv : sameR x1 x2 with
        | true =>
          have HT2 := Lib.hid (show sameL sameR L1 L2 = sameL sameR (L1.drop (k + 1)) (L2.drop (k + 1)) by rw [HT.out, hv]; rfl)
          clear HT hv
          go_wp2_with fail
          go_roundw
          case rel => exact ⟨k + 1, by go_num, by omega, bb, HT2⟩
          case measure => simp [intOf]; omega
        | false =>
          have HT2 := Lib.hid (show sameL sameR L1 L2 = false by rw [HT.out, hv]; rfl)
          clear HT hv
          go_wp2_with fail
          go_ret
          exact ⟨by rw [HT2.out]; rfl, bb⟩
      · obtain rfl : k = n := by omega
        have HT := Lib.hid (hT.out.trans (sameL_end (by have := E1.out; omega) (by have := E2.out; omega)))
        clear hT h1 h2
        go_wp2_with fail
        go_ret
        exact ⟨by rw [HT.out]; rfl, hB⟩
  · have HT := Lib.hid (sameL_len (f := sameR) hne)
    have hne' : ((L1.length : Int) != (L2.length : Int)) = true := by rw [bne_iff_ne]; omega
    clear hG hE h1 h2 hne
    generalize L1.length = n1 at *
    generalize L2.length = n2 at *
    go_enter Tryd.func50, Tryd.ntmps50
    go_wp2_with fail
    go_ret
    exact ⟨by rw [HT.out]; rfl, Below.refl _ _⟩

theorem SameRRs_any (A1 A2 : Option Addr) (L1 L2 : List Rr) (c1 c2 : Nat) (w : World) (h1 : Rs w A1 L1) (h2 : Rs w A2 L2) (hm : L1.length ≤ 9223372036854775807) :
    Calls Tryd.prog 47 #[.slice A1 L1.length c1, .slice A2 L2.length c2] w fun e w' => e = .returned (.bool (sameL sameR L1 L2)) ∧ Below w.heap.size w w' := by
  have E := Lib.hid (EqualF_any 86 (run_enter Tryd.func86 (by kernel_rfl) (by kernel_rfl)) sameRR_any A1 A2 L1 L2 c1 c2 w h1 h2 hm)
  clear h1 h2 hm
  generalize sameL sameR L1 L2 = r at *
  go_enter Tryd.func47, Tryd.ntmps47
  go_wp2_with fail
  refine E.out.mono ?_
  rintro e w1 ⟨rfl, b1⟩
  go_wp2_with fail
  go_ret
  exact ⟨rfl, b1⟩
end Go.Proofs.YtknpkifhkefikaaDoor
namespace Go.Proofs.YtknpkifhkefikaaDoor
open Go.RowKit
set_option linter.unusedVariables false
set_option maxRecDepth 100000

theorem eq_qu (a b : Qu) (w : World) : (Op.equalIn 10000 44 (.agg (quC a)) (.agg (quC b))).run Tryd.prog w = .ok (sameQ a b) w := by
  rw [show (10000 : Nat) = 9999 + 1 from rfl, run_equalIn_struct (P := Tryd.prog) (w := w) 9999 _ _ _ (by kernel_rfl) (by kernel_rfl)]
  have p0 : ∀ x : Qu, (part 9 (quC x) 0).run Tryd.prog w = .ok (.string (bs x.n)) w := fun x => by kernel_rfl
  have p1 : ∀ x : Qu, (part 3 (quC x) 1).run Tryd.prog w = .ok (.int .i64 x.t) w := fun x => by kernel_rfl
  have p2 : ∀ x : Qu, (part 3 (quC x) 2).run Tryd.prog w = .ok (.int .i64 x.c) w := fun x => by kernel_rfl
  have q (x y : Int) : (Op.equalIn 9999 3 (.int .i64 x) (.int .i64 y)).run Tryd.prog w = .ok (x == y) w := by
    rw [show (9999 : Nat) = 9998 + 1 from rfl, run_equalIn_int w 9998 3 .i64 .i64 x y Tryd.underlying3]
  have qs (x y : Bs) : (Op.equalIn 9999 9 (.string (bs x)) (.string (bs y))).run Tryd.prog w = .ok (x == y) w := by
    rw [show (9999 : Nat) = 9998 + 1 from rfl, run_equalIn_string w 9998 9 _ _ Tryd.underlying9, bs_toList, bs_toList]
  unfold Program.fieldsOf sameQ
  rw [Tryd.underlying44]
  by_cases h1 : (a.n == b.n) = true
  · by_cases h2 : (a.t == b.t) = true
    · by_cases h3 : (a.c == b.c) = true
      · simp [Op.eqFields, p0, p1, p2, q, qs, h1, h2, h3]
      · simp only [Bool.not_eq_true] at h3
        simp [Op.eqFields, p0, p1, p2, q, qs, h1, h2, h3]
    · simp only [Bool.not_eq_true] at h2
      simp [Op.eqFields, p0, p1, q, qs, h1, h2]
  · simp only [Bool.not_eq_true] at h1
    simp [Op.eqFields, p0, qs, h1]

/-- A question loaded whole; two questions held against each other: the walk does not open them. -/
noncomputable def loadQu (v : Value) (w : World) : Result Next := ((Instr.loadAt 44 v).run Tryd.prog w).andThen fun a w' => .ok (.value a) w'
theorem exec_loadQu (ev : Operand → Value) (d : Option Tmp) (x : Operand) (t : TypeId) (p : String) (f : Array Edge) (gd : Option (Nat × Bool)) (w : World) : (execOp ev { dst := d, op := .load 44 x, type := t, pos := p, after := f, guard := gd }).run Tryd.prog w = loadQu (ev x) w := by
  unfold execOp loadQu
  simp only [Sem.run_bind, Sem.run_pure]
theorem loadQu_mid {w1 : World} {g o : Nat} {l : List Value} (h : w1.rangeAt g o l) (hC : (Tryd.prog.info? 44).map (·.size) = some l.length) : loadQu (.pointer (some ⟨g, o, none⟩)) w1 = .ok (.value (.agg l.toArray)) w1 := by
  unfold loadQu
  rw [run_loadAt_mid w1 g o 44 l _ h Tryd.underlying44 rfl hC]
  rfl
noncomputable def neqQu (v u : Value) (w : World) : Result Next := ((do eqGuard .neq 44 (.tmp 0) (.tmp 0) v u; binOp .neq 44 v u : Sem Value).run Tryd.prog w).andThen fun a w' => .ok (.value a) w'
theorem exec_neqQu (ev : Operand → Value) (d : Option Tmp) (i j : Tmp) (ty t : TypeId) (p : String) (f : Array Edge) (gd : Option (Nat × Bool)) (w : World) : (execOp ev { dst := d, op := .binOp .neq 44 (.tmp i) (.tmp j) ty, type := t, pos := p, after := f, guard := gd }).run Tryd.prog w = neqQu (ev (.tmp i)) (ev (.tmp j)) w := by
  unfold execOp neqQu
  simp only [Sem.run_bind, Sem.run_pure]
  rfl
theorem neqQu_of (a b : Qu) (w : World) : neqQu (.agg (quL a).toArray) (.agg (quL b).toArray) w = .ok (.value (.bool (!sameQ a b))) w := by
  unfold neqQu
  have hg : (eqGuard .neq 44 (.tmp 0) (.tmp 0) (.agg (quL a).toArray) (.agg (quL b).toArray)).run Tryd.prog w = .ok () w := run_eqGuard_agg w .neq 44 _ _ _ _ (by kernel_rfl)
  have he := eq_qu a b w
  unfold quC at he
  simp only [Sem.run_bind, hg, run_neq_struct, he, Result.andThen_ok]
attribute [local go_sem ↓] exec_loadQu exec_neqQu

set_option maxHeartbeats 1000000 in
set_option maxRecDepth 100000 in
theorem EqualQ_any (A1 A2 : Option Addr) (L1 L2 : List Qu) (c1 c2 : Nat) (w : World) (h1 : Qs w A1 L1) (h2 : Qs w A2 L2) (hm : L1.length ≤ 9223372036854775807) :
    Calls Tryd.prog 46 #[.slice A1 L1.length c1, .slice A2 L2.length c2] w fun e w' => e = .returned (.bool (sameL sameQ L1 L2)) ∧ Below w.heap.size w w' := by
  by_cases hne : L1.length = L2.length
  · have HT : Hid (sameL sameQ L1 L2 = sameL sameQ (L1.drop 0) (L2.drop 0)) := Lib.hid rfl
    obtain ⟨n, hn⟩ : ∃ n, n = L1.length := ⟨_, rfl⟩
    rw [← hne, ← hn]
    rw [← hn] at hm
    have E1 := Lib.hid hn
    have E2 := Lib.hid (hn.trans hne)
    clear hn hne
    go_enter Tryd.func46, Tryd.ntmps46
    go_wp2_with fail
    go_loopw [13] (fun v wr => ∃ k : Nat, v = .int .i64 k ∧ k ≤ n ∧ Below w.heap.size w wr ∧ Hid (sameL sameQ L1 L2 = sameL sameQ (L1.drop k) (L2.drop k))) (fun v _ => n - (intOf v).toNat)
    case atStart => exact ⟨0, rfl, by omega, Below.refl _ _, HT⟩
    case round =>
      clear HT
      obtain ⟨k, rfl, hk, hB, hT⟩ := hrel
      by_cases hlt : k < n
      · have e1 := E1.out
        have e2 := E2.out
        obtain ⟨g1, o1, rfl, hc1⟩ := id h1 (by omega)
        obtain ⟨g2, o2, rfl, hc2⟩ := id h2 (by omega)
        have k1 : k < L1.length := by omega
        have k2 : k < L2.length := by omega
        have R1 := range_on (hc1 k k1) hB
        have R2 := range_on (hc2 k k2) hB
        have hT2 := hT.out
        rw [sameL_at k1 k2] at hT2
        have hlt' : (k : Int) < (n : Int) := by omega
        obtain ⟨x1, hx1⟩ : ∃ x, x = L1[k] := ⟨_, rfl⟩
        obtain ⟨x2, hx2⟩ : ∃ x, x = L2[k] := ⟨_, rfl⟩
        rw [← hx1] at R1 hT2
        rw [← hx2] at R2 hT2
        have HT := Lib.hid hT2
        have F1 := fun m => loadQu_mid (w1 := wr.drewN m) (l := quL x1) (g := g1) (o := o1 + k * 3) R1 info_qu
        have F2 := fun m => loadQu_mid (w1 := wr.drewN m) (l := quL x2) (g := g2) (o := o2 + k * 3) R2 info_qu
        have F3 := fun w => neqQu_of x1 x2 w
        clear hx1 hx2 hT hT2 hc1 hc2 k1 k2 e1 e2 R1 R2 h1 h2
        generalize sameQ x1 x2 = s at *
        generalize quL x1 = l1 at *
        generalize quL x2 = l2 at *
        cases s with
        | true =>
          have HT2 := Lib.hid (show sameL sameQ L1 L2 = sameL sameQ (L1.drop (k + 1)) (L2.drop (k + 1)) by rw [HT.out]; rfl)
          clear HT
          go_wp2_with fail
          go_quiet (fail)
          go_wp2_with fail
          go_roundw
          case rel => exact ⟨k + 1, by go_num, by omega, below_drewN hB _, HT2⟩
          case measure => simp [intOf]; omega
        | false =>
          have HT2 := Lib.hid (show sameL sameQ L1 L2 = false by rw [HT.out]; rfl)
          clear HT
          go_wp2_with fail
          go_quiet (fail)
          go_wp2_with fail
          go_ret
          exact ⟨by rw [HT2.out]; rfl, below_drewN hB _⟩
      · obtain rfl : k = n := by omega
        have HT := Lib.hid (hT.out.trans (sameL_end (by have := E1.out; omega) (by have := E2.out; omega)))
        clear hT h1 h2
        go_wp2_with fail
        go_ret
        exact ⟨by rw [HT.out]; rfl, hB⟩
  · have HT := Lib.hid (sameL_len (f := sameQ) hne)
    have hne' : ((L1.length : Int) != (L2.length : Int)) = true := by rw [bne_iff_ne]; omega
    clear h1 h2 hne
    generalize L1.length = n1 at *
    generalize L2.length = n2 at *
    go_enter Tryd.func46, Tryd.ntmps46
    go_wp2_with fail
    go_ret
    exact ⟨by rw [HT.out]; rfl, Below.refl _ _⟩
end Go.Proofs.YtknpkifhkefikaaDoor
namespace Go.Proofs.YtknpkifhkefikaaDoor
open Go.RowKit
set_option linter.unusedVariables false
set_option maxRecDepth 100000

theorem eq_hd (a b : Hd) (w : World) : (Op.equalIn 10000 23 (.agg (hdC a)) (.agg (hdC b))).run Tryd.prog w = .ok (sameH a b) w := by
  rw [show (10000 : Nat) = 9999 + 1 from rfl, run_equalIn_struct (P := Tryd.prog) (w := w) 9999 _ _ _ (by kernel_rfl) (by kernel_rfl)]
  have p0 : ∀ x : Hd, (part 3 (hdC x) 0).run Tryd.prog w = .ok (.int .i64 x.i) w := fun x => by kernel_rfl
  have p1 : ∀ x : Hd, (part 4 (hdC x) 1).run Tryd.prog w = .ok (.bool x.r) w := fun x => by kernel_rfl
  have p2 : ∀ x : Hd, (part 3 (hdC x) 2).run Tryd.prog w = .ok (.int .i64 x.o) w := fun x => by kernel_rfl
  have p3 : ∀ x : Hd, (part 4 (hdC x) 3).run Tryd.prog w = .ok (.bool x.aa) w := fun x => by kernel_rfl
  have p4 : ∀ x : Hd, (part 4 (hdC x) 4).run Tryd.prog w = .ok (.bool x.tc) w := fun x => by kernel_rfl
  have p5 : ∀ x : Hd, (part 4 (hdC x) 5).run Tryd.prog w = .ok (.bool x.rd) w := fun x => by kernel_rfl
  have p6 : ∀ x : Hd, (part 4 (hdC x) 6).run Tryd.prog w = .ok (.bool x.ra) w := fun x => by kernel_rfl
  have p7 : ∀ x : Hd, (part 3 (hdC x) 7).run Tryd.prog w = .ok (.int .i64 x.c) w := fun x => by kernel_rfl
  have q (x y : Int) : (Op.equalIn 9999 3 (.int .i64 x) (.int .i64 y)).run Tryd.prog w = .ok (x == y) w := by
    rw [show (9999 : Nat) = 9998 + 1 from rfl, run_equalIn_int w 9998 3 .i64 .i64 x y Tryd.underlying3]
  have qb (x y : Bool) : (Op.equalIn 9999 4 (.bool x) (.bool y)).run Tryd.prog w = .ok (x == y) w := by
    rw [show (9999 : Nat) = 9998 + 1 from rfl, run_equalIn_bool' w 9998 4 x y Tryd.underlying4]
  unfold Program.fieldsOf sameH
  rw [Tryd.underlying23]
  cases h0 : (a.i == b.i)
  · simp [Op.eqFields, p0, q, h0]
  cases h1 : (a.r == b.r)
  · simp [Op.eqFields, p0, p1, q, qb, h0, h1]
  cases h2 : (a.o == b.o)
  · simp [Op.eqFields, p0, p1, p2, q, qb, h0, h1, h2]
  cases h3 : (a.aa == b.aa)
  · simp [Op.eqFields, p0, p1, p2, p3, q, qb, h0, h1, h2, h3]
  cases h4 : (a.tc == b.tc)
  · simp [Op.eqFields, p0, p1, p2, p3, p4, q, qb, h0, h1, h2, h3, h4]
  cases h5 : (a.rd == b.rd)
  · simp [Op.eqFields, p0, p1, p2, p3, p4, p5, q, qb, h0, h1, h2, h3, h4, h5]
  cases h6 : (a.ra == b.ra)
  · simp [Op.eqFields, p0, p1, p2, p3, p4, p5, p6, q, qb, h0, h1, h2, h3, h4, h5, h6]
  cases h7 : (a.c == b.c)
  · simp [Op.eqFields, p0, p1, p2, p3, p4, p5, p6, p7, q, qb, h0, h1, h2, h3, h4, h5, h6, h7]
  simp [Op.eqFields, p0, p1, p2, p3, p4, p5, p6, p7, q, qb, h0, h1, h2, h3, h4, h5, h6, h7]

/-- A header loaded whole; two headers held against each other. -/
noncomputable def loadHd (v : Value) (w : World) : Result Next := ((Instr.loadAt 23 v).run Tryd.prog w).andThen fun a w' => .ok (.value a) w'
theorem exec_loadHd (ev : Operand → Value) (d : Option Tmp) (x : Operand) (t : TypeId) (p : String) (f : Array Edge) (gd : Option (Nat × Bool)) (w : World) : (execOp ev { dst := d, op := .load 23 x, type := t, pos := p, after := f, guard := gd }).run Tryd.prog w = loadHd (ev x) w := by
  unfold execOp loadHd
  simp only [Sem.run_bind, Sem.run_pure]
theorem info_hd : (Tryd.prog.info? 23).map (·.size) = some 8 := by kernel_rfl
theorem loadHd_mid {w1 : World} {g o : Nat} {l : List Value} (h : w1.rangeAt g o l) (hC : (Tryd.prog.info? 23).map (·.size) = some l.length) : loadHd (.pointer (some ⟨g, o, none⟩)) w1 = .ok (.value (.agg l.toArray)) w1 := by
  unfold loadHd
  rw [run_loadAt_mid w1 g o 23 l _ h Tryd.underlying23 rfl hC]
  rfl
noncomputable def eqlHd (v u : Value) (w : World) : Result Next := ((do eqGuard .eql 23 (.tmp 0) (.tmp 0) v u; binOp .eql 23 v u : Sem Value).run Tryd.prog w).andThen fun a w' => .ok (.value a) w'
theorem exec_eqlHd (ev : Operand → Value) (d : Option Tmp) (i j : Tmp) (ty t : TypeId) (p : String) (f : Array Edge) (gd : Option (Nat × Bool)) (w : World) : (execOp ev { dst := d, op := .binOp .eql 23 (.tmp i) (.tmp j) ty, type := t, pos := p, after := f, guard := gd }).run Tryd.prog w = eqlHd (ev (.tmp i)) (ev (.tmp j)) w := by
  unfold execOp eqlHd
  simp only [Sem.run_bind, Sem.run_pure]
  rfl
theorem eqlHd_of (a b : Hd) (w : World) : eqlHd (.agg (hdC a)) (.agg (hdC b)) w = .ok (.value (.bool (sameH a b))) w := by
  unfold eqlHd
  have hg : (eqGuard .eql 23 (.tmp 0) (.tmp 0) (.agg (hdC a)) (.agg (hdC b))).run Tryd.prog w = .ok () w := run_eqGuard_agg w .eql 23 _ _ _ _ (by kernel_rfl)
  simp only [Sem.run_bind, hg, run_eql_struct, eq_hd a b w, Result.andThen_ok]
attribute [local go_sem ↓] exec_loadHd exec_eqlHd

/-- Where a message's lists lie. -/
structure MV where
  aq : Option Addr
  a1 : Option Addr
  a2 : Option Addr
  a3 : Option Addr
  cq : Nat
  c1 : Nat
  c2 : Nat
  c3 : Nat
def msL (m : Msg) (v : MV) : List Value := (hdC m.h).toList ++ [.slice v.aq m.q.length v.cq, .slice v.a1 m.an.length v.c1, .slice v.a2 m.au.length v.c2, .slice v.a3 m.ad.length v.c3]
structure Ms (w : World) (m : Msg) (v : MV) : Prop where
  q : Qs w v.aq m.q
  an : Rs w v.a1 m.an
  au : Rs w v.a2 m.au
  ad : Rs w v.a3 m.ad
  lq : m.q.length ≤ v.cq ∧ v.cq ≤ 9223372036854775807
  l1 : m.an.length ≤ v.c1 ∧ v.c1 ≤ 9223372036854775807
  l2 : m.au.length ≤ v.c2 ∧ v.c2 ≤ 9223372036854775807
  l3 : m.ad.length ≤ v.c3 ∧ v.c3 ≤ 9223372036854775807
theorem Ms.on {w w1 : World} {m : Msg} {v : MV} (h : Ms w m v) (hB : Below w.heap.size w w1) : Ms w1 m v := ⟨h.q.on hB, h.an.on hB, h.au.on hB, h.ad.on hB, h.lq, h.l1, h.l2, h.l3⟩
theorem info_ms : (Tryd.prog.info? 27).map (·.size) = some 12 := by kernel_rfl
theorem ms_one (m : Msg) (v : MV) : (msL m v).toArray.all (·.oneCell') = true := by simp [msL, hdC, Value.oneCell']

theorem sameM_1 {a b : Msg} (h : sameH a.h b.h = false) : sameM a b = false := by simp [sameM, h]
theorem sameM_2 {a b : Msg} (h : sameL sameQ a.q b.q = false) : sameM a b = false := by simp [sameM, h]
theorem sameM_3 {a b : Msg} (h : sameL sameR a.an b.an = false) : sameM a b = false := by simp [sameM, h]
theorem sameM_4 {a b : Msg} (h : sameL sameR a.au b.au = false) : sameM a b = false := by simp [sameM, h]
theorem sameM_5 {a b : Msg} (h1 : sameH a.h b.h = true) (h2 : sameL sameQ a.q b.q = true) (h3 : sameL sameR a.an b.an = true) (h4 : sameL sameR a.au b.au = true) : sameM a b = sameL sameR a.ad b.ad := by simp [sameM, h1, h2, h3, h4]


theorem ms_cell {w : World} {g : Nat} {m : Msg} {v : MV} (h : w.heap[g]? = some (.cells (msL m v).toArray 27 (0, 0))) : w.cell? ⟨g, 8, none⟩ = some (.slice v.aq m.q.length v.cq) ∧ w.cell? ⟨g, 9, none⟩ = some (.slice v.a1 m.an.length v.c1) ∧ w.cell? ⟨g, 10, none⟩ = some (.slice v.a2 m.au.length v.c2) ∧ w.cell? ⟨g, 11, none⟩ = some (.slice v.a3 m.ad.length v.c3) :=
  ⟨(cell_of_row _ g 8 _ _ _ h).trans rfl, (cell_of_row _ g 9 _ _ _ h).trans rfl, (cell_of_row _ g 10 _ _ _ h).trans rfl, (cell_of_row _ g 11 _ _ _ h).trans rfl⟩
theorem ms_head {w : World} {g : Nat} {m : Msg} {v : MV} (h : w.heap[g]? = some (.cells (msL m v).toArray 27 (0, 0))) : loadHd (.pointer (some ⟨g, 0, none⟩)) w = .ok (.value (.agg (hdC m.h))) w := by
  have hr : w.rangeAt g 0 (hdC m.h).toList := fun j x hj => by
    rw [cell_of_row _ g (0 + j) _ _ _ h, Nat.zero_add]
    obtain ⟨hjl, _⟩ := List.getElem?_eq_some_iff.1 hj
    rw [List.getElem?_toArray, msL, List.getElem?_append_left hjl]
    exact hj
  have := loadHd_mid hr info_hd
  rwa [Array.toArray_toList] at this

set_option maxHeartbeats 2000000 in
set_option maxRecDepth 100000 in
theorem Same_msg (a b : Msg) (u v : MV) (w : World) (hA : Ms w a u) (hB : Ms w b v) :
    Calls Tryd.prog 17 #[.agg (msL a u).toArray, .agg (msL b v).toArray] w fun e w' => e = .returned (.bool (sameM a b)) ∧ Below w.heap.size w w' := by
  have EQ := Lib.hid (fun W (h1 : Qs W u.aq a.q) (h2 : Qs W v.aq b.q) => EqualQ_any u.aq v.aq a.q b.q u.cq v.cq W h1 h2 (by have := hA.lq; omega))
  have E1 := Lib.hid (fun W (h1 : Rs W u.a1 a.an) (h2 : Rs W v.a1 b.an) => EqualF_any 51 (run_enter Tryd.func51 (by kernel_rfl) (by kernel_rfl)) sameRecord_any u.a1 v.a1 a.an b.an u.c1 v.c1 W h1 h2 (by have := hA.l1; omega))
  have E2 := Lib.hid (fun W (h1 : Rs W u.a2 a.au) (h2 : Rs W v.a2 b.au) => EqualF_any 51 (run_enter Tryd.func51 (by kernel_rfl) (by kernel_rfl)) sameRecord_any u.a2 v.a2 a.au b.au u.c2 v.c2 W h1 h2 (by have := hA.l2; omega))
  have E3 := Lib.hid (fun W (h1 : Rs W u.a3 a.ad) (h2 : Rs W v.a3 b.ad) => EqualF_any 51 (run_enter Tryd.func51 (by kernel_rfl) (by kernel_rfl)) sameRecord_any u.a3 v.a3 a.ad b.ad u.c3 v.c3 W h1 h2 (by have := hA.l3; omega))
  have H1 := Lib.hid (@sameM_1 a b)
  have H2 := Lib.hid (@sameM_2 a b)
  have H3 := Lib.hid (@sameM_3 a b)
  have H4 := Lib.hid (@sameM_4 a b)
  have H5 := Lib.hid (@sameM_5 a b)
  have F3 := fun w => eqlHd_of a.h b.h w
  have ra := row_old (.cells (msL b v).toArray 27 (0, 0)) (row_new (w := w) (k := w.heap.size) (.cells (msL a u).toArray 27 (0, 0)) rfl)
  have rb := row_new (w := w.alloc (.cells (msL a u).toArray 27 (0, 0))) (k := w.heap.size + 1) (.cells (msL b v).toArray 27 (0, 0)) (by simp)
  have bw : Below w.heap.size w ((w.alloc (.cells (msL a u).toArray 27 (0, 0))).alloc (.cells (msL b v).toArray 27 (0, 0))) := Below.alloc (Below.alloc (Below.refl _ _) (Nat.le_refl _) _) (by simp) _
  have sw := bw.size
  have hA' := Lib.hid (hA.on bw)
  have hB' := Lib.hid (hB.on bw)
  have La := ms_head ra
  have Lb := ms_head rb
  obtain ⟨a8, a9, a10, a11⟩ := ms_cell ra
  obtain ⟨b8, b9, b10, b11⟩ := ms_cell rb
  clear hA hB ra rb
  generalize hdC a.h = ha at *
  generalize hdC b.h = hb at *
  generalize sameM a b = R at *
  generalize (msL a u).toArray = la at *
  generalize (msL b v).toArray = lb at *
  cases hv : sameH a.h b.h with
  | false =>
    rw [hv] at F3
    have HF := Lib.hid (H1.out hv)
    clear hv H1 H2 H3 H4 H5 EQ E1 E2 E3 a8 a9 a10 a11 b8 b9 b10 b11 sw
    go_enter Tryd.func17, Tryd.ntmps17
    go_wp2_with fail
    go_ret
    exact ⟨by rw [HF.out]; rfl, bw⟩
  | true =>
    rw [hv] at F3
    have G1 := Lib.hid hv
    clear hv H1
    go_enter Tryd.func17, Tryd.ntmps17
    go_wp2_with fail
    clear La Lb F3
    generalize (w.alloc (.cells la 27 (0, 0))).alloc (.cells lb 27 (0, 0)) = W0 at *
    refine (EQ.out _ hA'.out.q hB'.out.q).mono ?_
    rintro e W1 ⟨rfl, q1⟩
    replace a9 := cell_on a9 q1
    replace b9 := cell_on b9 q1
    replace a10 := cell_on a10 q1
    replace a11 := cell_on a11 q1
    replace b10 := cell_on b10 q1
    replace b11 := cell_on b11 q1
    replace hA' := Lib.hid (hA'.out.on q1)
    replace hB' := Lib.hid (hB'.out.on q1)
    obtain ⟨bw, sw⟩ : Below w.heap.size w W1 ∧ w.heap.size ≤ W1.heap.size := ⟨Below.trans bw (q1.mono sw), Nat.le_trans sw q1.size⟩
    clear q1 EQ
    cases hv0 : sameL sameQ a.q b.q with
    | false =>
      have HF := Lib.hid (H2.out hv0)
      clear hv0
      go_wp2_with fail
      go_ret
      exact ⟨by rw [HF.out]; rfl, bw⟩
    | true =>
      have G2 := Lib.hid hv0
      clear hv0 H2
      go_wp2_with fail
      refine (E1.out _ hA'.out.an hB'.out.an).mono ?_
      rintro e W2 ⟨rfl, q1⟩
      replace a10 := cell_on a10 q1
      replace b10 := cell_on b10 q1
      replace a11 := cell_on a11 q1
      replace b11 := cell_on b11 q1
      replace hA' := Lib.hid (hA'.out.on q1)
      replace hB' := Lib.hid (hB'.out.on q1)
      obtain ⟨bw, sw⟩ : Below w.heap.size w W2 ∧ w.heap.size ≤ W2.heap.size := ⟨Below.trans bw (q1.mono sw), Nat.le_trans sw q1.size⟩
      clear q1 E1
      cases hv1 : sameL sameR a.an b.an with
      | false =>
        have HF := Lib.hid (H3.out hv1)
        clear hv1
        go_wp2_with fail
        go_ret
        exact ⟨by rw [HF.out]; rfl, bw⟩
      | true =>
        have G3 := Lib.hid hv1
        clear hv1 H3
        go_wp2_with fail
        refine (E2.out _ hA'.out.au hB'.out.au).mono ?_
        rintro e W3 ⟨rfl, q1⟩
        replace a11 := cell_on a11 q1
        replace b11 := cell_on b11 q1
        replace hA' := Lib.hid (hA'.out.on q1)
        replace hB' := Lib.hid (hB'.out.on q1)
        obtain ⟨bw, sw⟩ : Below w.heap.size w W3 ∧ w.heap.size ≤ W3.heap.size := ⟨Below.trans bw (q1.mono sw), Nat.le_trans sw q1.size⟩
        clear q1 E2
        cases hv2 : sameL sameR a.au b.au with
        | false =>
          have HF := Lib.hid (H4.out hv2)
          clear hv2
          go_wp2_with fail
          go_ret
          exact ⟨by rw [HF.out]; rfl, bw⟩
        | true =>
          have G4 := Lib.hid hv2
          clear hv2 H4
          go_wp2_with fail
          refine (E3.out _ hA'.out.ad hB'.out.ad).mono ?_
          rintro e W4 ⟨rfl, q1⟩
          have HF := Lib.hid (H5.out G1.out G2.out G3.out G4.out)
          generalize sameL sameR a.ad b.ad = R4 at *
          go_wp2_with fail
          go_ret
          exact ⟨by rw [HF.out]; rfl, Below.trans bw (q1.mono sw)⟩

set_option maxHeartbeats 2000000 in
set_option maxRecDepth 100000 in
theorem SameMessage_msg (a b : Msg) (u v : MV) (w : World) (hA : Ms w a u) (hB : Ms w b v) :
    Calls Tryd.prog 14 #[.agg (msL a u).toArray, .agg (msL b v).toArray] w fun e w' => e = .returned (.bool (sameM a b)) ∧ Below w.heap.size w w' := by
  have EQ := Lib.hid (fun W (h1 : Qs W u.aq a.q) (h2 : Qs W v.aq b.q) => EqualQ_any u.aq v.aq a.q b.q u.cq v.cq W h1 h2 (by have := hA.lq; omega))
  have E1 := Lib.hid (fun W (h1 : Rs W u.a1 a.an) (h2 : Rs W v.a1 b.an) => SameRRs_any u.a1 v.a1 a.an b.an u.c1 v.c1 W h1 h2 (by have := hA.l1; omega))
  have E2 := Lib.hid (fun W (h1 : Rs W u.a2 a.au) (h2 : Rs W v.a2 b.au) => SameRRs_any u.a2 v.a2 a.au b.au u.c2 v.c2 W h1 h2 (by have := hA.l2; omega))
  have E3 := Lib.hid (fun W (h1 : Rs W u.a3 a.ad) (h2 : Rs W v.a3 b.ad) => SameRRs_any u.a3 v.a3 a.ad b.ad u.c3 v.c3 W h1 h2 (by have := hA.l3; omega))
  have H1 := Lib.hid (@sameM_1 a b)
  have H2 := Lib.hid (@sameM_2 a b)
  have H3 := Lib.hid (@sameM_3 a b)
  have H4 := Lib.hid (@sameM_4 a b)
  have H5 := Lib.hid (@sameM_5 a b)
  have F3 := fun w => eqlHd_of a.h b.h w
  have ra := row_old (.cells (msL b v).toArray 27 (0, 0)) (row_new (w := w) (k := w.heap.size) (.cells (msL a u).toArray 27 (0, 0)) rfl)
  have rb := row_new (w := w.alloc (.cells (msL a u).toArray 27 (0, 0))) (k := w.heap.size + 1) (.cells (msL b v).toArray 27 (0, 0)) (by simp)
  have bw : Below w.heap.size w ((w.alloc (.cells (msL a u).toArray 27 (0, 0))).alloc (.cells (msL b v).toArray 27 (0, 0))) := Below.alloc (Below.alloc (Below.refl _ _) (Nat.le_refl _) _) (by simp) _
  have sw := bw.size
  have hA' := Lib.hid (hA.on bw)
  have hB' := Lib.hid (hB.on bw)
  have La := ms_head ra
  have Lb := ms_head rb
  obtain ⟨a8, a9, a10, a11⟩ := ms_cell ra
  obtain ⟨b8, b9, b10, b11⟩ := ms_cell rb
  clear hA hB ra rb
  generalize hdC a.h = ha at *
  generalize hdC b.h = hb at *
  generalize sameM a b = R at *
  generalize (msL a u).toArray = la at *
  generalize (msL b v).toArray = lb at *
  cases hv : sameH a.h b.h with
  | false =>
    rw [hv] at F3
    have HF := Lib.hid (H1.out hv)
    clear hv H1 H2 H3 H4 H5 EQ E1 E2 E3 a8 a9 a10 a11 b8 b9 b10 b11 sw
    go_enter Tryd.func14, Tryd.ntmps14
    go_wp2_with fail
    go_ret
    exact ⟨by rw [HF.out]; rfl, bw⟩
  | true =>
    rw [hv] at F3
    have G1 := Lib.hid hv
    clear hv H1
    go_enter Tryd.func14, Tryd.ntmps14
    go_wp2_with fail
    clear La Lb F3
    generalize (w.alloc (.cells la 27 (0, 0))).alloc (.cells lb 27 (0, 0)) = W0 at *
    refine (EQ.out _ hA'.out.q hB'.out.q).mono ?_
    rintro e W1 ⟨rfl, q1⟩
    replace a9 := cell_on a9 q1
    replace b9 := cell_on b9 q1
    replace a10 := cell_on a10 q1
    replace a11 := cell_on a11 q1
    replace b10 := cell_on b10 q1
    replace b11 := cell_on b11 q1
    replace hA' := Lib.hid (hA'.out.on q1)
    replace hB' := Lib.hid (hB'.out.on q1)
    obtain ⟨bw, sw⟩ : Below w.heap.size w W1 ∧ w.heap.size ≤ W1.heap.size := ⟨Below.trans bw (q1.mono sw), Nat.le_trans sw q1.size⟩
    clear q1 EQ
    cases hv0 : sameL sameQ a.q b.q with
    | false =>
      have HF := Lib.hid (H2.out hv0)
      clear hv0
      go_wp2_with fail
      go_ret
      exact ⟨by rw [HF.out]; rfl, bw⟩
    | true =>
      have G2 := Lib.hid hv0
      clear hv0 H2
      go_wp2_with fail
      refine (E1.out _ hA'.out.an hB'.out.an).mono ?_
      rintro e W2 ⟨rfl, q1⟩
      replace a10 := cell_on a10 q1
      replace b10 := cell_on b10 q1
      replace a11 := cell_on a11 q1
      replace b11 := cell_on b11 q1
      replace hA' := Lib.hid (hA'.out.on q1)
      replace hB' := Lib.hid (hB'.out.on q1)
      obtain ⟨bw, sw⟩ : Below w.heap.size w W2 ∧ w.heap.size ≤ W2.heap.size := ⟨Below.trans bw (q1.mono sw), Nat.le_trans sw q1.size⟩
      clear q1 E1
      cases hv1 : sameL sameR a.an b.an with
      | false =>
        have HF := Lib.hid (H3.out hv1)
        clear hv1
        go_wp2_with fail
        go_ret
        exact ⟨by rw [HF.out]; rfl, bw⟩
      | true =>
        have G3 := Lib.hid hv1
        clear hv1 H3
        go_wp2_with fail
        refine (E2.out _ hA'.out.au hB'.out.au).mono ?_
        rintro e W3 ⟨rfl, q1⟩
        replace a11 := cell_on a11 q1
        replace b11 := cell_on b11 q1
        replace hA' := Lib.hid (hA'.out.on q1)
        replace hB' := Lib.hid (hB'.out.on q1)
        obtain ⟨bw, sw⟩ : Below w.heap.size w W3 ∧ w.heap.size ≤ W3.heap.size := ⟨Below.trans bw (q1.mono sw), Nat.le_trans sw q1.size⟩
        clear q1 E2
        cases hv2 : sameL sameR a.au b.au with
        | false =>
          have HF := Lib.hid (H4.out hv2)
          clear hv2
          go_wp2_with fail
          go_ret
          exact ⟨by rw [HF.out]; rfl, bw⟩
        | true =>
          have G4 := Lib.hid hv2
          clear hv2 H4
          go_wp2_with fail
          refine (E3.out _ hA'.out.ad hB'.out.ad).mono ?_
          rintro e W4 ⟨rfl, q1⟩
          have HF := Lib.hid (H5.out G1.out G2.out G3.out G4.out)
          generalize sameL sameR a.ad b.ad = R4 at *
          go_wp2_with fail
          go_ret
          exact ⟨by rw [HF.out]; rfl, Below.trans bw (q1.mono sw)⟩

end Go.Proofs.YtknpkifhkefikaaDoor
