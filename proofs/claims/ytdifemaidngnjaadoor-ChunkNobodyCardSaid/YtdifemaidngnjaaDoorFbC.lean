/-
  strconv.AppendInt at base 16; a chunk put behind bytes.
-/
import Derived.Test.YtdifemaidngnjaaDoorFbB
import Derived.RangeFuncOwn
namespace Go.Proofs.YtdifemaidngnjaaDoor
open Go.RowKit
set_option linter.unusedVariables false
set_option maxRecDepth 100000

/-- What an append of the digits leaves. -/
def AppX (w : World) (base : Nat) (l : Bs) (e : Ending) (w' : World) : Prop := ∃ v', e = .returned v' ∧ OwnR w' base v' l ∧ Below base w w' ∧ KeepsOthers w w'
theorem OwnR.grown_below {w w' : World} {base : Nat} {v : Value} {l : Bs} (ho : OwnR w base v l) (hg : w.grownBy w' v.ownBlock) (hb : base ≤ w.heap.size) : Below base w w' := ⟨hg.os, hg.tape, hg.output, hg.size, fun k hk => hg.block k (by omega) (fun e => by have := (World.ownsRow.lt ho k e.symm).1; omega)⟩
theorem OwnR.others {w w' : World} {base : Nat} {v : Value} {l : Bs} (ho : OwnR w base v l) (hg : w.grownBy w' v.ownBlock) : KeepsOthers w w' := KeepsOthers.of_grownBy hg (fun j o hj hw => by
  rcases ho.2 with ⟨h1, h2⟩ | ⟨g, cap, cur, h1, hb, hh, -⟩
  · rw [h1] at hj; cases hj
  · rw [h1] at hj
    simp only [Value.ownBlock] at hj
    injection hj with hj
    subst hj
    rw [hh] at hw
    injection hw with hw
    subst hw
    rfl)
theorem Sl.under {w w' : World} {base c : Nat} {A : Option Addr} {l : Bs} (h : Sl w A c l) (hA : l ≠ [] → ∀ p, A = some p → p.block < base) (k : Below base w w') : Sl w' A c l := ⟨fun hl => by
  obtain ⟨g, off, hp, hc⟩ := h.bys hl
  refine ⟨g, off, hp, fun j hj => ?_⟩
  have := hA (fun e => by rw [e] at hl; simp at hl) _ hp
  exact (World.cell?_of_block (k.block g this)).trans (hc j hj), h.le, h.max, h.nil⟩
theorem OwnR.slice {w : World} {base : Nat} {v : Value} {l : Bs} (ho : OwnR w base v l) : ∃ A c, v = .slice A l.length c := by
  rcases ho.2 with ⟨h1, h2⟩ | ⟨g, cap, cur, h1, -⟩
  · exact ⟨none, 0, by rw [h1, h2]⟩
  · exact ⟨_, _, h1⟩
section
variable (v : Value) (l : Bs) (n : Nat) (base : Nat) (w : World) (hn : n < 16 ^ 6) (ho : OwnR w base v l) (hT : TabC w) (hbase : base ≤ w.heap.size) (hlen : l.length + (hexC n).length ≤ 140737488355328)
include hn ho hT hbase hlen
set_option maxHeartbeats 1000000 in
theorem appUint_any : Calls Tryd.prog 30 #[v, .int .u64 n, .int .i64 16] w (AppX w base (l ++ hexC n)) := by
  have E := Lib.hid (fmt_any v l n base w hn ho hT hbase hlen)
  have HD : Hid (∀ v' w', OwnR w' base v' (l ++ hexC n) ∧ Below base w w' ∧ KeepsOthers w w' → AppX w base (l ++ hexC n) (.returned v') w') := Lib.hid (fun v' w' h => ⟨v', rfl, h⟩)
  have HOO := Lib.hid ho
  have HBA := Lib.hid hbase
  obtain ⟨A, c, rfl⟩ := ho.slice
  generalize AppX w base (l ++ hexC n) = Q at *
  obtain ⟨ln, hln⟩ : ∃ ln, ln = l.length := ⟨_, rfl⟩
  rw [← hln] at HOO E ⊢
  clear ho hT hlen hn hbase hln
  go_enter Tryd.func30, Tryd.ntmps30
  go_wp2_with fail
  refine E.out.mono ?_
  rintro e w1 ⟨v', rfl, o1, g1⟩
  have HF := Lib.hid (HD.out v' w1 ⟨o1, HOO.out.grown_below g1 HBA.out, HOO.out.others g1⟩)
  obtain ⟨A1, c1, hv1⟩ := o1.slice
  obtain ⟨n1, hn1⟩ : ∃ n1, n1 = (l ++ hexC n).length := ⟨_, rfl⟩
  rw [← hn1] at hv1
  subst hv1
  clear o1 g1 E HD hn1
  go_wp2_with fail
  exact HF.out
set_option maxHeartbeats 1000000 in
theorem appInt0_any : Calls Tryd.prog 26 #[v, .int .i64 n, .int .i64 16] w (AppX w base (l ++ hexC n)) := by
  have E := Lib.hid (appUint_any v l n base w hn ho hT hbase hlen)
  have wr : IntKind.u64.wrap (n : Int) = (n : Int) := wraps_u64 _ (by omega) (by omega)
  have h0 : ¬ (n : Int) < 0 := by omega
  have HD : Hid (∀ e w', AppX w base (l ++ hexC n) e w' → ∃ v', e = .returned v' ∧ (∃ A n c, v' = .slice A n c) ∧ AppX w base (l ++ hexC n) (.returned v') w') := Lib.hid (fun e w' h => by
    obtain ⟨v', rfl, h1, h2⟩ := h
    obtain ⟨A, c, h3⟩ := h1.slice
    exact ⟨v', rfl, ⟨A, _, c, h3⟩, v', rfl, h1, h2⟩)
  obtain ⟨A, c, rfl⟩ := ho.slice
  generalize AppX w base (l ++ hexC n) = Q at *
  generalize l.length = ln at *
  clear ho hT hlen hn hbase
  go_enter Tryd.func26, Tryd.ntmps26
  go_wp2_with fail
  refine E.out.mono ?_
  intro e w1 h
  obtain ⟨v', rfl, ⟨A1, n1, c1, rfl⟩, h1⟩ := HD.out e w1 h
  have HF := Lib.hid h1
  clear h h1 E HD
  go_wp2_with fail
  exact HF.out
set_option maxHeartbeats 1000000 in
theorem appInt_any : Calls Tryd.prog 21 #[v, .int .i64 n, .int .i64 16] w (AppX w base (l ++ hexC n)) := by
  have E := Lib.hid (appInt0_any v l n base w hn ho hT hbase hlen)
  have HD : Hid (∀ e w', AppX w base (l ++ hexC n) e w' → ∃ v', e = .returned v' ∧ (∃ A n c, v' = .slice A n c) ∧ AppX w base (l ++ hexC n) (.returned v') w') := Lib.hid (fun e w' h => by
    obtain ⟨v', rfl, h1, h2⟩ := h
    obtain ⟨A, c, h3⟩ := h1.slice
    exact ⟨v', rfl, ⟨A, _, c, h3⟩, v', rfl, h1, h2⟩)
  obtain ⟨A, c, rfl⟩ := ho.slice
  generalize AppX w base (l ++ hexC n) = Q at *
  generalize l.length = ln at *
  clear ho hT hlen hn hbase
  go_enter Tryd.func21, Tryd.ntmps21
  go_wp2_with fail
  refine E.out.mono ?_
  intro e w1 h
  obtain ⟨v', rfl, ⟨A1, n1, c1, rfl⟩, h1⟩ := HD.out e w1 h
  have HF := Lib.hid h1
  clear h h1 E HD
  go_wp2_with fail
  exact HF.out
end
set_option maxHeartbeats 1000000 in
theorem appChunk_any (v : Value) (l d : Bs) (A : Option Addr) (c : Nat) (base : Nat) (w : World) (hn : d.length < 16 ^ 6) (ho : OwnR w base v l) (hT : TabC w) (hd : Sl w A c d) (hA : d ≠ [] → ∀ p, A = some p → p.block < base) (hbase : base ≤ w.heap.size) (hlen : l.length + (chunkC d).length ≤ 140737488355328) :
    Calls Tryd.prog 16 #[v, .slice A d.length c] w (AppX w base (l ++ chunkC d)) := by
  have hcl : (chunkC d).length = (hexC d.length).length + 2 + d.length + 2 := by simp [chunkC]; omega
  have E := Lib.hid (appInt_any v l d.length base w hn ho hT hbase (by omega))
  have HO := Lib.hid ho
  have HD := Lib.hid hd
  have HA := Lib.hid hA
  obtain ⟨n, hnn⟩ : ∃ n, n = d.length := ⟨_, rfl⟩
  rw [← hnn] at E ⊢
  have HN := Lib.hid hnn
  obtain ⟨y1, hy1⟩ : ∃ y, y = l ++ hexC n := ⟨_, rfl⟩
  obtain ⟨y2, hy2⟩ : ∃ y, y = y1 ++ ([13, 10] : Bs) := ⟨_, rfl⟩
  obtain ⟨y3, hy3⟩ : ∃ y, y = y2 ++ d := ⟨_, rfl⟩
  have e4 : Hid (l ++ chunkC d = y3 ++ ([13, 10] : Bs)) := Lib.hid (by rw [hy3, hy2, hy1, hnn]; simp [chunkC])
  have l1 : y1.length = l.length + (hexC n).length := by rw [hy1]; simp
  have l2 : y2.length = y1.length + 2 := by rw [hy2]; simp
  have l3 : y3.length = y2.length + n := by rw [hy3, hnn]; simp
  rw [← hnn] at hcl
  have HX1 : Hid (y1.length + ([13, 10] : Bs).length ≤ 140737488355328) := Lib.hid (by simp; omega)
  have HX2 : Hid (y2.length + d.length ≤ 140737488355328) := Lib.hid (by rw [← hnn]; omega)
  have HX3 : Hid (y3.length + ([13, 10] : Bs).length ≤ 140737488355328) := Lib.hid (by simp; omega)
  have HQ : Hid (∀ v' w', OwnR w' base v' (y3 ++ ([13, 10] : Bs)) → Below base w w' ∧ KeepsOthers w w' → AppX w base (l ++ chunkC d) (.returned v') w') := Lib.hid (fun v' w' h1 h2 => ⟨v', rfl, by rw [e4.out]; exact h1, h2⟩)
  have H1 : Hid (∀ e w', AppX w base (l ++ hexC n) e w' → ∃ A1 n1 c1, e = .returned (.slice A1 n1 c1) ∧ OwnR w' base (.slice A1 n1 c1) y1 ∧ Below base w w' ∧ KeepsOthers w w') := Lib.hid (fun e w' h => by
    obtain ⟨v', rfl, h1, h2⟩ := h
    obtain ⟨A1, c1, rfl⟩ := h1.slice
    exact ⟨A1, _, c1, rfl, by rw [hy1]; exact h1, h2⟩)
  have HY2 := Lib.hid hy2
  have HY3 := Lib.hid hy3
  obtain ⟨A0, c0, rfl⟩ := ho.slice
  generalize AppX w base (l ++ hexC n) = Q1 at *
  generalize AppX w base (l ++ chunkC d) = Q at *
  generalize l.length = ln at *
  clear hcl hnn hy1 hy2 hy3 l1 l2 l3 hn ho hT hd hA hlen
  go_enter Tryd.func16, Tryd.ntmps16
  go_wp2_with fail
  refine E.out.mono ?_
  intro e w1 h
  obtain ⟨A1, n1, c1, rfl, o1, b1, k1⟩ := H1.out e w1 h
  have hs1 : base ≤ w1.heap.size := Nat.le_trans hbase b1.size
  have O1 := Lib.hid o1
  have B1 := Lib.hid b1
  have K1 := Lib.hid k1
  clear h o1 b1 k1 E H1
  go_wp2_with (first
    | (at_builtin; refine wpList_appS rfl (.tmp 9) (.const (.string ⟨#[13, 10]⟩)) rfl base _ y1 rfl O1.out [13, 10] _ rfl rfl HX1.out hs1 ?_)
    | fail)
  intro v2 w2 o2 g2
  rw [← HY2.out] at o2
  have b2 : Below base w w2 := Below.trans B1.out (O1.out.grown_below g2 hs1)
  have hs2 : base ≤ w2.heap.size := Nat.le_trans hbase b2.size
  obtain ⟨A2, c2, rfl⟩ := o2.slice
  have O2 := Lib.hid o2
  have B2 := Lib.hid b2
  have K2 := Lib.hid (K1.out.trans (O1.out.others g2))
  have D2 := Lib.hid (HD.out.under HA.out b2)
  obtain ⟨n2, hn2⟩ : ∃ n2, n2 = y2.length := ⟨_, rfl⟩
  rw [← hn2] at O2 ⊢
  clear o2 g2 b2 O1 B1 hn2
  go_wp2_with (first
    | (at_builtin; refine wpList_appR rfl (.tmp 11) (.tmp 12) rfl base _ y2 rfl O2.out A n c rfl d HN.out D2.out.bys D2.out.nil HX2.out hs2 ?_)
    | fail)
  intro v3 w3 o3 g3
  rw [← HY3.out] at o3
  have b3 : Below base w w3 := Below.trans B2.out (O2.out.grown_below g3 hs2)
  have hs3 : base ≤ w3.heap.size := Nat.le_trans hbase b3.size
  obtain ⟨A3, c3, rfl⟩ := o3.slice
  have O3 := Lib.hid o3
  have B3 := Lib.hid b3
  have K3 := Lib.hid (K2.out.trans (O2.out.others g3))
  obtain ⟨n3, hn3⟩ : ∃ n3, n3 = y3.length := ⟨_, rfl⟩
  rw [← hn3] at O3 ⊢
  clear o3 g3 b3 O2 B2 D2 hn3
  go_wp2_with (first
    | (at_builtin; refine wpList_appS rfl (.tmp 14) (.const (.string ⟨#[13, 10]⟩)) rfl base _ y3 rfl O3.out [13, 10] _ rfl rfl HX3.out hs3 ?_)
    | fail)
  intro v4 w4 o4 g4
  have HF := Lib.hid (HQ.out v4 w4 o4 ⟨Below.trans B3.out (O3.out.grown_below g4 hs3), K3.out.trans (O3.out.others g4)⟩)
  obtain ⟨A4, c4, hv4⟩ := o4.slice
  obtain ⟨n4, hn4⟩ : ∃ n4, n4 = (y3 ++ ([13, 10] : Bs)).length := ⟨_, rfl⟩
  rw [← hn4] at hv4
  subst hv4
  clear o4 g4 O3 B3 hn4
  go_wp2_with fail
  exact HF.out
end Go.Proofs.YtdifemaidngnjaaDoor
