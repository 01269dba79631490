/-
  The landed body of a told length.
  The landed reader of requests: its row, its states; made, Ended, renew, next.
-/
import Derived.Test.YtjhameebehkdjaaGreatDoorHuC
import Derived.Test.YtjhameebehkdjaaGreatDoorHuA
import Derived.Test.YtjhameebehkdjaaGreatDoorQt
import Derived.RegionTactic
import Derived.Deep.RegionLaw
import Derived.Test.YtjhameebehkdjaaGreatDoorQy
import Derived.Outline
import Derived.Test.YtjhameebehkdjaaGreatDoorClG
import Derived.Deep.RegionHeld3
namespace Go.Proofs.YtjhameebehkdjaaGreatDoor
open Go.RowKit Go.Shelf
set_option linter.unusedVariables false
set_option maxRecDepth 100000

/-- The row of a counted body. -/
def CRow (w : World) (g : Nat) (v : Value) (n : Nat) : Prop := w.heap[g]? = some (.cells #[v, .int .i64 n] 156 (0, 0))
/-- A counted body: what came, and how many are missing. -/
structure Cnt (w : World) (g : Nat) (v : Value) (d : Bs) (n : Nat) : Prop where
  row : CRow w g v n
  own : OwnB w 0 v d
  ne : v.ownBlock ≠ some g
theorem Cnt.mod {S : Nat → Prop} {w w1 : World} {g : Nat} {v : Value} {d : Bs} {n : Nat} (h : Cnt w g v d n) (k : Mod S w w1) (hg : ¬ S g) (hv : OffV S v) : Cnt w1 g v d n := ⟨k.row h.row hg, h.own.mod k hv, h.ne⟩
/-- What its Feed answers. -/
def CFeedP (w : World) (g : Nat) (v : Value) (d : Bs) (n : Nat) (b : Bs) (e : Ending) (w' : World) : Prop := ∃ v', e = .returned (.tuple #[.int .i64 (min n b.length : Nat), .bool (decide (n ≤ b.length)), .int .i64 0]) ∧ Cnt w' g v' (d ++ b.take n) (n - b.length) ∧ Mod (FX g v) w w' ∧ ∀ k, v'.ownBlock = some k → v.ownBlock = some k ∨ w.heap.size ≤ k
set_option maxHeartbeats 2000000 in
theorem countedFeed_any (g : Nat) (v : Value) (d : Bs) (n : Nat) (A : Option Addr) (b : Bs) (c : Nat) (w : World) (h : Cnt w g v d n) (hb : Sl w A c b) (hn : d.length + n ≤ 65535) : Calls Tryz.prog 161 #[.pointer (some ⟨g, 0, none⟩), .slice A b.length c] w (CFeedP w g v d n b) := by
  obtain ⟨row, own, ne⟩ := h
  have HD : Hid (∀ e w', CFeedP w g v d n b e w' ↔ ∃ v', e = .returned (.tuple #[.int .i64 (min n b.length : Nat), .bool (decide (n ≤ b.length)), .int .i64 0]) ∧ Cnt w' g v' (d ++ b.take n) (n - b.length) ∧ Mod (FX g v) w w' ∧ ∀ k, v'.ownBlock = some k → v.ownBlock = some k ∨ w.heap.size ≤ k) := Lib.hid (fun _ _ => Iff.rfl)
  generalize CFeedP w g v d n b = Q at *
  have c0 := (cell_of_row _ g 0 _ _ _ row).trans rfl
  have c1 := (cell_of_row _ g 1 _ _ _ row).trans (show _ = some (Value.int .i64 n) from rfl)
  obtain ⟨q, hq⟩ : ∃ q, q = min n b.length := ⟨_, rfl⟩
  have hqb : q ≤ b.length := by omega
  have hpre := fun (w : World) => slice_pre A b c q q hqb hb.le rfl w
  have htl : (b.take q).length = q := by rw [List.length_take]; omega
  have htk : b.take n = b.take q := by rw [List.take_eq_take_iff]; omega
  have sd : Sl w A c (b.take q) := ⟨hb.bys.pre q, by rw [htl]; have := hb.le; omega, hb.max, hb.nil⟩
  obtain ⟨x, hx⟩ : ∃ x, x = b.take q := ⟨_, rfl⟩
  rw [htk, ← hx] at HD
  rw [htl] at hpre
  rw [← hx] at sd htl
  rw [← hq] at HD
  obtain ⟨m, hm⟩ : ∃ m, m = b.length := ⟨_, rfl⟩
  rw [← hm] at HD hq hqb hpre ⊢
  have hv : ∃ A c, v = .slice A d.length c := by obtain ⟨A, c, h, -⟩ := own.bysN; exact ⟨A, c, h⟩
  obtain ⟨A0, k0, rfl⟩ := hv
  obtain ⟨dl, hdl⟩ : ∃ dl, dl = d.length := ⟨_, rfl⟩
  have HO := Lib.hid own
  have HR := Lib.hid row
  have HNE := Lib.hid ne
  have SD := Lib.hid sd
  have HTL := Lib.hid htl
  have HX : Hid (d.length + x.length ≤ 140737488355328) := Lib.hid (by rw [htl]; omega)
  rw [← hdl] at HO HR HNE HD c0
  have hmin : min (n : Int) (m : Int) = (q : Int) := by omega
  have HQ := Lib.hid hq
  have hn2 : n ≤ 65535 := by omega
  clear hb hm htk hx own row ne sd htl hdl hq hn
  go_enter Tryz.func161, Tryz.ntmps161
  go_wp2_with fail
  have FA : Hid (∀ v1 w1, OwnB w1 0 v1 (d ++ x) → w.grownBy w1 (Value.slice A0 dl k0).ownBlock → (∀ k, v1.ownBlock = some k → (Value.slice A0 dl k0).ownBlock = some k ∨ w.heap.size ≤ k) → (∃ A1 n1 k1, v1 = .slice A1 n1 k1) ∧ w1.cell? ⟨g, 0, none⟩ = some (.slice A0 dl k0) ∧ w1.frozen? ⟨g, 0, none⟩ = false ∧
      (w1.setCell ⟨g, 0, none⟩ v1).cell? ⟨g, 1, none⟩ = some (.int .i64 n) ∧ (w1.setCell ⟨g, 0, none⟩ v1).frozen? ⟨g, 1, none⟩ = false ∧
      Cnt ((w1.setCell ⟨g, 0, none⟩ v1).setCell ⟨g, 1, none⟩ (.int .i64 ((n : Int) - q))) g v1 (d ++ x) (n - m) ∧ Mod (FX g (.slice A0 dl k0)) w ((w1.setCell ⟨g, 0, none⟩ v1).setCell ⟨g, 1, none⟩ (.int .i64 ((n : Int) - q)))) := Lib.hid (fun v1 w1 o1 g1 f1 => by
    have glt := (Array.getElem?_eq_some_iff.1 HR.out).1
    have r1 := (g1.block g glt (fun e => HNE.out e.symm)).trans HR.out
    have r2 := row_set (w := w1) (g := g) (i := 0) v1 r1
    have r3 := row_set (w := w1.setCell ⟨g, 0, none⟩ v1) (g := g) (i := 1) (.int .i64 ((n : Int) - q)) r2
    have gs := grown_trans (grown_setG g 0 v1 w1) (grown_setG g 1 (.int .i64 ((n : Int) - q)) _) (fun k hk => .inl hk)
    have hv1 : v1.ownBlock ≠ some g := fun e => by
      rcases f1 g e with h | h
      · exact HNE.out h
      · omega
    have hM : Mod (FX g (.slice A0 dl k0)) w ((w1.setCell ⟨g, 0, none⟩ v1).setCell ⟨g, 1, none⟩ (.int .i64 ((n : Int) - q))) := (Mod.grown (S := FX g (.slice A0 dl k0)) g1 (fun k hk => .inr hk)).trans (Mod.grown (S := FX g (.slice A0 dl k0)) gs (fun k hk => by injection hk with hk; exact .inl hk.symm)) (fun i hi => .inl hi)
    have e1 : (n : Int) - q = ((n - m : Nat) : Int) := by have := HQ.out; omega
    refine ⟨by obtain ⟨A1, k1, h, -⟩ := o1.bysN; exact ⟨A1, _, k1, h⟩, (cell_of_row _ g 0 _ _ _ r1).trans rfl, frozen_of_row _ _ 0 _ _ r1, (cell_of_row _ g 1 _ _ _ r2).trans rfl, frozen_of_row _ _ 1 _ _ r2, ⟨?_, o1.kept gs (by cases hv : v1.ownBlock with | none => exact .inl rfl | some k => exact .inr (fun e => hv1 (hv.trans e))), hv1⟩, hM⟩
    unfold CRow
    rw [r3, e1]
    rfl)
  have wr1 : IntKind.i64.wrap ((n : Int) - q) = (n : Int) - q := IntWalk.i64_in _ (by have := HQ.out; omega)
  have hq1 : (q : Int) ≤ (n : Int) := by have := HQ.out; omega
  go_region_law ((refine step_bys (by rfl) (.tmp 19) (.tmp 22) (by rfl) 0 _ d (by rfl) HO.out A q c (by rfl) x HTL.out.symm SD.out.bys SD.out.nil HX.out (Nat.zero_le _) ?_); intro v1 w1 o1 g1 f1; obtain ⟨⟨A1, n1, k1, rfl⟩, there, fz, there1, fz1, hC, hM⟩ := FA.out _ _ o1 ⟨g1.os, g1.tape, g1.output, g1.size, g1.block⟩ f1; have FIN := Lib.hid (And.intro hC (And.intro hM f1)); clear o1 g1 f1 hC hM)
  clear FA HO HR HNE SD HX c0 c1 there fz
  go_wp2_with fail
  obtain ⟨W, hW⟩ : ∃ W, W = (w1.setCell ⟨g, 0, none⟩ (.slice A1 n1 k1)).setCell ⟨g, 1, none⟩ (.int .i64 ((n : Int) - q)) := ⟨_, rfl⟩
  have hF := FIN.out
  rw [← hW] at hF
  rw [← hW]
  have d1 : W.cell? ⟨g, 1, none⟩ = some (.int .i64 ((n : Int) - q)) := by
    have := (cell_of_row _ g 1 _ _ _ hF.1.row).trans (show _ = some (Value.int .i64 ((n - m : Nat) : Int)) from rfl)
    rw [this]
    have e1 : ((n - m : Nat) : Int) = (n : Int) - q := by have := HQ.out; omega
    rw [e1]
  have e0 : (((n : Int) - q) == 0) = decide (n ≤ m) := by
    rw [Bool.eq_iff_iff, beq_iff_eq, decide_eq_true_eq]
    have := HQ.out
    omega
  have HF := Lib.hid (fun nq => (HD.out (.returned (.tuple #[.int .i64 q, .bool (decide (n ≤ m)), .int .i64 0])) (W.drewN nq)).2 ⟨_, rfl, hF.1.mod (Mod.below (S := fun _ => False) (below_drewN (Below.refl _ _) nq)) (fun h => h) (fun _ _ h => h), hF.2.1.then (below_drewN (Below.refl _ _) nq), hF.2.2⟩)
  clear FIN hF hW HD HQ there1 fz1
  generalize decide (n ≤ m) = R at *
  go_quiet (fail)
  have HG := Lib.hid (HF.out nq)
  clear HF
  go_wp2_with fail
  exact HG.out
end Go.Proofs.YtjhameebehkdjaaGreatDoor
namespace Go.Proofs.YtjhameebehkdjaaGreatDoor
open Go.RowKit Go.Shelf
set_option linter.unusedVariables false
set_option maxRecDepth 100000

/-- The reader's row. -/
def rcells (en : Bool) (hv bv : Value) (k : Bool) : Array Value := #[.bool true, .bool en, hv, bv, .bool k]
def RRow (w : World) (g : Nat) (en : Bool) (hv bv : Value) (k : Bool) : Prop := w.heap[g]? = some (.cells (rcells en hv bv k) 78 (0, 0))
theorem RRow.on {w w1 : World} {g : Nat} {en k : Bool} {hv bv : Value} (r : RRow w g en hv bv k) (b : Below w.heap.size w w1) : RRow w1 g en hv bv k := (b.block g (Array.getElem?_eq_some_iff.1 r).1).trans r
theorem RRow.lt {w : World} {g : Nat} {en k : Bool} {hv bv : Value} (r : RRow w g en hv bv k) : g < w.heap.size := (Array.getElem?_eq_some_iff.1 r).1
/-- At its end. -/
def DeadR (w : World) (F : Nat → Prop) (g : Nat) : Prop := ∃ hv bv k, RRow w g true hv bv k ∧ ∀ j, F j ↔ j = g
/-- Within a head. -/
def HdR (w : World) (F : Nat → Prop) (g : Nat) (h : Bs) : Prop := ∃ v k, RRow w g false v .nilIface k ∧ OwnB w 0 v h ∧ v.ownBlock ≠ some g ∧ ∀ j, F j ↔ (j = g ∨ v.ownBlock = some j)
/-- Within a body of a told length. -/
def CntR (w : World) (F : Nat → Prop) (g : Nat) (k : Bool) (d : Bs) (n : Nat) : Prop := ∃ g2 v, RRow w g false (.slice none 0 0) (.iface 154 (.pointer (some ⟨g2, 0, none⟩))) k ∧ Cnt w g2 v d n ∧ g2 ≠ g ∧ v.ownBlock ≠ some g ∧ ∀ j, F j ↔ (j = g ∨ j = g2 ∨ v.ownBlock = some j)
/-- Within a body in chunks. -/
def ChkR (w : World) (F : Nat → Prop) (g : Nat) (k : Bool) (s : Ck) : Prop := ∃ p F2, RRow w g false (.slice none 0 0) (.iface 152 p) k ∧ LandC w F2 p s ∧ ¬ F2 g ∧ ∀ j, F j ↔ (j = g ∨ F2 j)
def LHs (w : World) (F : Nat → Prop) (g : Nat) : Hs → Prop
  | .dead => DeadR w F g
  | .hd h => HdR w F g h
  | .cnt k d n => CntR w F g k d n
  | .chk k s => ChkR w F g k s
theorem DeadR.mod {S F : Nat → Prop} {w w1 : World} {g : Nat} (h : DeadR w F g) (k : Mod S w w1) (hn : ∀ j, F j → ¬ S j) : DeadR w1 F g := by
  obtain ⟨hv, bv, b, r, hF⟩ := h
  exact ⟨hv, bv, b, k.row r (hn g ((hF g).2 rfl)), hF⟩
theorem HdR.mod {S F : Nat → Prop} {w w1 : World} {g : Nat} {h : Bs} (x : HdR w F g h) (k : Mod S w w1) (hn : ∀ j, F j → ¬ S j) : HdR w1 F g h := by
  obtain ⟨v, b, r, o, ne, hF⟩ := x
  exact ⟨v, b, k.row r (hn g ((hF g).2 (.inl rfl))), o.mod k (fun j hj => hn j ((hF j).2 (.inr hj))), ne, hF⟩
theorem CntR.mod {S F : Nat → Prop} {w w1 : World} {g : Nat} {b : Bool} {d : Bs} {n : Nat} (x : CntR w F g b d n) (k : Mod S w w1) (hn : ∀ j, F j → ¬ S j) : CntR w1 F g b d n := by
  obtain ⟨g2, v, r, c, n2, ne, hF⟩ := x
  exact ⟨g2, v, k.row r (hn g ((hF g).2 (.inl rfl))), c.mod k (hn g2 ((hF g2).2 (.inr (.inl rfl)))) (fun j hj => hn j ((hF j).2 (.inr (.inr hj)))), n2, ne, hF⟩
theorem ChkR.mod {S F : Nat → Prop} {w w1 : World} {g : Nat} {b : Bool} {s : Ck} (x : ChkR w F g b s) (k : Mod S w w1) (hn : ∀ j, F j → ¬ S j) : ChkR w1 F g b s := by
  obtain ⟨p, F2, r, c, n2, hF⟩ := x
  exact ⟨p, F2, k.row r (hn g ((hF g).2 (.inl rfl))), landC.mod c k (fun j hj => hn j ((hF j).2 (.inr hj))), n2, hF⟩
theorem LHs.mod {S F : Nat → Prop} {w w1 : World} {g : Nat} {s : Hs} (x : LHs w F g s) (k : Mod S w w1) (hn : ∀ j, F j → ¬ S j) : LHs w1 F g s := by
  cases s with
  | dead => exact DeadR.mod x k hn
  | hd h => exact HdR.mod x k hn
  | cnt b d n => exact CntR.mod x k hn
  | chk b s => exact ChkR.mod x k hn
theorem LHs.on {F : Nat → Prop} {w w1 : World} {g : Nat} {s : Hs} (x : LHs w F g s) (k : Below w.heap.size w w1) : LHs w1 F g s := x.mod (S := fun _ => False) (Mod.below k) (fun _ _ h => h)
/-- A row under it all. -/
theorem LHs.row {F : Nat → Prop} {w : World} {g : Nat} {s : Hs} (x : LHs w F g s) : F g ∧ ∃ hv bv k, RRow w g (match s with | .dead => true | _ => false) hv bv k := by
  cases s with
  | dead => obtain ⟨hv, bv, b, r, hF⟩ := x; exact ⟨(hF g).2 rfl, hv, bv, b, r⟩
  | hd h => obtain ⟨v, b, r, o, ne, hF⟩ := x; exact ⟨(hF g).2 (.inl rfl), _, _, _, r⟩
  | cnt b d n => obtain ⟨g2, v, r, c, n2, ne, hF⟩ := x; exact ⟨(hF g).2 (.inl rfl), _, _, _, r⟩
  | chk b s => obtain ⟨p, F2, r, c, n2, hF⟩ := x; exact ⟨(hF g).2 (.inl rfl), _, _, _, r⟩
theorem LHs.lt {F : Nat → Prop} {w : World} {g : Nat} {s : Hs} (x : LHs w F g s) : ∀ j, F j → j < w.heap.size := by
  cases s with
  | dead => obtain ⟨hv, bv, b, r, hF⟩ := x; intro j hj; rw [(hF j).1 hj]; exact r.lt
  | hd h => obtain ⟨v, b, r, o, ne, hF⟩ := x; intro j hj; rcases (hF j).1 hj with rfl | e; exact r.lt; exact (o.lt j e).2
  | cnt b d n =>
    obtain ⟨g2, v, r, c, n2, ne, hF⟩ := x
    intro j hj
    rcases (hF j).1 hj with rfl | rfl | e
    · exact r.lt
    · exact (Array.getElem?_eq_some_iff.1 c.row).1
    · exact (c.own.lt j e).2
  | chk b s => obtain ⟨p, F2, r, c, n2, hF⟩ := x; intro j hj; rcases (hF j).1 hj with rfl | e; exact r.lt; exact landC.lt c j e

section
variable (g : Nat) (en : Bool) (hv bv : Value) (k : Bool) (w : World)
set_option maxHeartbeats 400000 in
theorem madeH_any (h : RRow w g en hv bv k) : Calls Tryz.prog 94 #[.pointer (some ⟨g, 0, none⟩)] w fun e w' => e = .returned (.bool true) ∧ w' = w := by
  have c0 := (cell_of_row _ g 0 _ _ _ h).trans (show _ = some (Value.bool true) from rfl)
  clear h
  go_enter Tryz.func94, Tryz.ntmps94
  go_wp2_with fail
  go_ret
  exact ⟨rfl, rfl⟩
theorem info_rd : (Tryz.prog.info? 78).map (·.size) = some 5 := by kernel_rfl
set_option maxHeartbeats 400000 in
theorem renewH_any (b : Bool) (h : RRow w g en hv bv k) : Calls Tryz.prog 96 #[.pointer (some ⟨g, 0, none⟩), .bool b] w fun e w' => e = .returned (.tuple #[]) ∧ w.grownBy w' (some g) ∧ RRow w' g b (.slice none 0 0) .nilIface false := by
  have H := Lib.hid h
  have G := Lib.hid (grownBy_setRow (w := w) (g := g) (rcells b (.slice none 0 0) .nilIface false))
  have R : Hid (RRow (w.setRow g (rcells b (.slice none 0 0) .nilIface false)) g b (.slice none 0 0) .nilIface false) := Lib.hid (setRow_heap _ _ _ _ _ _ h)
  have I : Hid ((Tryz.prog.info? 78).map (·.size) = some (rcells b (.slice none 0 0) .nilIface false).size) := Lib.hid info_rd
  have O : Hid ((rcells b (.slice none 0 0) .nilIface false).all (·.oneCell') = true) := Lib.hid (by simp [rcells, Value.oneCell'])
  clear h
  go_enter Tryz.func96, Tryz.ntmps96
  go_wp2_with (first
    | (refine wpList_store_row rfl 78 (.tmp 7) (.tmp 6) rfl g (rcells b (.slice none 0 0) .nilIface false) rfl rfl 78 _ H.out I.out rfl O.out ?_)
    | fail)
  go_end0
  exact ⟨rfl, G.out, R.out⟩
end
end Go.Proofs.YtjhameebehkdjaaGreatDoor
