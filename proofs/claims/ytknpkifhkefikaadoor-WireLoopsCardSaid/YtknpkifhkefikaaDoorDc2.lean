/-
  The landed reader: giving up, take, number.
  The landed reader: a name.
-/
import Derived.Test.YtknpkifhkefikaaDoorDc1
import Derived.Test.YtknpkifhkefikaaDoorGc
import Derived.Test.YtknpkifhkefikaaDoorHdB
import Derived.BigQuiet
import Derived.Lib.Hide
import Derived.Test.YtknpkifhkefikaaDoorEnN
import Derived.Test.YtknpkifhkefikaaDoorSc
namespace Go.Proofs.YtknpkifhkefikaaDoor
open Go.RowKit
set_option linter.unusedVariables false
set_option maxRecDepth 100000

def gaveUp (k : Nat) : Ending := .panicked [{ v := .iface 30 (.int .i64 k), recovered := false }]
theorem giveUp_any (k : Nat) (w : World) : Calls Tryd.prog 91 #[.int .i64 k] w fun e w' => e = gaveUp k ∧ w' = w := by
  go_enter Tryd.func91, Tryd.ntmps91
  go_wp2_with fail
  exact ⟨rfl, rfl, rfl⟩
/-- A reader in memory: its bytes, how far they are read, the error where they end. -/
structure RdM (w : World) (rb : Nat) (A : Option Addr) (c : Nat) (b : Bs) (p sh : Nat) : Prop where
  row : w.heap[rb]? = some (.cells #[.slice A b.length c, .int .i64 p, .int .i64 sh] 92 (0, 0))
  sl : Sl w A c b
  off : Off (fun k => k = rb) A
  le : p ≤ b.length
  mx : b.length ≤ 65535
theorem RdM.below {w w1 : World} {rb : Nat} {A : Option Addr} {c : Nat} {b : Bs} {p sh : Nat} (h : RdM w rb A c b p sh) (k : Below w.heap.size w w1) : RdM w1 rb A c b p sh :=
  ⟨(k.block _ (Array.getElem?_eq_some_iff.1 h.row).1).trans h.row, h.sl.on k, h.off, h.le, h.mx⟩
theorem RdM.lt {w : World} {rb : Nat} {A : Option Addr} {c : Nat} {b : Bs} {p sh : Nat} (h : RdM w rb A c b p sh) : rb < w.heap.size := (Array.getElem?_eq_some_iff.1 h.row).1
theorem RdM.cells {w : World} {rb : Nat} {A : Option Addr} {c : Nat} {b : Bs} {p sh : Nat} (h : RdM w rb A c b p sh) : w.cell? ⟨rb, 0, none⟩ = some (.slice A b.length c) ∧ w.cell? ⟨rb, 1, none⟩ = some (.int .i64 p) ∧ w.cell? ⟨rb, 2, none⟩ = some (.int .i64 sh) ∧ w.frozen? ⟨rb, 1, none⟩ = false :=
  ⟨(cell_of_row _ rb 0 _ _ _ h.row).trans rfl, (cell_of_row _ rb 1 _ _ _ h.row).trans rfl, (cell_of_row _ rb 2 _ _ _ h.row).trans rfl, frozen_of_row _ _ 1 _ _ h.row⟩
theorem mod_setCell (w : World) (rb i : Nat) (v : Value) : Mod (fun k => k = rb) w (w.setCell ⟨rb, i, none⟩ v) := by
  have gs : w.grownBy (w.setCell ⟨rb, i, none⟩ v) (some rb) := by
    have := grownBy_setCells rb [v] i w
    simpa [World.setCells] using this
  exact Mod.grown gs (fun k hk => by injection hk with hk; exact hk.symm)
theorem Sl.mod {S : Nat → Prop} {w w1 : World} {A : Option Addr} {c : Nat} {l : Bs} (h : Sl w A c l) (k : Mod S w w1) (hn : Off S A) : Sl w1 A c l := ⟨h.bys.mod k hn, h.le, h.max, h.nil⟩
theorem Sl.midB {W0 : World} {A : Option Addr} {c : Nat} {l : Bs} (h : Sl W0 A c l) (k m : Nat) (i j : Int) (hk : k + m ≤ l.length) (hi : i = k) (hj : j = (k + m : Nat)) : ∃ A', (∀ w : World, (Instr.slice 29 (.slice A l.length c) (some (.int .i64 i)) (some (.int .i64 j)) Option.none).run Tryd.prog w = .ok (.slice A' m (c - k)) w) ∧ Sl W0 A' (c - k) ((l.drop k).take m) ∧ ∀ q, A' = some q → ∃ a, A = some a ∧ q.block = a.block := by
  subst hi
  subst hj
  have hle := h.le
  have hlm : ((l.drop k).take m).length = m := by rw [List.length_take, List.length_drop]; omega
  refine ⟨if c = k then A else A.map (·.add k), fun w => ?_, ⟨(h.bys.cut (k := k) hle).pre m, by rw [hlm]; omega, by have := h.max; omega, fun hn => ?_⟩, fun q hq => ?_⟩
  · rw [run_slice_lh w 29 A l.length c (by rw [elem_bytes]; exact Tryd.underlying29) _ _ _ _ (by omega) (by omega) (by omega), elem_bytes, size_u8]
    simp [sliced]
    omega
  · split at hn
    · omega
    · cases A with
      | none => have := h.nil rfl; omega
      | some a => cases hn
  · split at hq
    · exact ⟨q, hq, rfl⟩
    · cases A with
      | none => cases hq
      | some a =>
        injection hq with hq
        subst hq
        exact ⟨a, rfl, by unfold Addr.add; split <;> rfl⟩
/-- 'b[:k]'. -/
theorem Sl.headB {W0 : World} {A : Option Addr} {c : Nat} {l : Bs} (h : Sl W0 A c l) (k : Nat) (j : Int) (hk : k ≤ l.length) (hj : j = k) : (∀ w : World, (Instr.slice 29 (.slice A l.length c) Option.none (some (.int .i64 j)) Option.none).run Tryd.prog w = .ok (.slice A k c) w) ∧ Sl W0 A c (l.take k) := by
  subst hj
  have s1 := slice_pre A l c k k (by omega) h.le rfl
  have hlk : (l.take k).length = k := by rw [List.length_take]; omega
  rw [hlk] at s1
  exact ⟨s1, h.bys.pre k, by rw [hlk]; have := h.le; omega, h.max, h.nil⟩
/-- The reader goes to another place. -/
theorem RdM.turn {w : World} {rb : Nat} {A : Option Addr} {c : Nat} {b : Bs} {p sh : Nat} (h : RdM w rb A c b p sh) (q : Nat) (hq : q ≤ b.length) : RdM (w.setCell ⟨rb, 1, none⟩ (.int .i64 q)) rb A c b q sh :=
  ⟨row_set (i := 1) (.int .i64 q) h.row, h.sl.mod (mod_setCell w rb 1 _) h.off, h.off, hq, h.mx⟩
/-- What a call of the reader's comes to. -/
def RdP {α : Type} (w : World) (rb : Nat) (A : Option Addr) (c : Nat) (b : Bs) (sh : Nat) (V : α → Value → World → Prop) : Rd α → Ending → World → Prop
  | .ok x z, e, w' => ∃ v, e = .returned v ∧ V x v w' ∧ RdM w' rb A c b z sh ∧ Mod (fun k => k = rb) w w'
  | .no k, e, w' => e = gaveUp k ∧ Mod (fun k => k = rb) w w'
def VSl (A : Option Addr) (x : Bs) (v : Value) (w : World) : Prop := ∃ A' c', v = .slice A' x.length c' ∧ Sl w A' c' x
def VInt (x : Nat) (v : Value) (_ : World) : Prop := v = .int .i64 x
def VStr (x : Bs) (v : Value) (_ : World) : Prop := v = .string (bs x)

set_option maxHeartbeats 1000000 in
theorem take_any (w : World) (rb : Nat) (A : Option Addr) (c : Nat) (b : Bs) (p sh k : Nat) (h : RdM w rb A c b p sh) (hk : k ≤ 65535) :
    Calls Tryd.prog 145 #[.pointer (some ⟨rb, 0, none⟩), .int .i64 k] w (RdP w rb A c b sh (VSl A) (takR sh b p k)) := by
  have GU := Lib.hid (fun w => giveUp_any sh w)
  have H := Lib.hid h
  obtain ⟨c0, c1, c2, f1⟩ := h.cells
  have hle := h.le
  have hmx := h.mx
  unfold takR
  clear h
  obtain ⟨n, hn⟩ : ∃ n, n = b.length := ⟨_, rfl⟩
  rw [← hn] at c0 hle hmx ⊢
  have w1 : wrap64 ((n : Int) - p) = (n : Int) - p := by unfold wrap64; omega
  have w2 : wrap64 ((p : Int) + k) = ((p + k : Nat) : Int) := by unfold wrap64; omega
  by_cases hl : n < p + k
  · rw [if_pos hl]
    have hl' : (n : Int) - p < (k : Int) := by omega
    have HN := Lib.hid hn
    clear w2 hl hn
    go_enter Tryd.func145, Tryd.ntmps145
    go_wp2_with fail
    go_quiet (fail)
    go_wp2_with fail
    refine (GU.out _).mono ?_
    rintro e w' ⟨rfl, rfl⟩
    exact ⟨rfl, rfl, Mod.below (below_drewN (Below.refl _ _) _)⟩
  · rw [if_neg hl]
    obtain ⟨A', s1, hS, hA⟩ := (H.out).sl.midB p k (p : Int) ((p + k : Nat) : Int) (by omega) rfl rfl
    rw [← hn] at s1
    have hP2 : ((p + k : Nat) : Int) = (p : Int) + (k : Int) := Int.natCast_add _ _
    have HM := Lib.hid (fun q => Mod.trans (Mod.below (S := fun k => k = rb) (below_drewN (Below.refl w.heap.size w) q)) (mod_setCell (w.drewN q) rb 1 (.int .i64 ((p : Int) + (k : Int)))) (fun i hi => .inl hi))
    have HT := Lib.hid (fun q => by have := ((H.out).below (below_drewN (Below.refl w.heap.size w) q)).turn (p + k) (by omega); rw [hP2] at this; exact this)
    have HS := Lib.hid (fun q => hS.mod (HM.out q) (fun q hq e => by
      obtain ⟨a, h1, h2⟩ := hA q hq
      exact (H.out).off a h1 (h2.symm.trans e)))
    have hx : ((b.drop p).take k).length = k := by rw [List.length_take, List.length_drop]; omega
    have HX := Lib.hid hx
    have hl' : ¬ (n : Int) - p < (k : Int) := by omega
    have d0 := fun q => (HT.out q).cells.1
    have d1 := fun q => (HT.out q).cells.2.1
    rw [← hn] at d0
    rw [hP2] at s1 w2
    generalize (b.drop p).take k = x at *
    clear hl hn hS hA GU hx c2 hP2
    go_enter Tryd.func145, Tryd.ntmps145
    go_wp2_with fail
    go_quiet (fail)
    go_wp2_with fail
    go_quiet (fail)
    go_wp2_with fail
    go_ret
    exact ⟨_, rfl, ⟨A', c - p, by rw [HX.out]; rfl, (HS.out _).on (below_drewN (Below.refl _ _) _)⟩, (HT.out _).below (below_drewN (Below.refl _ _) _), (HM.out _).then (below_drewN (Below.refl _ _) _)⟩
theorem or_wrapD (n y : Nat) (hn : n < 72057594037927936) (hy : y < 256) : bits .or .i64 (wrap64 ((n : Int) * 256)) (y : Int) = wrap64 ((n * 256 + y : Nat) : Int) := by
  have h1 : BitVec.ofInt 64 (wrap64 ((n : Int) * 256)) = BitVec.ofNat 64 (n * 256) := by
    apply BitVec.eq_of_toNat_eq
    rw [BitVec.toNat_ofInt, BitVec.toNat_ofNat]
    unfold wrap64
    omega
  have h2 : (n * 256 ||| y) = n * 256 + y := by
    rw [Nat.mul_comm]
    exact (Nat.two_pow_add_eq_or_of_lt (i := 8) hy n).symm
  have h3 : n * 256 < 18446744073709551616 := by omega
  unfold bits
  change IntKind.i64.wrap (((BitVec.ofInt 64 (wrap64 ((n : Int) * 256)) ||| BitVec.ofInt 64 (y : Int)).toNat : Nat) : Int) = _
  rw [h1, BitVec.ofInt_natCast, BitVec.toNat_or, BitVec.toNat_ofNat, BitVec.toNat_ofNat, Nat.mod_eq_of_lt h3, Nat.mod_eq_of_lt (by omega), h2, IntKind.wrap_i64]
  unfold wrap64
  omega
theorem numR_no {sh : Nat} {b : Bs} {p k : Nat} (h : takR sh b p k = .no sh) : numR sh b p k = .no sh := by unfold numR; rw [h]; rfl
theorem numR_ok {sh : Nat} {b : Bs} {p k : Nat} {x : Bs} {z : Nat} (h : takR sh b p k = .ok x z) : numR sh b p k = .ok (vN x) z := by unfold numR; rw [h]; rfl
theorem takR_cases (sh : Nat) (b : Bs) (p k : Nat) : takR sh b p k = .no sh ∨ (takR sh b p k = .ok ((b.drop p).take k) (p + k) ∧ p + k ≤ b.length ∧ ((b.drop p).take k).length = k) := by
  unfold takR
  by_cases h : b.length < p + k
  · exact .inl (if_pos h)
  · exact .inr ⟨if_neg h, by omega, by rw [List.length_take, List.length_drop]; omega⟩
set_option maxHeartbeats 1000000 in
theorem numD_any (w : World) (rb : Nat) (A : Option Addr) (c : Nat) (b : Bs) (p sh k : Nat) (h : RdM w rb A c b p sh) (hk : k ≤ 4) :
    Calls Tryd.prog 118 #[.pointer (some ⟨rb, 0, none⟩), .int .i64 k] w (RdP w rb A c b sh VInt (numR sh b p k)) := by
  have T := Lib.hid (take_any w rb A c b p sh k h (by omega))
  have H0 : Hid (Value.int .i64 0 = .int .i64 (vN ([] : Bs))) := Lib.hid rfl
  rcases takR_cases sh b p k with ht | ⟨ht, hle, hlx⟩
  · rw [numR_no ht]
    rw [ht] at T
    clear h ht H0
    go_enter Tryd.func118, Tryd.ntmps118
    go_wp2_with fail
    refine T.out.mono ?_
    rintro e w1 ⟨rfl, hM⟩
    exact ⟨rfl, rfl, hM⟩
  · rw [numR_ok ht]
    rw [ht] at T
    generalize (b.drop p).take k = t at *
    clear h ht hle
    go_enter Tryd.func118, Tryd.ntmps118
    go_wp2_with fail
    refine T.out.mono ?_
    rintro e w1 ⟨v, rfl, ⟨A1, c1, rfl, hS⟩, hR, hM⟩
    have HR := Lib.hid hR
    have HM := Lib.hid hM
    have hB1 := hS.bys
    obtain ⟨n, hn⟩ : ∃ n, n = t.length := ⟨_, rfl⟩
    rw [← hn] at hlx ⊢
    have hn4 : n ≤ 4 := by omega
    have HN := Lib.hid hn
    clear hn hR T hS hM hlx
    go_wp2_with fail
    go_loop [5, 12] (fun v i => ∃ k : Nat, i = .int .i64 k ∧ k ≤ n ∧ v = .int .i64 (vN (t.take k) : Nat)) (fun _ i => n - (intOf i).toNat)
    case atStart => exact ⟨0, rfl, by omega, H0.out⟩
    case round =>
      obtain ⟨k, rfl, hk, rfl⟩ := hrel
      clear H0
      by_cases hlt : k < n
      · have hlt' : (k : Int) < (n : Int) := by omega
        have kt : k < t.length := by have := HN.out; omega
        obtain ⟨g1, o1, rfl, hc⟩ := hB1 (by omega)
        have y := hc k kt
        have hv : vN (t.take (k + 1)) = vN (t.take k) * 256 + (t[k]).toNat := by rw [List.take_succ_eq_append_getElem kt, vN_snoc]
        have hb : vN (t.take k) < 16777216 := by
          have h1 := vN_lt (t.take k).length (t.take k) rfl
          have h2 : (t.take k).length ≤ 3 := by rw [List.length_take]; omega
          have h3 : 256 ^ (t.take k).length ≤ 16777216 := Nat.le_trans (Nat.pow_le_pow_right (by decide) h2) (by decide)
          omega
        have hx := (t[k]).toNat_lt
        have HO := or_wrapD (vN (t.take k)) (t[k]).toNat (by omega) hx
        have hwr : wrap64 ((vN (t.take k) : Int) * 256) = (vN (t.take k) : Int) * 256 := by unfold wrap64; omega
        have hwr2 : wrap64 ((vN (t.take k) * 256 + (t[k]).toNat : Nat) : Int) = ((vN (t.take k) * 256 + (t[k]).toNat : Nat) : Int) := by unfold wrap64; omega
        rw [hwr2, ← hv, hwr] at HO
        generalize t[k].toNat = x at *
        generalize vN (t.take k) = N at *
        generalize hM : vN (t.take (k + 1)) = Q at *
        have HM2 := Lib.hid hM
        clear hv hM hc hwr2
        go_wp2_with fail
        go_round
        case rel => exact ⟨k + 1, by go_num, by omega, by rw [HM2.out]⟩
        case measure => simp [intOf]; omega
      · have hlt' : ¬ (k : Int) < (n : Int) := by omega
        obtain rfl : k = n := by omega
        have htk : t.take k = t := by rw [HN.out, List.take_length]
        rw [htk]
        clear htk
        generalize vN t = Q at *
        go_wp2_with fail
        go_ret
        exact ⟨_, rfl, rfl, HR.out, HM.out⟩
end Go.Proofs.YtknpkifhkefikaaDoor
namespace Go.Proofs.YtknpkifhkefikaaDoor
open Go.RowKit
set_option linter.unusedVariables false
set_option maxRecDepth 100000

theorem numR_one {sh : Nat} {b : Bs} {p : Nat} (h : p < b.length) : numR sh b p 1 = .ok b[p].toNat (p + 1) := by
  unfold numR takR
  rw [if_neg (by omega), List.drop_eq_getElem_cons h, List.take_succ_cons, List.take_zero, Rd.then_ok]
  simp [vN]
theorem numR_end {sh : Nat} {b : Bs} {p : Nat} (h : ¬ p < b.length) : numR sh b p 1 = .no sh := by
  unfold numR takR
  rw [if_pos (by omega)]
  rfl
def placeOf (rb : Nat) (w : World) : Nat := match w.cell? ⟨rb, 1, none⟩ with
  | some (.int _ i) => i.toNat
  | _ => 0
theorem RdM.place {w : World} {rb : Nat} {A : Option Addr} {c : Nat} {b : Bs} {p sh : Nat} (h : RdM w rb A c b p sh) : placeOf rb w = p := by
  unfold placeOf
  rw [h.cells.2.1]
  simp
/-- The reader is where it was. -/
theorem RdM.far {w wr w1 : World} {rb : Nat} {A : Option Addr} {c : Nat} {b : Bs} {p0 p sh sh0 : Nat} (h0 : RdM w rb A c b p0 sh0) (h : RdM wr rb A c b p sh) (hm : Mod (fun k => k = rb) w w1) (hr : w1.heap[rb]? = wr.heap[rb]?) : RdM w1 rb A c b p sh := ⟨hr.trans h.row, h0.sl.mod hm h0.off, h.off, h.le, h.mx⟩
theorem OwnR.modB {w w1 : World} {base rb : Nat} {v : Value} {l : Bs} (h : OwnR w base v l) (k : Mod (fun k => k = rb) w w1) (hb : rb < base) : OwnR w1 base v l := own_mod h k (own_offV h (fun i hi => by omega))
/-- Within a name. -/
structure NmS (w : World) (rb : Nat) (A : Option Addr) (c : Nat) (b : Bs) (sh : Nat) (R : Rd Bs) (v : Value) (g p bh : Nat) (acc : Bs) (wr : World) : Prop where
  rd : RdM wr rb A c b p sh
  own : OwnR wr w.heap.size v acc
  mod : Mod (fun k => k = rb) w wr
  len : acc.length ≤ 254
  hbh : bh ≤ b.length
  eq : R = nmR sh b g p bh acc
/-- A part is read. -/
theorem NmS.step {w : World} {rb : Nat} {A : Option Addr} {c : Nat} {b : Bs} {sh p0 : Nat} {R : Rd Bs} {v : Value} {g p bh : Nat} {acc : Bs} {wr w1 : World} (h0 : RdM w rb A c b p0 sh) (h : NmS w rb A c b sh R v g p bh acc wr) (k : Mod (fun k => k = rb) wr w1) : OwnR w1 w.heap.size v acc ∧ Mod (fun k => k = rb) w w1 :=
  ⟨h.own.modB k h0.lt, h.mod.trans k (fun i hi => .inl hi)⟩
/-- Bytes are appended to the name. -/
theorem grown_app {w wr w1 : World} {rb : Nat} {A : Option Addr} {c : Nat} {b : Bs} {sh p0 p : Nat} {v : Value} {acc : Bs} (h0 : RdM w rb A c b p0 sh) (hr : RdM wr rb A c b p sh) (hm : Mod (fun k => k = rb) w wr) (ho : OwnR wr w.heap.size v acc) (hg : wr.grownBy w1 v.ownBlock) : RdM w1 rb A c b p sh ∧ Mod (fun k => k = rb) w w1 := by
  have hm1 : Mod (fun k => k = rb) w w1 := hm.trans (Mod.grown (S := fun i => v.ownBlock = some i) hg (fun i hi => hi)) (fun i hi => .inr (ho.ownB.lt i hi).1)
  exact ⟨h0.far hr hm1 (hg.block rb hr.lt (fun e => by have := (ho.ownB.lt rb e.symm).1; have := h0.lt; omega)), hm1⟩
/-- What holds at the label. -/
def NmJ (w : World) (rb : Nat) (A : Option Addr) (c : Nat) (b : Bs) (sh : Nat) (R : Rd Bs) (l : Nat) (a : Act) (wr : World) : Prop :=
  l = 0 ∧ a.tmps.size = 64 ∧ a.defers = [] ∧ a.tmps.getD 0 undef = .pointer (some ⟨rb, 0, none⟩) ∧ ∃ (p bh : Nat) (acc : Bs) (v : Value), a.tmps.getD 3 undef = v ∧ a.tmps.getD 4 undef = .int .i64 bh ∧ NmS w rb A c b sh R v p p bh acc wr
def nmM (rb : Nat) (_ : Nat) (_ : Act) (w : World) : Nat := placeOf rb w
noncomputable def nmBody : Code := match Tryd.f117.body with | some (.seq _ (.scope c)) => c | _ => .skip
def NmQ (w : World) (rb : Nat) (A : Option Addr) (c : Nat) (b : Bs) (sh : Nat) (R : Rd Bs) (l : Nat) (a : Act) (wr : World) : Exit → Act → World → Prop :=
  Jumps (fun l' a' w' => NmJ w rb A c b sh R l' a' w' ∧ nmM rb l' a' w' < nmM rb l a wr) (bodyPost Tryd.prog Tryd.f117 (RdP w rb A c b sh VStr R))
theorem NmQ.fail {w : World} {rb : Nat} {A : Option Addr} {c : Nat} {b : Bs} {sh : Nat} {R : Rd Bs} {l : Nat} {a : Act} {wr : World} {k : Nat} {a' : Act} {w' : World} (hd : a'.defers = []) (hR : R = .no k) (hm : Mod (fun k => k = rb) w w') :
    NmQ w rb A c b sh R l a wr (.panic [{ v := .iface 30 (.int .i64 k), recovered := false }]) a' w' := by
  subst hR
  exact ⟨hd, rfl, hm⟩
theorem NmQ.ret {w : World} {rb : Nat} {A : Option Addr} {c : Nat} {b : Bs} {sh : Nat} {R : Rd Bs} {l : Nat} {a a' : Act} {wr w' : World} : NmQ w rb A c b sh R l a wr .ret a' w' = bodyPost Tryd.prog Tryd.f117 (RdP w rb A c b sh VStr R) .ret a' w' := rfl
theorem nm_frame (a : Act) (h : a.tmps.size = 64) (hd : a.defers = []) : ∃ u : Nat → Value, (∀ i, u i = a.tmps.getD i undef) ∧ a = ⟨#[u 0, u 1, u 2, u 3, u 4, u 5, u 6, u 7, u 8, u 9, u 10, u 11, u 12, u 13, u 14, u 15, u 16, u 17, u 18, u 19, u 20, u 21, u 22, u 23, u 24, u 25, u 26, u 27, u 28, u 29, u 30, u 31, u 32, u 33, u 34, u 35, u 36, u 37, u 38, u 39, u 40, u 41, u 42, u 43, u 44, u 45, u 46, u 47, u 48, u 49, u 50, u 51, u 52, u 53, u 54, u 55, u 56, u 57, u 58, u 59, u 60, u 61, u 62, u 63], []⟩ :=
  ⟨fun i => a.tmps.getD i undef, fun _ => rfl, frame_slots a 64 h hd⟩

set_option maxHeartbeats 4000000 in
set_option maxRecDepth 100000 in
theorem nm_pass (w : World) (rb : Nat) (A : Option Addr) (c : Nat) (b : Bs) (sh p0 : Nat) (R : Rd Bs) (h0 : RdM w rb A c b p0 sh) (l : Nat) (a : Act) (wr : World) (h : NmJ w rb A c b sh R l a wr) : (behindL nmBody l).wp Tryd.prog (NmQ w rb A c b sh R l a wr) a wr := by
  obtain ⟨rfl, h1, h2, h3, p, bh, acc, v, h4, h5, hs⟩ := h
  obtain ⟨u, hu, ha⟩ := nm_frame a h1 h2
  have HM : Hid (nmM rb 0 a wr = p) := Lib.hid hs.rd.place
  obtain ⟨Q, hQ⟩ : ∃ Q, Q = NmQ w rb A c b sh R 0 a wr := ⟨_, rfl⟩
  rw [← hQ]
  have HQ := Lib.hid hQ
  rw [← hu] at h3 h4 h5
  rw [ha, h3, h4, h5]
  have H0 := Lib.hid h0
  have HS0 := Lib.hid hs
  have c1 := hs.rd.cells.2.1
  have ND := Lib.hid (fun wr p (h : RdM wr rb A c b p sh) => (show Calls Tryd.prog 118 #[.pointer (some ⟨rb, 0, none⟩), .int .i64 1] wr (RdP wr rb A c b sh VInt (numR sh b p 1)) from numD_any wr rb A c b p sh 1 h (by omega)))
  have TK := Lib.hid (fun wr p k (h : RdM wr rb A c b p sh) (hk : k ≤ 65535) => take_any wr rb A c b p sh k h hk)
  have GU := Lib.hid (fun k w => giveUp_any k w)
  have FAIL := Lib.hid (fun k a' w' hd hR hm => NmQ.fail (w := w) (rb := rb) (A := A) (c := c) (b := b) (sh := sh) (R := R) (l := 0) (a := a) (wr := wr) (k := k) (a' := a') (w' := w') hd hR hm)
  rw [← hQ] at FAIL
  have HBH := Lib.hid hs.hbh
  have HS0p : Hid (p ≤ b.length) := Lib.hid hs.rd.le
  clear ha hu h1 h2 h3 h4 h5 hQ h0 hs
  refine wp_behind (x := ?x) ?h ?g
  case h =>
    unfold nmBody
    dsimp only [Tryd.f117]
    rw [fl_region, fl_region, fl_here]
  go_wp2_with fail
  go_loopw [3, 4] (fun v3 v4 wr2 => ∃ (q : Nat) (ac : Bs), v4 = .int .i64 bh ∧ Hid (NmS w rb A c b sh R v3 p q bh ac wr2)) (fun _ _ wr2 => b.length - placeOf rb wr2)
  case atStart => exact ⟨p, acc, rfl, HS0⟩
  case round =>
    obtain ⟨q, ac, rfl, HS⟩ := hrel
    rename World => wo
    have HPL := Lib.hid HS.out.rd.place
    clear HS0 c1
    by_cases hq : q < b.length
    · have N1 := ND.out wo q HS.out.rd
      rw [numR_one hq] at N1
      have N1 := Lib.hid N1
      obtain ⟨x, hx⟩ : ∃ x, x = b[q].toNat := ⟨_, rfl⟩
      rw [← hx] at N1
      have HX := Lib.hid hx
      have hxl : x < 256 := by rw [hx]; exact (b[q]).toNat_lt
      clear hx
      go_wp2_with fail
      refine N1.out.mono ?_
      rintro e w1 ⟨v1, rfl, rfl, hr1, hm1⟩
      obtain ⟨ho1, hm1⟩ := HS.out.step H0.out hm1
      have HR1 := Lib.hid hr1
      have HO1 := Lib.hid ho1
      have HM1 := Lib.hid hm1
      clear hr1 ho1 hm1 N1
      by_cases h192 : 192 ≤ x
      · have h192' : (192 : Int) ≤ (x : Int) := by omega
        by_cases hq2 : q + 1 < b.length
        · have N2 := ND.out w1 (q + 1) HR1.out
          rw [numR_one hq2] at N2
          obtain ⟨y, hy⟩ : ∃ y, y = b[q + 1].toNat := ⟨_, rfl⟩
          rw [← hy] at N2
          have N2 := Lib.hid N2
          have HY := Lib.hid hy
          have hyl : y < 256 := by rw [hy]; exact (b[q + 1]).toNat_lt
          have hb1 : wrap64 ((x : Int) - 192) = (x : Int) - 192 := by unfold wrap64; omega
          have hb2 : wrap64 (((x : Int) - 192) * 256) = ((x : Int) - 192) * 256 := by unfold wrap64; omega
          obtain ⟨P, hP⟩ : ∃ P, P = (x - 192) * 256 + y := ⟨_, rfl⟩
          have HO := or_wrapD (x - 192) y (by omega) hyl
          rw [show ((x - 192 : Nat) : Int) = (x : Int) - 192 by omega, hb2, ← hP, show wrap64 (P : Int) = P by unfold wrap64; omega] at HO
          have HPP : Hid (P = (b[q].toNat - 192) * 256 + b[q + 1].toNat) := Lib.hid (by rw [← HX.out, ← HY.out]; exact hP)
          have hPb : P < 65536 := by omega
          clear hy hP
          go_wp2_with fail
          refine N2.out.mono ?_
          rintro e w2 ⟨v2, rfl, rfl, hr2, hm2⟩
          have HM2 := Lib.hid (HM1.out.trans hm2 (fun i hi => .inl hi))
          have HO2 := Lib.hid (HO1.out.modB hm2 H0.out.lt)
          have HR2 := Lib.hid hr2
          have c1 := hr2.cells.2.1
          have f1 := hr2.cells.2.2.2
          clear hm2 hr2 N2 HM1 HO1 HR1
          by_cases hg : P < p
          · have hg' : ¬ (p : Int) ≤ (P : Int) := by omega
            have HRT := Lib.hid (HR2.out.turn P (by have := HS0p.out; omega))
            have HMT := Lib.hid (HM2.out.trans (mod_setCell w2 rb 1 (.int .i64 P)) (fun i hi => .inl hi))
            have HOT := Lib.hid (HO2.out.modB (mod_setCell w2 rb 1 (.int .i64 P)) H0.out.lt)
            have HN := Lib.hid (HS.out.eq.trans (nmR_back hq (by rw [← HX.out]; exact h192) hq2 (by rw [← HPP.out]; exact hg)))
            rw [← HPP.out] at HN
            by_cases hbz : bh = 0
            · subst hbz
              have HN2 : Hid (R = nmR sh b P P (q + 2) ac) := HN
              clear HN
              go_wp2_with fail
              refine wp_goto ?_
              show Q (.goto 0) _ _
              rw [HQ.out]
              exact ⟨⟨rfl, rfl, rfl, rfl, P, q + 2, ac, _, rfl, rfl, ⟨HRT.out, HOT.out, HMT.out, HS.out.len, by omega, HN2.out⟩⟩, by rw [HM.out]; show placeOf rb _ < p; rw [HRT.out.place]; exact hg⟩
            · have hbz' : ((bh : Int) == 0) = false := by simp; omega
              have HN2 : Hid (R = nmR sh b P P bh ac) := Lib.hid (by have := HN.out; rw [if_neg hbz] at this; exact this)
              clear HN hbz
              go_wp2_with fail
              refine wp_goto ?_
              show Q (.goto 0) _ _
              rw [HQ.out]
              exact ⟨⟨rfl, rfl, rfl, rfl, P, bh, ac, _, rfl, rfl, ⟨HRT.out, HOT.out, HMT.out, HS.out.len, HBH.out, HN2.out⟩⟩, by rw [HM.out]; show placeOf rb _ < p; rw [HRT.out.place]; exact hg⟩
          · have hg' : (p : Int) ≤ (P : Int) := by omega
            have HN := Lib.hid (HS.out.eq.trans (nmR_ahead hq (by rw [← HX.out]; exact h192) hq2 (by rw [← HPP.out]; exact hg)))
            have G1 := Lib.hid (show Calls Tryd.prog 91 #[.int .i64 40] w2 (fun e w' => e = gaveUp 40 ∧ w' = w2) from GU.out 40 w2)
            go_wp2_with fail
            refine G1.out.mono ?_
            rintro e w3 ⟨rfl, rfl⟩
            exact FAIL.out _ _ _ rfl HN.out HM2.out
        · have N2 := ND.out w1 (q + 1) HR1.out
          rw [numR_end hq2] at N2
          have N2 := Lib.hid N2
          have hb1 : wrap64 ((x : Int) - 192) = (x : Int) - 192 := by unfold wrap64; omega
          have HN := Lib.hid (HS.out.eq.trans (nmR_half hq (by rw [← HX.out]; exact h192) hq2))
          go_wp2_with fail
          refine N2.out.mono ?_
          rintro e w2 ⟨rfl, hm2⟩
          exact FAIL.out _ _ _ rfl HN.out (HM1.out.trans hm2 (fun i hi => .inl hi))
      · have h192' : ¬ (192 : Int) ≤ (x : Int) := by omega
        by_cases h63 : 63 < x
        · have h63' : (63 : Int) < (x : Int) := by omega
          have HN := Lib.hid (HS.out.eq.trans (nmR_wide hq (by rw [← HX.out]; exact h192) (by rw [← HX.out]; exact h63)))
          have G1 := Lib.hid (show Calls Tryd.prog 91 #[.int .i64 10] w1 (fun e w' => e = gaveUp 10 ∧ w' = w1) from GU.out 10 w1)
          go_wp2_with fail
          refine G1.out.mono ?_
          rintro e w3 ⟨rfl, rfl⟩
          exact FAIL.out _ _ _ rfl HN.out HM1.out
        · have h63' : ¬ (63 : Int) < (x : Int) := by omega
          have hu8 : IntKind.u8.wrap (x : Int) = (x : Int) := by simp [IntKind.wrap, IntKind.bits, IntKind.signed]; omega
          obtain ⟨y0, hy0⟩ : ∃ y0, y0 = b[q] := ⟨_, rfl⟩
          have hxy : x = y0.toNat := by rw [HX.out, hy0]
          have HXY := Lib.hid hxy
          have HY0 := Lib.hid hy0
          obtain ⟨W1, hW1⟩ : ∃ W1, W1 = w1.alloc (.cells #[.int .u8 x] 5) := ⟨_, rfl⟩
          have hbA : Below w1.heap.size w1 W1 := by rw [hW1]; exact Below.alloc (Below.refl _ _) (Nat.le_refl _) _
          have S1 := Lib.hid (show Sl W1 (some ⟨w1.heap.size, 0, none⟩) 1 [y0] by rw [hW1]; exact Sl.made (l := [y0]) (by rw [hxy]; rfl) (by simp))
          have HOW := Lib.hid (HO1.out.below hbA)
          have HRW := Lib.hid (HR1.out.below hbA)
          have HMW := Lib.hid (HM1.out.then hbA)
          have HBS := Lib.hid (show w.heap.size ≤ W1.heap.size from HMW.out.size)
          have HLE := HS.out.len
          have HW1 := Lib.hid hW1
          clear hy0 hxy hW1 hbA HLE
          go_wp2_with (first
            | rw [← HW1.out]
            | (at_builtin; refine wpList_appR rfl (.tmp 39) (.tmp 42) rfl w.heap.size _ ac rfl HOW.out (some ⟨w1.heap.size, 0, none⟩) 1 1 rfl [y0] rfl S1.out.bys (fun h => by cases h) (by have := HS.out.len; simp; omega) HBS.out ?_)
            | fail)
          intro v2 w2 hown2 hg2
          obtain ⟨ac1, hac1⟩ : ∃ z, z = ac ++ [y0] := ⟨_, rfl⟩
          rw [← hac1] at hown2
          have HAL : Hid (ac1.length = ac.length + 1) := Lib.hid (by rw [hac1, List.length_append]; rfl)
          have HAC := Lib.hid hac1
          clear hac1
          obtain ⟨hr2, hm2⟩ := grown_app H0.out HRW.out HMW.out HOW.out hg2
          have HO2 := Lib.hid hown2
          have HR2 := Lib.hid hr2
          have HM2 := Lib.hid hm2
          have T2 := TK.out w2 (q + 1) x hr2 (by omega)
          clear hown2 hg2 hr2 hm2 S1 HOW HRW HMW HBS HW1 HO1 HR1 HM1
          by_cases hcut : q + 1 + x ≤ b.length
          · have ht : takR sh b (q + 1) x = .ok ((b.drop (q + 1)).take x) (q + 1 + x) := by unfold takR; rw [if_neg (by omega)]
            rw [ht] at T2
            have T2 := Lib.hid T2
            obtain ⟨xs, hxs⟩ : ∃ xs, xs = (b.drop (q + 1)).take x := ⟨_, rfl⟩
            have hxl2 : xs.length = x := by rw [hxs, List.length_take, List.length_drop]; omega
            rw [← hxs] at T2
            have HXS := Lib.hid hxs
            have HXL := Lib.hid hxl2
            clear ht hxs hxl2
            go_wp2_with fail
            refine T2.out.mono ?_
            rintro e w3 ⟨v3, rfl, ⟨A3, c3, rfl, hsl3⟩, hr3, hm3⟩
            have HO3 := Lib.hid (HO2.out.modB hm3 H0.out.lt)
            have HM3 := Lib.hid (HM2.out.trans hm3 (fun i hi => .inl hi))
            have HR3 := Lib.hid hr3
            have HS3 := Lib.hid hsl3
            have HB3 := Lib.hid (show w.heap.size ≤ w3.heap.size from HM3.out.size)
            clear hsl3 hr3 hm3 T2 HO2 HM2 HR2
            rw [HXL.out]
            go_wp2_with (first
              | (at_builtin; refine wpList_appR rfl (.tmp 44) (.tmp 47) rfl w.heap.size _ ac1 rfl HO3.out A3 x c3 rfl xs HXL.out.symm HS3.out.bys HS3.out.nil (by have := HS.out.len; have := HXL.out; have := HAL.out; omega) HB3.out ?_)
              | fail)
            intro v4 w4 hown4 hg4
            obtain ⟨hr4, hm4⟩ := grown_app H0.out HR3.out HM3.out HO3.out hg4
            have HR4 := Lib.hid hr4
            have HM4 := Lib.hid hm4
            obtain ⟨A4, c4, rfl, hsl4⟩ := hown4.ownB.bysN
            have hlen4 : (ac1 ++ xs).length = ac.length + 1 + x := by rw [List.length_append, HAL.out, HXL.out]
            obtain ⟨n4, hn4⟩ : ∃ n, n = (ac1 ++ xs).length := ⟨_, rfl⟩
            rw [← hn4] at hlen4
            rw [← hn4]
            have HLEN := Lib.hid hlen4
            have HN4 := Lib.hid hn4
            clear hlen4 hn4
            have HO4 := Lib.hid hown4
            have HSL4 := Lib.hid hsl4
            clear hown4 hg4 hr4 hm4 hsl4 HO3 HM3 HR3 HS3 HB3
            by_cases hz : x = 0
            · have hz' : ((x : Int) == 0) = true := by simp [hz]
              have HN := Lib.hid (HS.out.eq.trans (nmR_root hq (by rw [← HX.out]; exact hz)))
              have hxe : ac1 ++ xs = ac ++ [0] := by
                have e1 : xs = [] := List.length_eq_zero_iff.1 (by rw [HXL.out]; exact hz)
                have e2 : y0 = 0 := UInt8.toNat_inj.1 (by rw [← HXY.out, hz]; rfl)
                rw [HAC.out, e1, e2, List.append_nil]
              have C4 := string_bys A4 (ac1 ++ xs) c4 w4 HSL4.out.bys
              rw [← HN4.out] at C4
              have HXE := Lib.hid hxe
              by_cases hbz : bh = 0
              · have hbz' : ¬ (0 : Int) < (bh : Int) := by omega
                have HN2 : Hid (R = .ok (ac ++ [0]) (q + 1 + x)) := Lib.hid (by have := HN.out; rw [if_pos hbz] at this; rw [this, hz])
                clear HN hbz hz hxe
                generalize ac1 ++ xs = nn at *
                go_wp2_with fail
                show Q .ret _ _
                rw [HQ.out, NmQ.ret]
                go_ret
                rw [HN2.out]
                exact ⟨_, rfl, by rw [← HXE.out]; rfl, HR4.out, HM4.out⟩
              · have hbz' : (0 : Int) < (bh : Int) := by omega
                have HN2 : Hid (R = .ok (ac ++ [0]) bh) := Lib.hid (by have := HN.out; rw [if_neg hbz] at this; exact this)
                have f4 := HR4.out.cells.2.2.2
                have d4 := HR4.out.cells.2.1
                have HR5 := Lib.hid (HR4.out.turn bh HBH.out)
                have HM5 := Lib.hid (HM4.out.trans (mod_setCell w4 rb 1 (.int .i64 bh)) (fun i hi => .inl hi))
                have HSL5 := HSL4.out.bys.mod (mod_setCell w4 rb 1 (.int .i64 bh)) (fun q hq e => by
                  have hlt := (HO4.out.ownB.lt q.block (by rw [hq]; rfl)).1
                  have := H0.out.lt
                  omega)
                have C5 := string_bys A4 (ac1 ++ xs) c4 _ HSL5
                rw [← HN4.out] at C5
                clear HN hbz hz hxe HSL5 C4
                generalize ac1 ++ xs = nn at *
                go_wp2_with fail
                show Q .ret _ _
                rw [HQ.out, NmQ.ret]
                go_ret
                rw [HN2.out]
                exact ⟨_, rfl, by rw [← HXE.out]; rfl, HR5.out, HM5.out⟩
            · have hz' : ((x : Int) == 0) = false := by simp [hz]
              have hac := HS.out.len
              have hlen4 := HLEN.out
              have hw4 : wrap64 ((n4 : Int) + 1) = (n4 : Int) + 1 := by unfold wrap64; omega
              by_cases hlong : 255 < n4 + 1
              · have hlong' : (255 : Int) < (n4 : Int) + 1 := by omega
                have HN := Lib.hid (HS.out.eq.trans (nmR_long hq (by rw [← HX.out]; exact h63) (by rw [← HX.out]; exact hcut) (by rw [← HX.out]; exact hz) (by rw [← HX.out]; omega)))
                have G1 := Lib.hid (show Calls Tryd.prog 91 #[.int .i64 11] w4 (fun e w' => e = gaveUp 11 ∧ w' = w4) from GU.out 11 w4)
                clear hlen4 hac
                go_wp2_with fail
                refine G1.out.mono ?_
                rintro e w5 ⟨rfl, rfl⟩
                exact FAIL.out _ _ _ rfl HN.out HM4.out
              · have hlong' : ¬ (255 : Int) < (n4 : Int) + 1 := by omega
                have HN := Lib.hid (HS.out.eq.trans (nmR_label hq (by rw [← HX.out]; exact h63) (by rw [← HX.out]; exact hcut) (by rw [← HX.out]; exact hz) (by rw [← HX.out]; omega)))
                rw [← HX.out, ← HXS.out, ← HY0.out, show ac ++ y0 :: xs = ac1 ++ xs by rw [HAC.out]; simp] at HN
                have HNEW : Hid (NmS w rb A c b sh R (.slice A4 n4 c4) p (q + 1 + x) bh (ac1 ++ xs) w4) := Lib.hid ⟨HR4.out, by rw [HN4.out]; exact HO4.out, HM4.out, by rw [← HN4.out]; omega, HBH.out, HN.out⟩
                have HP4 := Lib.hid HR4.out.place
                have hqb : q + 1 + x ≤ b.length := hcut
                clear hlen4 hac HN HO4 HSL4
                generalize ac1 ++ xs = nn at *
                go_wp2_with fail
                go_roundw
                case rel => exact ⟨q + 1 + x, nn, rfl, HNEW⟩
                case measure => rw [HP4.out, HPL.out]; omega
          · have ht : takR sh b (q + 1) x = .no sh := by unfold takR; rw [if_pos (by omega)]
            rw [ht] at T2
            have T2 := Lib.hid T2
            have HN := Lib.hid (HS.out.eq.trans (nmR_cut hq (by rw [← HX.out]; exact h63) (by rw [← HX.out]; exact hcut)))
            clear ht
            go_wp2_with fail
            refine T2.out.mono ?_
            rintro e w3 ⟨rfl, hm3⟩
            exact FAIL.out _ _ _ rfl HN.out (HM2.out.trans hm3 (fun i hi => .inl hi))
    · have N1 := ND.out wo q HS.out.rd
      rw [numR_end hq] at N1
      have N1 := Lib.hid N1
      have HN := Lib.hid (HS.out.eq.trans (nmR_end hq))
      go_wp2_with fail
      refine N1.out.mono ?_
      rintro e w1 ⟨rfl, hm1⟩
      exact FAIL.out _ _ _ rfl HN.out (HS.out.mod.trans hm1 (fun i hi => .inl hi))
set_option maxHeartbeats 1000000 in
set_option maxRecDepth 100000 in
theorem nameD_any (w : World) (rb : Nat) (A : Option Addr) (c : Nat) (b : Bs) (p sh : Nat) (h : RdM w rb A c b p sh) :
    Calls Tryd.prog 117 #[.pointer (some ⟨rb, 0, none⟩)] w (RdP w rb A c b sh VStr (nmR sh b p p 0 [])) := by
  have HP := Lib.hid (fun l a wr hj => nm_pass w rb A c b sh p (nmR sh b p p 0 []) h l a wr hj)
  have HFN := Lib.hid (fun l a wr (hj : NmJ w rb A c b sh (nmR sh b p p 0 []) l a wr) => show findLabel nmBody l = some (.seq .skip (behindL nmBody l)) by obtain ⟨rfl, _⟩ := hj; rfl)
  have HS : Hid (NmS w rb A c b sh (nmR sh b p p 0 []) (.slice none 0 0) p p 0 [] w) := Lib.hid ⟨h, World.ownsRow_nil _ _ _ _, Mod.refl _ _, by simp, by omega, rfl⟩
  have HPL := Lib.hid h.place
  generalize nmR sh b p p 0 [] = R at *
  clear h
  go_enter Tryd.func117, Tryd.ntmps117
  go_wp2_with fail
  refine wp_scope_labels (NmJ w rb A c b sh R) (behindL nmBody) (nmM rb) (fun l a wr hj => HFN.out l a wr hj) ?first (fun l a wr hj => HP.out l a wr hj)
  go_wp2_with fail
  refine wp_label ?_
  refine ‹∀ (a : Act) (w : World), Code.wp _ _ _ a w → _› _ _ ?_
  refine wp_weaken (HP.out 0 _ _ ?_) (fun l a wr hj => hj.1)
  exact ⟨rfl, rfl, rfl, rfl, p, 0, [], _, rfl, rfl, HS.out⟩
end Go.Proofs.YtknpkifhkefikaaDoor
