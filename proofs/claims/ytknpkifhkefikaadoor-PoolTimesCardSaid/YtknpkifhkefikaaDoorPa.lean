/-
  Two calls behind each other below one base.
  A slice of bytes in a row of the call's own that is written: cells, stores; bytes.Clone as such a row.
  append onto a slice of bytes in a plain row, from any source; where the new one lies.
  A net as a list of connections, and as it lies in memory: its struct, its map, its connections.
  The landed net's calls, over what it holds.
  The landed net's Write, Take, Drop.
-/
import Derived.Test.YtknpkifhkefikaaDoorGb
import Derived.Test.YtknpkifhkefikaaDoorGa
import Derived.Maps.AppendAt
import Derived.Test.YtknpkifhkefikaaDoorGc
import Derived.Maps.OwnSet
import Derived.WalkLawsBesides
import Derived.BigQuiet
import Derived.LoopN
import Derived.StillTailTactics
namespace Go.Proofs.YtknpkifhkefikaaDoor
open Go.RowKit
theorem Below.next {B : Nat} {w w1 w2 : World} (h : Below B w w1) (hs : B ≤ w1.heap.size) (k : Below w1.heap.size w1 w2) : Below B w w2 ∧ B ≤ w2.heap.size := ⟨Below.trans h (k.mono hs), Nat.le_trans hs k.size⟩
end Go.Proofs.YtknpkifhkefikaaDoor
namespace Go.Proofs.YtknpkifhkefikaaDoor
open Go.RowKit
set_option linter.unusedVariables false
set_option maxRecDepth 100000

/-- Block g is a plain row of bytes that begins with L. -/
def RowB (w : World) (g : Nat) (L : Bs) : Prop := ∃ cur, w.heap[g]? = some (.cells cur 5 (0, 0)) ∧ ∀ j (h : j < L.length), cur[j]? = some (byteV L[j])
theorem RowB.lt {w : World} {g : Nat} {L : Bs} (h : RowB w g L) : g < w.heap.size := by
  obtain ⟨cur, hg, _⟩ := h
  exact (Array.getElem?_eq_some_iff.1 hg).1
theorem RowB.cell {w : World} {g : Nat} {L : Bs} (h : RowB w g L) (j : Nat) (hj : j < L.length) : w.cell? ⟨g, j, none⟩ = some (.int .u8 (L[j]).toNat) := by
  obtain ⟨cur, hg, hc⟩ := h
  exact (cell_of_row _ _ _ _ _ _ hg).trans (hc j hj)
theorem RowB.frozen {w : World} {g : Nat} {L : Bs} (h : RowB w g L) (j : Nat) : w.frozen? ⟨g, j, none⟩ = false := by
  obtain ⟨cur, hg, hc⟩ := h
  exact frozen_of_row _ _ _ _ _ hg
theorem RowB.bys {w : World} {g : Nat} {L : Bs} (h : RowB w g L) : Bys w (some ⟨g, 0, none⟩) L := fun _ => ⟨g, 0, rfl, fun j hj => by rw [Nat.zero_add]; exact h.cell j hj⟩
theorem RowB.drew {w : World} {g : Nat} {L : Bs} (h : RowB w g L) : RowB w.drew g L := h
theorem RowB.set {w : World} {g : Nat} {L : Bs} (h : RowB w g L) (j : Nat) (x : UInt8) : RowB (w.setCell ⟨g, j, none⟩ (.int .u8 x.toNat)) g (L.set j x) := by
  obtain ⟨cur, hg, hc⟩ := h
  refine ⟨_, row_set _ hg, fun k hk => ?_⟩
  rw [List.length_set] at hk
  have := hc k hk
  by_cases e : j = k
  · subst e
    have hs : j < cur.size := (Array.getElem?_eq_some_iff.1 this).1
    simp [hs, byteV]
  · rw [Array.getElem?_setIfInBounds_ne e, this, List.getElem_set_ne e]
theorem RowB.block {w w1 : World} {g : Nat} {L : Bs} (h : RowB w g L) (e : w1.heap[g]? = w.heap[g]?) : RowB w1 g L := by
  obtain ⟨cur, hg, hc⟩ := h
  exact ⟨cur, e.trans hg, hc⟩
theorem RowB.of {w : World} {base n : Nat} {v : Value} {l : Bs} {xs : List Value} (h : w.ownsRow base 5 1 v n xs) (hx : xs = l.map byteV) : n = l.length ∧ ((v = .slice none 0 0 ∧ l = []) ∨ ∃ g cap, v = .slice (some ⟨g, 0, none⟩) l.length cap ∧ base ≤ g ∧ l.length ≤ cap ∧ cap ≤ maxLen ∧ RowB w g l) := by
  subst hx
  have hn : l.length = n := by have := h.1; simpa using this
  refine ⟨hn.symm, ?_⟩
  rcases h.2 with ⟨hv, h0⟩ | ⟨g, cap, cur, hv, hb, hh, hc, hm, hsz, ht⟩
  · exact .inl ⟨hv, List.eq_nil_of_length_eq_zero (by omega)⟩
  · rw [Nat.mul_one] at hsz ht
    refine .inr ⟨g, cap, by rw [hv, hn], hb, by omega, hm, cur, hh, fun j hj => ?_⟩
    have e := congrArg (fun x => x[j]?) ht
    simp [hj] at e
    rw [List.getElem?_take_of_lt (by omega)] at e
    simpa using e

/-- Nil just of nil. -/
def CV (v : Value) (A : Option Addr) : Prop := v = .slice none 0 0 ↔ A = none
theorem CV_nil : CV (.slice none 0 0) none := ⟨fun _ => rfl, fun _ => rfl⟩
set_option maxHeartbeats 1000000 in
/-- bytes.Clone, its answer as a plain row. -/
theorem CloneW_any (A : Option Addr) (l : Bs) (n c : Nat) (w : World) (hS : Bys w A l) (hn : n = l.length) (hl : n ≤ 140737488351232) (hin : ∀ p, A = some p → 0 < n → p.block < w.heap.size) :
    Calls Tryd.prog 19 #[.slice A n c] w fun e w' => ∃ v', e = .returned v' ∧ w'.ownsRow w.heap.size 5 1 v' n (l.map byteV) ∧ Below w.heap.size w w' ∧ CV v' A := by
  have q : ∀ (w : World) (a : Option Addr) (n c n' c' : Nat), (binOp .eql 29 (.slice a n c) (.slice none n' c')).run Tryd.prog w = .ok (.bool a.isNone) w := fun w a n c n' c' => Lib.run_eql_slice_nil w _ _ a n c n' c' Tryd.underlying29
  cases A with
  | none =>
    have hl0 : l = [] := by
      rcases l with _ | ⟨b, l⟩
      · rfl
      · obtain ⟨g, off, h, _⟩ := hS (by simp)
        cases h
    subst hl0
    obtain rfl : n = 0 := hn
    clear hS hin hl
    go_enter Tryd.func19, Tryd.ntmps19
    go_wp2_with fail
    go_ret
    exact ⟨_, rfl, World.ownsRow_nil _ _ _ _, Below.refl _ _, CV_nil⟩
  | some p =>
    have hcells : ∀ (o : Obj) j u, (l.map byteV)[j]? = some u → (w.alloc o).cell? (p.add j) = some u := by
      intro o j u hj
      rw [List.getElem?_map] at hj
      cases hlj : l[j]? with
      | none => rw [hlj] at hj; cases hj
      | some b =>
        rw [hlj] at hj
        injection hj with hj
        obtain ⟨hjl, hjb⟩ := List.getElem?_eq_some_iff.1 hlj
        obtain ⟨g, off, hp, hcs⟩ := hS (by omega)
        injection hp with hp
        have hg := hin p rfl (by omega)
        subst hp
        have hadd : (⟨g, off, none⟩ : Addr).add j = ⟨g, off + j, none⟩ := by unfold Addr.add; split <;> simp_all
        rw [hadd, Below.cell (p := ⟨g, off + j, none⟩) (B := w.heap.size) ((Below.refl _ w).alloc (Nat.le_refl _) _) hg, hcs j hjl, hjb, ← hj]
        rfl
    have HC := Lib.hid hcells
    clear hcells hS hin
    obtain ⟨xs, hxs⟩ : ∃ xs, l.map byteV = xs := ⟨_, rfl⟩
    rw [hxs] at HC
    have HX := Lib.hid hxs
    clear hxs
    have hxl : xs.length = n * 1 := by rw [← HX.out]; simp; omega
    have h1c : ∀ u ∈ xs, u.oneCell' = true := fun u hu => by
      rw [← HX.out] at hu
      obtain ⟨b, _, rfl⟩ := List.mem_map.1 hu
      rfl
    have H1 := Lib.hid h1c
    have HXL := Lib.hid hxl
    obtain ⟨i0, hi, hz0, hz1, hz2⟩ := info_parts info_u8
    clear hxl h1c hn
    go_enter Tryd.func19, Tryd.ntmps19
    go_wp2_with (at_builtin; refine wpList_append_own _ rfl _ _ 29 rfl w.heap.size 5 i0 (.int .u8 0) 1 1 Tryd.underlying29 hi hz0 hz1 hz2 rfl (by decide) _ _ _ rfl (World.ownsRow_made w #[] 0 (Nat.le_refl _) (Nat.zero_le _) rfl) p n c xs rfl HXL.out (HC.out _) H1.out (by unfold maxLen; omega) (by omega) (by simp) ?_)
    intro v' w1 hown hgrow hnil
    have hb : Below w.heap.size w w1 := ((Below.refl _ w).alloc (Nat.le_refl _) _).grown hgrow (by simp) (by intro k hk; simp [Value.ownBlock] at hk; omega)
    have HV := Lib.hid hnil
    have HO := Lib.hid hown
    clear hgrow hnil hown
    go_wp2_with fail
    go_ret
    exact ⟨v', rfl, by rw [HX.out]; exact HO.out, hb, fun e => absurd e HV.out, fun e => by cases e⟩
end Go.Proofs.YtknpkifhkefikaaDoor
namespace Go.Proofs.YtknpkifhkefikaaDoor
open Go.RowKit
set_option linter.unusedVariables false
set_option maxRecDepth 100000

theorem run_append_nilR {w : World} {v : Value} {n : Nat} {xs : List Value} (ty : TypeId) (hown : w.ownsRow 0 5 1 v n xs) : (Builtin.append_ #[29, 29] ty #[v, .slice none 0 0]).run Tryd.prog w = .ok v w := by
  obtain ⟨i0, hi, hz0, hz1, hz2⟩ := info_parts info_u8
  rcases hown.2 with ⟨rfl, _⟩ | ⟨g, cap, cur, rfl, _, _, hc, _⟩
  · simp [Builtin.append_, run_underlying Tryd.underlying29, sizeOf, typeInfo, hi, Builtin.lenOf, Builtin.firstCells]
  · simp [Builtin.append_, run_underlying Tryd.underlying29, sizeOf, typeInfo, hi, Builtin.lenOf, Builtin.firstCells, hc, storeCells]
theorem wpList_append_row {w : World} {ops : Array Oper} {rest : List Oper} {o : Oper} {a : Act} {Q : Exit → Act → World → Prop} (hgd : o.guard = none) (s x : Operand)
    (ho : o.op = .call { callee := .builtin .append, args := #[s, x], argTypes := #[29, 29] })
    (v : Value) (l : Bs) (hs : a.eval s = v) (hown : w.ownsRow 0 5 1 v l.length (l.map byteV))
    (A : Option Addr) (c m : Nat) (news : Bs) (hx : a.eval x = .slice A m c) (hm : m = news.length) (hB : Bys w A news) (hA : A = none → c = 0)
    (hlen : l.length + news.length ≤ 140737488355328)
    (h : ∀ v' w', w'.ownsRow 0 5 1 v' (l ++ news).length ((l ++ news).map byteV) → w.grownBy w' v.ownBlock → (∀ k, v'.ownBlock = some k → v.ownBlock = some k ∨ w.heap.size ≤ k) → wpList Tryd.prog ops Q rest (a.put o.dst v') w') : wpList Tryd.prog ops Q (o :: rest) a w := by
  obtain ⟨i0, hi, hz0, hz1, hz2⟩ := info_parts info_u8
  cases A with
  | none =>
    have hn : news = [] := by
      rcases news with _ | ⟨b, r⟩
      · rfl
      · obtain ⟨g, off, hp, _⟩ := hB (by simp)
        cases hp
    subst hn
    obtain rfl := hA rfl
    obtain rfl : m = 0 := hm
    have hrun := run_append_nilR o.type hown
    have hh := h v w (by simpa using hown) ⟨rfl, rfl, rfl, Nat.le_refl _, fun _ _ _ => rfl⟩ (fun k hk => .inl hk)
    refine wpList_plain hgd fun K hK => ?_
    unfold Oper.wp
    simp [execOp, ho, resolve, invoke, builtin, hs, hx, hrun, Result.andThen]
    exact hK _ _ hh
  | some ad =>
    refine wpList_append_own_at w hgd s x 29 ho 0 5 i0 (.int .u8 0) 1 1 Tryd.underlying29 hi hz0 hz1 hz2 rfl (by decide) v l.length (l.map byteV) hs hown ad m c (news.map byteV) hx (by simp [hm]) (fun j u hj => ?_) (fun u hu => by obtain ⟨b, _, rfl⟩ := List.mem_map.1 hu; rfl) (by unfold maxLen; omega) (by omega) (Nat.zero_le _) (fun v' w' h1 h2 h3 h4 => ?_)
    · rw [List.getElem?_map] at hj
      cases hl : news[j]? with
      | none => rw [hl] at hj; cases hj
      | some b =>
        rw [hl] at hj
        injection hj with hj
        obtain ⟨hjl, hjb⟩ := List.getElem?_eq_some_iff.1 hl
        obtain ⟨g, off, hp, hcs⟩ := hB (by omega)
        injection hp with hp
        subst hp
        rw [show (⟨g, off, none⟩ : Addr).add j = ⟨g, off + j, none⟩ by unfold Addr.add; split <;> simp_all]
        rw [hcs j hjl, hjb, ← hj]
        rfl
    · refine h v' w' (by rw [List.length_append, List.map_append, ← hm]; exact h1) h2 (fun k hk => ?_)
      rcases h4 with h4 | h4
      · exact .inl (h4 ▸ hk)
      · rw [h4] at hk
        injection hk with hk
        exact .inr (by omega)
theorem row_slice {w : World} {base n : Nat} {e : TypeId} {v : Value} {xs : List Value} (h : w.ownsRow base e 1 v n xs) : ∃ a c, v = .slice a n c ∧ n ≤ c ∧ c ≤ maxLen ∧ (a = none → c = 0) := by
  rcases h.2 with ⟨rfl, rfl⟩ | ⟨g, cap, cur, rfl, _, _, hc, hm, _⟩
  · exact ⟨none, 0, rfl, Nat.le_refl _, Nat.zero_le _, fun _ => rfl⟩
  · exact ⟨_, cap, rfl, hc, hm, fun e => by cases e⟩
theorem row_bys {w : World} {base : Nat} {v : Value} {l : Bs} (h : w.ownsRow base 5 1 v l.length (l.map byteV)) : ∃ a c, v = .slice a l.length c ∧ l.length ≤ c ∧ c ≤ maxLen ∧ (a = none → c = 0) ∧ Bys w a l := by
  obtain ⟨a, c, hv, h1, h2, h3⟩ := row_slice h
  obtain ⟨_, ho⟩ := RowB.of h rfl
  refine ⟨a, c, hv, h1, h2, h3, ?_⟩
  rcases ho with ⟨_, rfl⟩ | ⟨g, cap, hv2, _, _, _, hR⟩
  · exact Bys.nil _ _
  · rw [hv] at hv2
    injection hv2 with e1 _ _
    subst e1
    exact hR.bys
end Go.Proofs.YtknpkifhkefikaaDoor
namespace Go.Proofs.YtknpkifhkefikaaDoor
open Go.RowKit Go.Maps
set_option linter.unusedVariables false
set_option maxRecDepth 100000

/-- How a pointer to a block reads. -/
def ptrN : Value → Option (DataW Unit × List MemPlace)
  | .pointer (some ⟨b, 0, .none⟩) => some (.lit (.int .i64 b), [])
  | .pointer .none => some (.nil, [])
  | _ => .none
theorem ptrN_some (b : Nat) : ptrN (.pointer (some ⟨b, 0, none⟩)) = some (.lit (.int .i64 b), []) := rfl
theorem ptrN_inv {v : Value} {z : DataW Unit × List MemPlace} (h : ptrN v = some z) : (v = .pointer none ∧ z.1 = .nil) ∨ ∃ b : Nat, v = .pointer (some ⟨b, 0, none⟩) ∧ z.1 = .lit (.int .i64 b) := by
  unfold ptrN at h
  split at h
  · injection h with h; subst h; exact .inr ⟨_, rfl, rfl⟩
  · injection h with h; subst h; exact .inl ⟨rfl, rfl⟩
  · cases h
def I64n (a : Int) : Prop := -9223372036854775808 ≤ a ∧ a ≤ 9223372036854775807
theorem nKey : Keyed Tryd.prog 3 := int_keyed Tryd.underlying3
theorem keyN {a : Int} (h : I64n a) : keyOf Tryd.prog 3 (.int .i64 a) = some (.int .i64 a) := keyOf_int_mk Tryd.underlying3 (by simp only [Lit.wf, Bool.and_eq_true, decide_eq_true_eq]; exact h)
theorem zeroPtrN (w : World) : (zeroValue 164).run Tryd.prog w = .ok (.pointer none) w := by kernel_rfl

/-- A connection: its number, its address, its block, its slice of bytes, the bytes. -/
structure Cn where
  id : Nat
  addr : Int
  g : Nat
  v : Value
  b : Bs
def fnd (L : List Cn) (a : Int) : Option Cn := L.find? fun c => decide ((c.id : Int) = a)
def dropC (L : List Cn) (a : Int) : List Cn := L.filter fun c => decide ¬ ((c.id : Int) = a)
def setC (L : List Cn) (x : Cn) : List Cn := L.map fun c => if c.id = x.id then x else c
def UniqC (L : List Cn) : Prop := ∀ c ∈ L, ∀ d ∈ L, c.id = d.id → c = d
theorem fnd_some {L : List Cn} {a : Int} {c : Cn} (h : fnd L a = some c) : c ∈ L ∧ (c.id : Int) = a := by
  unfold fnd at h
  exact ⟨List.mem_of_find?_eq_some h, by simpa using List.find?_some h⟩
theorem fnd_none {L : List Cn} {a : Int} : fnd L a = none ↔ ∀ c ∈ L, (c.id : Int) ≠ a := by
  unfold fnd
  rw [List.find?_eq_none]
  simp
theorem fnd_mem {L : List Cn} (hu : UniqC L) {c : Cn} (h : c ∈ L) : fnd L c.id = some c := by
  cases hf : fnd L c.id with
  | none => exact absurd rfl (fnd_none.1 hf c h)
  | some d =>
    obtain ⟨h1, h2⟩ := fnd_some hf
    rw [hu d h1 c h (by omega)]
theorem fnd_iff {L : List Cn} (hu : UniqC L) {a : Int} {c : Cn} : fnd L a = some c ↔ c ∈ L ∧ (c.id : Int) = a :=
  ⟨fnd_some, fun ⟨h, e⟩ => e ▸ fnd_mem hu h⟩
theorem mem_dropC {L : List Cn} {a : Int} {c : Cn} : c ∈ dropC L a ↔ c ∈ L ∧ (c.id : Int) ≠ a := by
  unfold dropC
  rw [List.mem_filter]
  simp
theorem dropC_uniq {L : List Cn} (hu : UniqC L) (a : Int) : UniqC (dropC L a) := fun c hc d hd => hu c (mem_dropC.1 hc).1 d (mem_dropC.1 hd).1
theorem fnd_dropC {L : List Cn} (hu : UniqC L) (a b : Int) : fnd (dropC L a) b = if b = a then none else fnd L b := by
  by_cases e : b = a
  · rw [if_pos e, fnd_none]
    intro c hc; rw [e]; exact (mem_dropC.1 hc).2
  · rw [if_neg e]
    cases hf : fnd L b with
    | none => rw [fnd_none] at hf ⊢; intro c hc; exact hf c (mem_dropC.1 hc).1
    | some c =>
      obtain ⟨h1, h2⟩ := fnd_some hf
      rw [fnd_iff (dropC_uniq hu a)]
      exact ⟨mem_dropC.2 ⟨h1, by omega⟩, h2⟩
theorem mem_setC {L : List Cn} {x c : Cn} (hx : ∃ d ∈ L, d.id = x.id) : c ∈ setC L x ↔ c = x ∨ (c ∈ L ∧ c.id ≠ x.id) := by
  unfold setC
  rw [List.mem_map]
  constructor
  · rintro ⟨d, hd, e⟩
    split at e
    · exact .inl e.symm
    · subst e; rename_i h; exact .inr ⟨hd, h⟩
  · rintro (rfl | ⟨h, hn⟩)
    · obtain ⟨d, hd, e⟩ := hx
      exact ⟨d, hd, if_pos e⟩
    · exact ⟨c, h, if_neg hn⟩
theorem setC_uniq {L : List Cn} (hu : UniqC L) {x : Cn} (hx : ∃ d ∈ L, d.id = x.id) : UniqC (setC L x) := by
  intro c hc d hd e
  rcases (mem_setC hx).1 hc with rfl | ⟨hc, hcn⟩ <;> rcases (mem_setC hx).1 hd with rfl | ⟨hd, hdn⟩
  · rfl
  · exact absurd e.symm hdn
  · exact absurd e hcn
  · exact hu c hc d hd e
theorem fnd_setC {L : List Cn} (hu : UniqC L) {x : Cn} (hx : ∃ d ∈ L, d.id = x.id) (b : Int) : fnd (setC L x) b = if b = (x.id : Int) then some x else fnd L b := by
  by_cases e : b = (x.id : Int)
  · rw [if_pos e, fnd_iff (setC_uniq hu hx)]
    exact ⟨(mem_setC hx).2 (.inl rfl), e.symm⟩
  · rw [if_neg e]
    cases hf : fnd L b with
    | none =>
      rw [fnd_none] at hf ⊢
      intro c hc
      rcases (mem_setC hx).1 hc with rfl | ⟨hc, _⟩
      · exact fun e' => e e'.symm
      · exact hf c hc
    | some c =>
      obtain ⟨h1, h2⟩ := fnd_some hf
      rw [fnd_iff (setC_uniq hu hx)]
      exact ⟨(mem_setC hx).2 (.inr ⟨h1, by omega⟩), h2⟩
theorem snoc_uniq {L : List Cn} (hu : UniqC L) {x : Cn} (hx : ∀ c ∈ L, c.id ≠ x.id) : UniqC (L ++ [x]) := by
  intro c hc d hd e
  rw [List.mem_append, List.mem_singleton] at hc hd
  rcases hc with hc | rfl <;> rcases hd with hd | rfl
  · exact hu c hc d hd e
  · exact absurd e (hx c hc)
  · exact absurd e.symm (hx d hd)
  · rfl
theorem fnd_snoc {L : List Cn} (hu : UniqC L) {x : Cn} (hx : ∀ c ∈ L, c.id ≠ x.id) (b : Int) : fnd (L ++ [x]) b = if b = (x.id : Int) then some x else fnd L b := by
  by_cases e : b = (x.id : Int)
  · rw [if_pos e, fnd_iff (snoc_uniq hu hx)]
    exact ⟨by simp, e.symm⟩
  · rw [if_neg e]
    cases hf : fnd L b with
    | none =>
      rw [fnd_none] at hf ⊢
      intro c hc
      rw [List.mem_append, List.mem_singleton] at hc
      rcases hc with hc | rfl
      · exact hf c hc
      · exact fun e' => e e'.symm
    | some c =>
      obtain ⟨h1, h2⟩ := fnd_some hf
      rw [fnd_iff (snoc_uniq hu hx)]
      exact ⟨by simp [h1], h2⟩

def ptrOfN (L : List Cn) (a : Int) : Value := match fnd L a with | some c => .pointer (some ⟨c.g, 0, none⟩) | none => .pointer none
def keyDN (L : List Cn) (a : Int) : DataW Unit := match fnd L a with | some c => .lit (.int .i64 c.g) | none => .nil
def FootN (p m : Nat) (L : List Cn) (k : Nat) : Prop := k = p ∨ k = m ∨ ∃ c ∈ L, k = c.g ∨ c.v.ownBlock = some k
structure NetS (p m N last : Nat) (L : List Cn) (w : World) : Prop where
  uq : UniqC L
  le : ∀ c ∈ L, c.id ≤ last
  head : w.heap[p]? = some (.cells #[.map (some m), .int .i64 last] 110 (0, 0))
  map : ∃ M : DataW Unit, w.ownsMap Tryd.prog 3 ptrN m N M ∧ (∀ a : Int, M.atKey (.int .i64 a) .nil = keyDN L a) ∧ (∀ a : Int, Maps.has M (.int .i64 a) = (fnd L a).isSome)
  conn : ∀ c ∈ L, w.heap[c.g]? = some (.cells #[.int .i64 c.addr, c.v] 168 (0, 0)) ∧ w.ownsRow 0 5 1 c.v c.b.length (c.b.map byteV)
  gi : ∀ c ∈ L, ∀ d ∈ L, c.g = d.g → c.id = d.id
  vi : ∀ c ∈ L, ∀ d ∈ L, ∀ k, c.v.ownBlock = some k → d.v.ownBlock = some k → c.id = d.id
theorem nrow_block {w w' : World} {base n : Nat} {e : TypeId} {v : Value} {xs : List Value} (h : w.ownsRow base e 1 v n xs) (hk : ∀ k, v.ownBlock = some k → w'.heap[k]? = w.heap[k]?) : w'.ownsRow base e 1 v n xs := by
  refine ⟨h.1, ?_⟩
  rcases h.2 with h | ⟨g, cap, cur, rfl, hb, hh, r⟩
  · exact .inl h
  · exact .inr ⟨g, cap, cur, rfl, hb, (hk g rfl).trans hh, r⟩
theorem nrow_lt {w : World} {base n : Nat} {e : TypeId} {v : Value} {xs : List Value} (h : w.ownsRow base e 1 v n xs) {k : Nat} (hk : v.ownBlock = some k) : ∃ cur, w.heap[k]? = some (.cells cur e (0, 0)) := by
  rcases h.2 with ⟨rfl, _⟩ | ⟨g, cap, cur, rfl, hb, hh, r⟩
  · cases hk
  · injection hk with hk
    subst hk
    exact ⟨cur, hh⟩
theorem nmap_block {w w' : World} {P : Program} {k : TypeId} {R : Value → Option (DataW Unit × List MemPlace)} {b n : Nat} {M : DataW Unit} (h : w.ownsMap P k R b n M) (e : w'.heap[b]? = w.heap[b]?) : w'.ownsMap P k R b n M := by
  obtain ⟨es, clock, hb, r⟩ := h
  exact ⟨es, clock, e.trans hb, r⟩
theorem nsome_lt {w : World} {k : Nat} {o : Obj} (h : w.heap[k]? = some o) : k < w.heap.size := (Array.getElem?_eq_some_iff.1 h).1

section
variable {p m N last : Nat} {L : List Cn} {w w' : World}
theorem NetS.lt (h : NetS p m N last L w) {k : Nat} (hk : FootN p m L k) : k < w.heap.size := by
  rcases hk with rfl | rfl | ⟨c, hc, rfl | e⟩
  · exact nsome_lt h.head
  · obtain ⟨M, hM, _⟩ := h.map; exact hM.lt
  · exact nsome_lt (h.conn c hc).1
  · obtain ⟨cur, hcur⟩ := nrow_lt (h.conn c hc).2 e
    exact nsome_lt hcur
theorem NetS.kept (h : NetS p m N last L w) (hk : ∀ k, FootN p m L k → w'.heap[k]? = w.heap[k]?) : NetS p m N last L w' := by
  refine ⟨h.uq, h.le, (hk _ (.inl rfl)).trans h.head, ?_, fun c hc => ⟨(hk _ (.inr (.inr ⟨c, hc, .inl rfl⟩))).trans (h.conn c hc).1, nrow_block (h.conn c hc).2 fun k e => hk k (.inr (.inr ⟨c, hc, .inr e⟩))⟩, h.gi, h.vi⟩
  obtain ⟨M, hM, r⟩ := h.map
  exact ⟨M, nmap_block hM (hk _ (.inr (.inl rfl))), r⟩
theorem NetS.below (h : NetS p m N last L w) (hB : Below w.heap.size w w') : NetS p m N last L w' := h.kept fun k hk => hB.block k (h.lt hk)
theorem NetS.mod {S : Nat → Prop} (h : NetS p m N last L w) (hM : Mod S w w') (hS : ∀ k, FootN p m L k → ¬ S k) : NetS p m N last L w' := h.kept fun k hk => hM.block k (h.lt hk) (hS k hk)
theorem NetS.look (h : NetS p m N last L w) (a : Int) (ha : I64n a) : (Instr.lookup 108 (.map (some m)) (.int .i64 a) false).run Tryd.prog w = .ok (ptrOfN L a) w := by
  obtain ⟨M, hM, hat, _⟩ := h.map
  obtain ⟨v, ps, hrun, hv⟩ := hM.lookup nKey Tryd.underlying108 (zeroPtrN w) (zd := .nil) (zp := []) rfl (keyN ha)
  rw [hat a] at hv
  rw [hrun]
  congr 1
  unfold ptrOfN
  unfold keyDN at hv
  rcases ptrN_inv hv with ⟨rfl, e⟩ | ⟨b, rfl, e⟩
  · cases hf : fnd L a with
    | none => rfl
    | some c => rw [hf] at e; cases e
  · cases hf : fnd L a with
    | none => rw [hf] at e; cases e
    | some c =>
      rw [hf] at e
      have e2 : c.g = b := by simp at e; omega
      simp only [e2]
theorem NetS.cells (h : NetS p m N last L w) : w.cell? ⟨p, 0, none⟩ = some (.map (some m)) ∧ w.cell? ⟨p, 1, none⟩ = some (.int .i64 last) :=
  ⟨(cell_of_row _ _ 0 _ _ _ h.head).trans rfl, (cell_of_row _ _ 1 _ _ _ h.head).trans rfl⟩
theorem NetS.ccells (h : NetS p m N last L w) {c : Cn} (hc : c ∈ L) : w.cell? ⟨c.g, 0, none⟩ = some (.int .i64 c.addr) ∧ w.cell? ⟨c.g, 1, none⟩ = some c.v :=
  ⟨(cell_of_row _ _ 0 _ _ _ (h.conn c hc).1).trans rfl, (cell_of_row _ _ 1 _ _ _ (h.conn c hc).1).trans rfl⟩
theorem NetS.thaw (h : NetS p m N last L w) (i : Nat) : w.frozen? ⟨p, i, none⟩ = false := frozen_of_row _ _ _ _ _ h.head
theorem NetS.cthaw (h : NetS p m N last L w) {c : Cn} (hc : c ∈ L) (i : Nat) : w.frozen? ⟨c.g, i, none⟩ = false := frozen_of_row _ _ _ _ _ (h.conn c hc).1
theorem NetS.pm (h : NetS p m N last L w) : p ≠ m := fun e => by
  obtain ⟨M, ⟨es, clock, hb, _⟩, _⟩ := h.map
  have := h.head
  rw [e, hb] at this
  cases this
theorem NetS.pg (h : NetS p m N last L w) {c : Cn} (hc : c ∈ L) : p ≠ c.g := fun e => by
  have h1 := h.head
  have h2 := (h.conn c hc).1
  rw [e, h2] at h1
  injection h1 with h1
  injection h1 with h1 h3
  cases h3
theorem NetS.mg (h : NetS p m N last L w) {c : Cn} (hc : c ∈ L) : m ≠ c.g := fun e => by
  obtain ⟨M, ⟨es, clock, hb, _⟩, _⟩ := h.map
  have := (h.conn c hc).1
  rw [← e, hb] at this
  cases this
theorem NetS.pv (h : NetS p m N last L w) {c : Cn} (hc : c ∈ L) : c.v.ownBlock ≠ some p := fun e => by
  obtain ⟨cur, hcur⟩ := nrow_lt (h.conn c hc).2 e
  have h1 := h.head
  rw [hcur] at h1
  injection h1 with h1
  injection h1 with h1 h3
  cases h3
theorem NetS.mv (h : NetS p m N last L w) {c : Cn} (hc : c ∈ L) : c.v.ownBlock ≠ some m := fun e => by
  obtain ⟨cur, hcur⟩ := nrow_lt (h.conn c hc).2 e
  obtain ⟨M, ⟨es, clock, hb, _⟩, _⟩ := h.map
  rw [hcur] at hb
  cases hb
theorem NetS.gv (h : NetS p m N last L w) {c d : Cn} (hc : c ∈ L) (hd : d ∈ L) : c.v.ownBlock ≠ some d.g := fun e => by
  obtain ⟨cur, hcur⟩ := nrow_lt (h.conn c hc).2 e
  have h1 := (h.conn d hd).1
  rw [hcur] at h1
  injection h1 with h1
  injection h1 with h1 h3
  cases h3
/-- The last number is written. -/
theorem NetS.onLast (h : NetS p m N last L w) (l' : Nat) (hl : last ≤ l') : NetS p m N l' L (w.setCell ⟨p, 1, none⟩ (.int .i64 l')) := by
  have ho : ∀ k, k ≠ p → (w.setCell ⟨p, 1, none⟩ (.int .i64 l')).heap[k]? = w.heap[k]? := fun k hk => Below.heap_setCell _ _ _ _ hk
  refine ⟨h.uq, fun c hc => Nat.le_trans (h.le c hc) hl, ?_, ?_, ?_, h.gi, h.vi⟩
  · rw [row_set _ h.head]; rfl
  · obtain ⟨M, hM, r⟩ := h.map
    exact ⟨M, nmap_block hM (ho _ h.pm.symm), r⟩
  · intro c hc
    exact ⟨(ho _ (h.pg hc).symm).trans (h.conn c hc).1, nrow_block (h.conn c hc).2 fun k e => ho k fun e' => h.pv hc (e' ▸ e)⟩
/-- A connection is written: its struct, its bytes. -/
theorem NetS.onConn (h : NetS p m N last L w) {c : Cn} (hc : c ∈ L) {v' : Value} {b' : Bs} (ho : ∀ k, FootN p m L k → k ≠ c.g → c.v.ownBlock ≠ some k → w'.heap[k]? = w.heap[k]?)
    (hrow : w'.heap[c.g]? = some (.cells #[.int .i64 c.addr, v'] 168 (0, 0))) (hb : w'.ownsRow 0 5 1 v' b'.length (b'.map byteV))
    (hv : ∀ k, v'.ownBlock = some k → c.v.ownBlock = some k ∨ w.heap.size ≤ k) :
    NetS p m N last (setC L { c with v := v', b := b' }) w' ∧ ∀ k, FootN p m (setC L { c with v := v', b := b' }) k → FootN p m L k ∨ w.heap.size ≤ k := by
  have hx : ∃ d ∈ L, d.id = ({ c with v := v', b := b' } : Cn).id := ⟨c, hc, rfl⟩
  have hold : ∀ d, d ∈ L → d.id ≠ c.id → ∀ k, d.v.ownBlock = some k → c.v.ownBlock ≠ some k := fun d hd hne k e e' => hne (h.vi d hd c hc k e e')
  have hmem : ∀ d, d ∈ setC L { c with v := v', b := b' } → d = { c with v := v', b := b' } ∨ (d ∈ L ∧ d.id ≠ c.id) := fun d hd => (mem_setC hx).1 hd
  constructor
  · refine ⟨setC_uniq h.uq hx, ?_, (ho _ (.inl rfl) (h.pg hc) (h.pv hc)).trans h.head, ?_, ?_, ?_, ?_⟩
    · intro d hd
      rcases hmem d hd with rfl | ⟨hd, _⟩
      · exact h.le c hc
      · exact h.le d hd
    · obtain ⟨M, hM, h1, h2⟩ := h.map
      refine ⟨M, nmap_block hM (ho _ (.inr (.inl rfl)) (h.mg hc) (h.mv hc)), fun a => ?_, fun a => ?_⟩
      · rw [h1 a]
        unfold keyDN
        rw [fnd_setC h.uq hx]
        by_cases e : a = (c.id : Int)
        · subst e
          rw [if_pos rfl, fnd_mem h.uq hc]
        · rw [if_neg e]
      · rw [h2 a, fnd_setC h.uq hx]
        by_cases e : a = (c.id : Int)
        · subst e
          rw [if_pos rfl, fnd_mem h.uq hc]
          rfl
        · rw [if_neg e]
    · intro d hd
      rcases hmem d hd with rfl | ⟨hd, hne⟩
      · exact ⟨hrow, hb⟩
      · refine ⟨(ho _ (.inr (.inr ⟨d, hd, .inl rfl⟩)) (fun e => hne (h.gi d hd c hc e)) (h.gv hc hd)).trans (h.conn d hd).1, nrow_block (h.conn d hd).2 fun k e => ho k (.inr (.inr ⟨d, hd, .inr e⟩)) (fun e' => h.gv hd hc (e' ▸ e)) (hold d hd hne k e)⟩
    · intro a ha b hb e
      rcases hmem a ha with rfl | ⟨ha, hna⟩ <;> rcases hmem b hb with rfl | ⟨hb, hnb⟩
      · rfl
      · exact h.gi c hc b hb e
      · exact h.gi a ha c hc e
      · exact h.gi a ha b hb e
    · intro a ha b hb k e1 e2
      have new : ∀ d, d ∈ L → d.id ≠ c.id → v'.ownBlock = some k → d.v.ownBlock = some k → False := fun d hd hne h1 h2 => by
        rcases hv k h1 with h3 | h3
        · exact hold d hd hne k h2 h3
        · have := h.lt (.inr (.inr ⟨d, hd, .inr h2⟩)); omega
      rcases hmem a ha with rfl | ⟨ha, hna⟩ <;> rcases hmem b hb with rfl | ⟨hb, hnb⟩
      · rfl
      · exact (new b hb hnb e1 e2).elim
      · exact (new a ha hna e2 e1).elim
      · exact h.vi a ha b hb k e1 e2
  · intro k hk
    rcases hk with rfl | rfl | ⟨d, hd, e⟩
    · exact .inl (.inl rfl)
    · exact .inl (.inr (.inl rfl))
    · rcases hmem d hd with rfl | ⟨hd, hne⟩
      · rcases e with e | e
        · exact .inl (.inr (.inr ⟨c, hc, .inl e⟩))
        · rcases hv k e with h3 | h3
          · exact .inl (.inr (.inr ⟨c, hc, .inr h3⟩))
          · exact .inr h3
      · exact .inl (.inr (.inr ⟨d, hd, e⟩))
/-- A connection is put in under a number that was not there. -/
theorem NetS.onNew (h : NetS p m N last L w) {x : Cn} (hn : ∀ c ∈ L, c.id ≠ x.id) (hl : x.id ≤ last) (hi : I64n (x.id : Int)) (hN : N < maxLen)
    (hx : w.heap[x.g]? = some (.cells #[.int .i64 x.addr, x.v] 168 (0, 0))) (hrow : w.ownsRow 0 5 1 x.v x.b.length (x.b.map byteV))
    (hg : ∀ c ∈ L, c.g ≠ x.g) (hv : ∀ c ∈ L, ∀ k, x.v.ownBlock = some k → c.v.ownBlock ≠ some k) :
    ∃ w', (Instr.mapUpdate 108 (.map (some m)) (.int .i64 x.id) (.pointer (some ⟨x.g, 0, none⟩))).run Tryd.prog w = .ok () w' ∧ w.grownBy w' (some m) ∧ NetS p m (N + 1) last (L ++ [x]) w' := by
  obtain ⟨M, hM, h1, h2⟩ := h.map
  obtain ⟨w', hrun, hM', hgr⟩ := hM.update nKey Tryd.underlying108 hN (keyN hi) (ptrN_some x.g)
  have ho : ∀ k, k < w.heap.size → k ≠ m → w'.heap[k]? = w.heap[k]? := fun k hk e => hgr.block k hk (by simpa using e)
  have gm : x.g ≠ m := fun e => by
    obtain ⟨es, clock, hb, _⟩ := hM
    rw [e, hb] at hx
    cases hx
  have vm : x.v.ownBlock ≠ some m := fun e => by
    obtain ⟨cur, hc⟩ := nrow_lt hrow e
    obtain ⟨es, clock, hb, _⟩ := hM
    rw [hc] at hb
    cases hb
  have hmem : ∀ c, c ∈ L ++ [x] → c = x ∨ c ∈ L := fun c hc => by
    rw [List.mem_append, List.mem_singleton] at hc
    exact hc.symm
  refine ⟨w', hrun, hgr, snoc_uniq h.uq hn, ?_, (ho _ (nsome_lt h.head) h.pm).trans h.head, ⟨_, hM', fun a => ?_, fun a => ?_⟩, ?_, ?_, ?_⟩
  · intro c hc
    rcases hmem c hc with rfl | hc
    · exact hl
    · exact h.le c hc
  · unfold keyDN
    rw [fnd_snoc h.uq hn]
    by_cases e : a = (x.id : Int)
    · subst e
      rw [atKey_put_same hM.isMap (by trivial), if_pos rfl]
    · rw [if_neg e, atKey_put_other (by simpa using e), h1 a]
      rfl
  · rw [fnd_snoc h.uq hn]
    by_cases e : a = (x.id : Int)
    · subst e
      rw [has_put_same hM.isMap (by trivial), if_pos rfl]
      rfl
    · rw [if_neg e, has_put_other (by simpa using e), h2 a]
  · intro c hc
    rcases hmem c hc with rfl | hc
    · exact ⟨(ho _ (nsome_lt hx) gm).trans hx, nrow_block hrow fun k e => ho k (by obtain ⟨cur, hcur⟩ := nrow_lt hrow e; exact nsome_lt hcur) (fun e' => vm (e' ▸ e))⟩
    · exact ⟨(ho _ (nsome_lt (h.conn c hc).1) (h.mg hc).symm).trans (h.conn c hc).1, nrow_block (h.conn c hc).2 fun k e => ho k (h.lt (.inr (.inr ⟨c, hc, .inr e⟩))) (fun e' => h.mv hc (e' ▸ e))⟩
  · intro a ha b hb e
    rcases hmem a ha with e1 | h5 <;> rcases hmem b hb with e2 | h6
    · rw [e1, e2]
    · rw [e1] at e; exact absurd e.symm (hg b h6)
    · rw [e2] at e; exact absurd e (hg a h5)
    · exact h.gi a h5 b h6 e
  · intro a ha b hb k e1 e2
    rcases hmem a ha with e3 | h5 <;> rcases hmem b hb with e4 | h6
    · rw [e3, e4]
    · rw [e3] at e1; exact absurd e2 (hv b h6 k e1)
    · rw [e4] at e2; exact absurd e1 (hv a h5 k e2)
    · exact h.vi a h5 b h6 k e1 e2
/-- A number is struck. -/
theorem NetS.onDrop (h : NetS p m N last L w) {a : Int} (ha : I64n a) (ty : TypeId) :
    ∃ w', (Builtin.delete_ #[108, 3] ty #[.map (some m), .int .i64 a]).run Tryd.prog w = .ok (.tuple #[]) w' ∧ w.grownBy w' (some m) ∧ NetS p m N last (dropC L a) w' := by
  obtain ⟨M, hM, h1, h2⟩ := h.map
  obtain ⟨w', hrun, hM', ht⟩ := hM.drop nKey Tryd.underlying108 (keyN ha) ty
  have hgr := ht.grown
  have ho : ∀ k, k < w.heap.size → k ≠ m → w'.heap[k]? = w.heap[k]? := fun k hk e => hgr.block k hk (by simpa using e)
  have hmem : ∀ c, c ∈ dropC L a → c ∈ L := fun c hc => (mem_dropC.1 hc).1
  refine ⟨w', hrun, hgr, dropC_uniq h.uq a, fun c hc => h.le c (hmem c hc), (ho _ (nsome_lt h.head) h.pm).trans h.head, ⟨_, hM', fun b => ?_, fun b => ?_⟩, ?_, fun c hc d hd => h.gi c (hmem c hc) d (hmem d hd), fun c hc d hd => h.vi c (hmem c hc) d (hmem d hd)⟩
  · unfold keyDN
    rw [fnd_dropC h.uq]
    by_cases e : b = a
    · subst e
      rw [atKey_del_same, if_pos rfl]
    · rw [if_neg e, atKey_del_other (by simpa using e), h1 b]
      rfl
  · rw [fnd_dropC h.uq]
    by_cases e : b = a
    · subst e
      rw [has_del_same, if_pos rfl]
      rfl
    · rw [if_neg e, has_del_other (by simpa using e), h2 b]
  · intro c hc
    have hc := hmem c hc
    exact ⟨(ho _ (nsome_lt (h.conn c hc).1) (h.mg hc).symm).trans (h.conn c hc).1, nrow_block (h.conn c hc).2 fun k e => ho k (h.lt (.inr (.inr ⟨c, hc, .inr e⟩))) (fun e' => h.mv hc (e' ▸ e))⟩
end
end Go.Proofs.YtknpkifhkefikaaDoor
namespace Go.Proofs.YtknpkifhkefikaaDoor
open Go.RowKit Go.Maps
set_option linter.unusedVariables false
set_option maxRecDepth 100000

/-- What a net holds: numbers, addresses, bytes. -/
def absN (L : List Cn) : List (Nat × Int × Bs) := L.map fun c => (c.id, c.addr, c.b)
/-- Behind a call: what the net holds now; what it has written. -/
def AftN (p m N last : Nat) (L : List Cn) (X : List Cn → Prop) (w w' : World) : Prop :=
  ∃ L', X L' ∧ NetS p m N last L' w' ∧ Mod (FootN p m L) w w' ∧ ∀ k, FootN p m L' k → FootN p m L k ∨ w.heap.size ≤ k
theorem foot_sub {p m : Nat} {L L' : List Cn} (h : ∀ c ∈ L', c ∈ L) {k : Nat} (hk : FootN p m L' k) : FootN p m L k := by
  rcases hk with e | e | ⟨c, hc, e⟩
  · exact .inl e
  · exact .inr (.inl e)
  · exact .inr (.inr ⟨c, h c hc, e⟩)
section
variable {p m N last : Nat} {L : List Cn}
theorem NewN_any (w : World) : Calls Tryd.prog 21 #[] w fun e w' => e = .returned (.pointer (some ⟨w.heap.size + 1, 0, none⟩)) ∧ NetS (w.heap.size + 1) w.heap.size 0 0 [] w' ∧ Below w.heap.size w w' ∧ w'.heap.size = w.heap.size + 2 := by
  obtain ⟨W, hW⟩ : ∃ W, W = (w.alloc (.map #[] 0)).alloc (.cells #[.map (some w.heap.size), .int .i64 0] 110) := ⟨_, rfl⟩
  have hm := World.ownsMap_made w Tryd.prog 3 ptrN
  have t : NetS (w.heap.size + 1) w.heap.size 0 0 [] W := by
    rw [hW]
    refine ⟨(fun c hc => by cases hc), (fun c hc => by cases hc), row_new _ (by simp), ⟨_, hm.alloc _, fun a => ?_, fun a => ?_⟩, (fun c hc => by cases hc), (fun c hc => by cases hc), (fun c hc => by cases hc)⟩
    · simp [DataW.atKey, keyDN, fnd]
    · simp [Maps.has, fnd]
  have b : Below w.heap.size w W := by rw [hW]; exact Below.alloc (Below.alloc (Below.refl _ _) (Nat.le_refl _) _) (by simp) _
  have z : W.heap.size = w.heap.size + 2 := by rw [hW]; simp
  have HW := Lib.hid hW
  have HZ := Lib.hid z
  have hmm := @run_makeMap Tryd.prog
  clear hm hW z
  go_enter Tryd.func21, Tryd.ntmps21
  go_wp2_with fail
  rw [← HW.out]
  go_ret
  exact ⟨rfl, t, b, HZ.out⟩
theorem made_n (w : World) (h : NetS p m N last L w) : Calls Tryd.prog 121 #[.pointer (some ⟨p, 0, none⟩)] w fun e w' => e = .returned (.bool true) ∧ w' = w := by
  have c0 := h.cells.1
  have hm := run_neq_map_nil (P := Tryd.prog) w 108 3 164 (some m) Tryd.underlying108
  clear h
  go_enter Tryd.func121, Tryd.ntmps121
  go_wp2_with fail
  go_ret
  exact ⟨rfl, rfl⟩
theorem find_yes (w : World) (h : NetS p m N last L w) (a : Int) (ha : I64n a) {c : Cn} (hf : fnd L a = some c) : Calls Tryd.prog 95 #[.pointer (some ⟨p, 0, none⟩), .int .i64 a] w fun e w' => e = .returned (.tuple #[.pointer (some ⟨c.g, 0, none⟩), .int .i64 0]) ∧ w' = w := by
  have c0 := h.cells.1
  have l1 := h.look a ha
  have C := Lib.hid (made_n w h)
  unfold ptrOfN at l1
  rw [hf] at l1
  dsimp only at l1
  clear h hf
  go_enter Tryd.func95, Tryd.ntmps95
  go_wp2_with fail
  refine C.out.mono ?_
  rintro e w1 ⟨rfl, rfl⟩
  go_wp2_with fail
  go_ret2
  exact ⟨rfl, rfl⟩
theorem find_no (w : World) (h : NetS p m N last L w) (a : Int) (ha : I64n a) (hf : fnd L a = none) : Calls Tryd.prog 95 #[.pointer (some ⟨p, 0, none⟩), .int .i64 a] w fun e w' => e = .returned (.tuple #[.pointer none, .int .i64 150]) ∧ w' = w := by
  have c0 := h.cells.1
  have l1 := h.look a ha
  have C := Lib.hid (made_n w h)
  unfold ptrOfN at l1
  rw [hf] at l1
  dsimp only at l1
  clear h hf
  go_enter Tryd.func95, Tryd.ntmps95
  go_wp2_with fail
  refine C.out.mono ?_
  rintro e w1 ⟨rfl, rfl⟩
  go_wp2_with fail
  go_ret2
  exact ⟨rfl, rfl⟩
theorem Dial_no (w : World) (h : NetS p m N last L w) (a : Int) (ha : I64n a) (hr : a < 0 ∨ 4294967295 < a) : Calls Tryd.prog 122 #[.pointer (some ⟨p, 0, none⟩), .int .i64 a] w fun e w' => e = .returned (.tuple #[.int .i64 0, .int .i64 1]) ∧ w' = w := by
  have C := Lib.hid (made_n w h)
  have hw : (4294967295 : Int) < IntKind.u64.wrap a := by
    have : IntKind.u64.wrap a = a % 18446744073709551616 := rfl
    unfold I64n at ha
    rw [this]; omega
  clear h ha hr
  go_enter Tryd.func122, Tryd.ntmps122
  go_wp2_with fail
  refine C.out.mono ?_
  rintro e w1 ⟨rfl, rfl⟩
  go_wp2_with fail
  go_ret2
  exact ⟨rfl, rfl⟩
set_option maxHeartbeats 1000000 in
theorem Dial_yes (w : World) (h : NetS p m N last L w) (hN : N < 1000000000) (hla : last < 1000000000) (a : Nat) (ha : a ≤ 4294967295) :
    Calls Tryd.prog 122 #[.pointer (some ⟨p, 0, none⟩), .int .i64 a] w fun e w' => e = .returned (.tuple #[.int .i64 (last + 1 : Nat), .int .i64 0]) ∧ AftN p m (N + 1) (last + 1) L (fun L' => ∃ g, L' = L ++ [⟨last + 1, a, g, .slice none 0 0, []⟩]) w w' := by
  have C := Lib.hid (made_n w h)
  have hw : IntKind.u64.wrap (a : Int) = (a : Int) := by
    have : IntKind.u64.wrap (a : Int) = (a : Int) % 18446744073709551616 := rfl
    rw [this]; omega
  have c1 := h.cells.2
  have z1 := h.thaw 1
  obtain ⟨w1, hw1⟩ : ∃ w1, w1 = w.setCell ⟨p, 1, none⟩ (.int .i64 (last + 1 : Nat)) := ⟨_, rfl⟩
  have h1 : NetS p m N (last + 1) L w1 := by rw [hw1]; exact h.onLast _ (by omega)
  have h2 : NetS p m N (last + 1) L w1.drew := h1.below (Below.drew (Below.refl _ _))
  have h3 : NetS p m N (last + 1) L (w1.alloc (.cells #[.int .i64 a, .slice none 0 0] 168)).drew := h1.below (Below.drew (Below.alloc (Below.refl _ _) (Nat.le_refl _) _))
  have r3 : (w1.alloc (.cells #[.int .i64 a, .slice none 0 0] 168)).drew.heap[w1.heap.size]? = some (.cells #[.int .i64 a, .slice none 0 0] 168 (0, 0)) := row_new _ rfl
  have hlt : ∀ c ∈ L, c.g < w1.heap.size := fun c hc => h1.lt (.inr (.inr ⟨c, hc, .inl rfl⟩))
  obtain ⟨w4, hrun, hg4, h4⟩ := h3.onNew (x := ⟨last + 1, a, w1.heap.size, .slice none 0 0, []⟩) (fun c hc e => by have := h.le c hc; simp at e; omega) (Nat.le_refl _) (by unfold I64n; simp only; omega) (by unfold maxLen; omega) r3 (World.ownsRow_nil _ _ _ _) (fun c hc e => by have := hlt c hc; simp at e; omega) (fun c hc k e => by simp [Value.ownBlock] at e)
  have a1 := h1.cells
  have a2 := h2.cells
  have a3 := h3.cells
  have a4 := (h4.cells).2
  have hm1 : Mod (FootN p m L) w w1 := by
    rw [hw1]
    exact ⟨rfl, rfl, rfl, by simp, fun i _ hn => Below.heap_setCell _ _ _ _ (fun e => hn (.inl e))⟩
  have hm4 : Mod (FootN p m L) w w4 := ((hm1.then (Below.drew (Below.alloc (Below.refl _ _) (Nat.le_refl _) _))).trans (Mod.grown (S := FootN p m L) hg4 (fun k e => by injection e with e; exact .inr (.inl e.symm))) (fun i e => .inl e))
  have AF : Hid (AftN p m (N + 1) (last + 1) L (fun L' => ∃ g, L' = L ++ [⟨last + 1, a, g, .slice none 0 0, []⟩]) w w4) := Lib.hid ⟨_, ⟨_, rfl⟩, h4, hm4, fun k hk => by
    rcases hk with e | e | ⟨c, hc, e⟩
    · exact .inl (.inl e)
    · exact .inl (.inr (.inl e))
    · rw [List.mem_append, List.mem_singleton] at hc
      rcases hc with hc | rfl
      · exact .inl (.inr (.inr ⟨c, hc, e⟩))
      · rcases e with e | e
        · have := hm1.size; exact .inr (by simp at e; omega)
        · simp [Value.ownBlock] at e⟩
  have HW1 := Lib.hid hw1
  have hal : (a : Int) ≤ 4294967295 := by omega
  have hcast : ((last + 1 : Nat) : Int) = (last : Int) + 1 := by omega
  rw [hcast] at a1 a2 a3 a4 hrun
  have HW2 : Hid (w1 = w.setCell ⟨p, 1, none⟩ (.int .i64 ((last : Int) + 1))) := Lib.hid (by rw [hw1, hcast])
  clear h h1 h2 h3 r3 hlt hg4 h4 hm1 hm4 hw1
  rw [hcast]
  go_enter Tryd.func122, Tryd.ntmps122
  go_wp2_with fail
  refine C.out.mono ?_
  rintro e w5 ⟨rfl, rfl⟩
  go_wp2_with fail
  rw [← HW2.out]
  go_region
  all_goals (go_wp2_with fail; go_ret2; exact ⟨rfl, AF.out⟩)
end
end Go.Proofs.YtknpkifhkefikaaDoor
namespace Go.Proofs.YtknpkifhkefikaaDoor
open Go.RowKit Go.Maps
set_option linter.unusedVariables false
set_option maxRecDepth 100000

theorem wpList_delN {p m N last : Nat} {L : List Cn} {b : Int} (w : World) {ops : Array Oper} {rest : List Oper} {o : Oper} {a : Act} {Q : Exit → Act → World → Prop} (hgd : o.guard = none) (mm x : Operand) (hop : o.op = Op.call { callee := Callee.builtin Builtin.delete, args := #[mm, x], argTypes := #[108, 3] })
    (hm : a.eval mm = .map (some m)) (hx : a.eval x = .int .i64 b) (h : NetS p m N last L w) (hb : I64n b)
    (hK : ∀ w', NetS p m N last (dropC L b) w' → w.grownBy w' (some m) → wpList Tryd.prog ops Q rest (a.put o.dst (.tuple #[])) w') : wpList Tryd.prog ops Q (o :: rest) a w := by
  refine wpList_plain hgd fun K' hK' => ?_
  obtain ⟨w', hrun, hg, hD⟩ := h.onDrop hb o.type
  have hk := hK w' hD hg
  unfold Oper.wp execOp
  simp only [hop, resolve, invoke, builtin, Sem.run_bind, Sem.run_pure, Result.andThen_ok, List.map_toArray, List.map_cons, List.map_nil, hm, hx, hrun]
  exact hK' _ _ hk
theorem row_cut {w : World} {base n : Nat} {e : TypeId} {A : Option Addr} {c : Nat} {xs : List Value} (h : w.ownsRow base e 1 (.slice A n c) n xs) : w.ownsRow base e 1 (.slice A 0 c) 0 [] := by
  refine ⟨rfl, ?_⟩
  rcases h.2 with ⟨hv, _⟩ | ⟨g, cap, cur, hv, hb, hh, hc, hm, hsz, ht⟩
  · injection hv with h1 h2 h3
    subst h1 h3
    exact .inl ⟨rfl, rfl⟩
  · injection hv with h1 h2 h3
    subst h1 h3
    exact .inr ⟨g, _, cur, rfl, hb, hh, Nat.zero_le _, hm, hsz, by simp⟩
section
variable {p m N last : Nat} {L : List Cn}
theorem Write_no (w : World) (h : NetS p m N last L w) (a : Int) (ha : I64n a) (hf : fnd L a = none) (A : Option Addr) (n cc : Nat) : Calls Tryd.prog 55 #[.pointer (some ⟨p, 0, none⟩), .int .i64 a, .slice A n cc] w fun e w' => e = .returned (.int .i64 150) ∧ w' = w := by
  have C := Lib.hid (find_no w h a ha hf)
  clear h hf
  go_enter Tryd.func55, Tryd.ntmps55
  go_wp2_with fail
  refine C.out.mono ?_
  rintro e w1 ⟨rfl, rfl⟩
  go_wp2_with fail
  go_ret
  exact ⟨rfl, rfl⟩
set_option maxHeartbeats 1000000 in
theorem Write_yes (w : World) (h : NetS p m N last L w) (a : Int) (ha : I64n a) {c : Cn} (hf : fnd L a = some c) (A : Option Addr) (x : Bs) (n cc : Nat) (hn : n = x.length) (hx : Bys w A x) (hA : A = none → cc = 0) (hlen : c.b.length + x.length ≤ 140737488355328) :
    Calls Tryd.prog 55 #[.pointer (some ⟨p, 0, none⟩), .int .i64 a, .slice A n cc] w fun e w' => e = .returned (.int .i64 0) ∧ AftN p m N last L (fun L' => ∃ v', L' = setC L { c with v := v', b := c.b ++ x }) w w' := by
  have C := Lib.hid (find_yes w h a ha hf)
  have hc := (fnd_some hf).1
  obtain ⟨d0, d1⟩ := h.ccells hc
  have hrow := (h.conn c hc).2
  obtain ⟨va, vc, hv, hvc, hvm, hvn⟩ := row_slice hrow
  have HROW := Lib.hid hrow
  have HX := Lib.hid hx
  have HN := Lib.hid hn
  have HA := Lib.hid hA
  have HL := Lib.hid hlen
  have H := Lib.hid h
  have HC := Lib.hid hc
  have HV := Lib.hid hv
  rw [hv] at d1
  obtain ⟨cl, hcl⟩ : ∃ cl, cl = c.b.length := ⟨_, rfl⟩
  rw [← hcl] at d1
  have HROW2 : Hid (w.ownsRow 0 5 1 (.slice va cl vc) c.b.length (c.b.map byteV)) := Lib.hid (by rw [hcl, ← hv]; exact hrow)
  have hob : (Value.slice va cl vc).ownBlock = c.v.ownBlock := by rw [hv]; cases va <;> rfl
  have HOB := Lib.hid hob
  have HCL := Lib.hid hcl
  have hvm2 : vc ≤ 9223372036854775807 := by unfold maxLen at hvm; omega
  rw [← hcl] at hvc
  clear h hf ha hrow hx hA hlen hc hv hcl hvn hvm d0 hn hob
  go_enter Tryd.func55, Tryd.ntmps55
  go_wp2_with fail
  refine C.out.mono ?_
  rintro e w1 ⟨rfl, rfl⟩
  clear C
  go_wp2_with (at_builtin; (with_reducible refine wpList_append_row rfl _ _ rfl (.slice va cl vc) c.b rfl HROW2.out A cc n x rfl HN.out HX.out HA.out HL.out ?_))
  intro v' w2 hrow2 hg hfr
  rw [HOB.out] at hg hfr
  replace hrow2 : w2.ownsRow 0 5 1 v' (c.b ++ x).length ((c.b ++ x).map byteV) := by rw [List.length_append, List.map_append]; exact hrow2
  obtain ⟨va', vc', hv', -, -, -⟩ := row_slice hrow2
  generalize (c.b ++ x).length = nl at hv'
  have h := H.out
  have hc := HC.out
  have r1 : w2.heap[c.g]? = some (.cells #[.int .i64 c.addr, c.v] 168 (0, 0)) := (hg.block _ (nsome_lt (h.conn c hc).1) (fun e => h.gv hc hc e.symm)).trans (h.conn c hc).1
  have x1 := (cell_of_row _ _ 1 _ _ _ r1).trans rfl
  have z1 : w2.frozen? ⟨c.g, 1, none⟩ = false := frozen_of_row _ _ _ _ _ r1
  have hne : ∀ k, v'.ownBlock = some k → k ≠ c.g := fun k e e' => by
    rcases hfr k e with e2 | e2
    · exact h.gv hc hc (e' ▸ e2)
    · have := nsome_lt (h.conn c hc).1; omega
  obtain ⟨h3, hF3⟩ := h.onConn hc (w' := w2.setCell ⟨c.g, 1, none⟩ v') (v' := v') (b' := c.b ++ x)
    (fun k hk h1 h2 => (Below.heap_setCell _ _ _ _ h1).trans (hg.block k (h.lt hk) (fun e => h2 e.symm)))
    (row_set _ r1) (nrow_block hrow2 fun k e => Below.heap_setCell _ _ _ _ (hne k e)) hfr
  have hm2 : Mod (FootN p m L) w1 w2 := Mod.grown hg (fun k e => .inr (.inr ⟨c, hc, .inr e⟩))
  have hm3 : Mod (FootN p m L) w1 (w2.setCell ⟨c.g, 1, none⟩ v') := hm2.trans (S' := fun k => k = c.g) ⟨rfl, rfl, rfl, by simp, fun i _ hn => Below.heap_setCell _ _ _ _ hn⟩ (fun i e => .inl (.inr (.inr ⟨c, hc, .inl e⟩)))
  have AF : Hid (AftN p m N last L (fun L' => ∃ v', L' = setC L { c with v := v', b := c.b ++ x }) w1 (w2.setCell ⟨c.g, 1, none⟩ v')) := Lib.hid ⟨_, ⟨v', rfl⟩, h3, hm3, hF3⟩
  clear h3 hF3 hm2 hm3 hne r1 hg hfr hrow2 h hc HROW2 d1 HV
  subst hv'
  go_wp2_with fail
  go_ret
  exact ⟨rfl, AF.out⟩
end
end Go.Proofs.YtknpkifhkefikaaDoor
