/-
  A net as a list of connections, and as it lies in memory: its struct, its map, its connections.
-/
import Derived.Test.YtabclpffjpcejaaMo
import Derived.Test.YtabclpffjpcejaaQr
import Derived.Maps.OwnSet
import Derived.Maps.AppendAt
namespace Go.Proofs.Ytabclpffjpcejaa
open Go.RowKit Go.Maps
set_option linter.unusedVariables false
set_option maxRecDepth 100000

/-- How a pointer to a block reads. -/
def ptrN : Value → Option (DataW Unit × List MemPlace)
  | .pointer (some ⟨b, 0, .none⟩) => some (.lit (.int .i64 b), [])
  | .pointer .none => some (.nil, [])
  | _ => .none
theorem ptrN_some (b : Nat) : ptrN (.pointer (some ⟨b, 0, none⟩)) = some (.lit (.int .i64 b), []) := rfl
theorem ptrN_inv {v : Value} {z : DataW Unit × List MemPlace} (h : ptrN v = some z) : (v = .pointer none ∧ z.1 = .nil) ∨ ∃ b : Nat, v = .pointer (some ⟨b, 0, none⟩) ∧ z.1 = .lit (.int .i64 b) := by
  unfold ptrN at h
  split at h
  · injection h with h; subst h; exact .inr ⟨_, rfl, rfl⟩
  · injection h with h; subst h; exact .inl ⟨rfl, rfl⟩
  · cases h
def I64n (a : Int) : Prop := -9223372036854775808 ≤ a ∧ a ≤ 9223372036854775807
theorem nKey : Keyed Try.prog 3 := int_keyed Try.underlying3
theorem keyN {a : Int} (h : I64n a) : keyOf Try.prog 3 (.int .i64 a) = some (.int .i64 a) := keyOf_int_mk Try.underlying3 (by simp only [Lit.wf, Bool.and_eq_true, decide_eq_true_eq]; exact h)
theorem zeroPtrN (w : World) : (zeroValue 82).run Try.prog w = .ok (.pointer none) w := by kernel_rfl

/-- A connection: its number, its address, its block, its slice of bytes, the bytes. -/
structure Cn where
  id : Nat
  addr : Int
  g : Nat
  v : Value
  b : Bs
def fnd (L : List Cn) (a : Int) : Option Cn := L.find? fun c => decide ((c.id : Int) = a)
def dropC (L : List Cn) (a : Int) : List Cn := L.filter fun c => decide ¬ ((c.id : Int) = a)
def setC (L : List Cn) (x : Cn) : List Cn := L.map fun c => if c.id = x.id then x else c
def UniqC (L : List Cn) : Prop := ∀ c ∈ L, ∀ d ∈ L, c.id = d.id → c = d
theorem fnd_some {L : List Cn} {a : Int} {c : Cn} (h : fnd L a = some c) : c ∈ L ∧ (c.id : Int) = a := by
  unfold fnd at h
  exact ⟨List.mem_of_find?_eq_some h, by simpa using List.find?_some h⟩
theorem fnd_none {L : List Cn} {a : Int} : fnd L a = none ↔ ∀ c ∈ L, (c.id : Int) ≠ a := by
  unfold fnd
  rw [List.find?_eq_none]
  simp
theorem fnd_mem {L : List Cn} (hu : UniqC L) {c : Cn} (h : c ∈ L) : fnd L c.id = some c := by
  cases hf : fnd L c.id with
  | none => exact absurd rfl (fnd_none.1 hf c h)
  | some d =>
    obtain ⟨h1, h2⟩ := fnd_some hf
    rw [hu d h1 c h (by omega)]
theorem fnd_iff {L : List Cn} (hu : UniqC L) {a : Int} {c : Cn} : fnd L a = some c ↔ c ∈ L ∧ (c.id : Int) = a :=
  ⟨fnd_some, fun ⟨h, e⟩ => e ▸ fnd_mem hu h⟩
theorem mem_dropC {L : List Cn} {a : Int} {c : Cn} : c ∈ dropC L a ↔ c ∈ L ∧ (c.id : Int) ≠ a := by
  unfold dropC
  rw [List.mem_filter]
  simp
theorem dropC_uniq {L : List Cn} (hu : UniqC L) (a : Int) : UniqC (dropC L a) := fun c hc d hd => hu c (mem_dropC.1 hc).1 d (mem_dropC.1 hd).1
theorem fnd_dropC {L : List Cn} (hu : UniqC L) (a b : Int) : fnd (dropC L a) b = if b = a then none else fnd L b := by
  by_cases e : b = a
  · rw [if_pos e, fnd_none]
    intro c hc; rw [e]; exact (mem_dropC.1 hc).2
  · rw [if_neg e]
    cases hf : fnd L b with
    | none => rw [fnd_none] at hf ⊢; intro c hc; exact hf c (mem_dropC.1 hc).1
    | some c =>
      obtain ⟨h1, h2⟩ := fnd_some hf
      rw [fnd_iff (dropC_uniq hu a)]
      exact ⟨mem_dropC.2 ⟨h1, by omega⟩, h2⟩
theorem mem_setC {L : List Cn} {x c : Cn} (hx : ∃ d ∈ L, d.id = x.id) : c ∈ setC L x ↔ c = x ∨ (c ∈ L ∧ c.id ≠ x.id) := by
  unfold setC
  rw [List.mem_map]
  constructor
  · rintro ⟨d, hd, e⟩
    split at e
    · exact .inl e.symm
    · subst e; rename_i h; exact .inr ⟨hd, h⟩
  · rintro (rfl | ⟨h, hn⟩)
    · obtain ⟨d, hd, e⟩ := hx
      exact ⟨d, hd, if_pos e⟩
    · exact ⟨c, h, if_neg hn⟩
theorem setC_uniq {L : List Cn} (hu : UniqC L) {x : Cn} (hx : ∃ d ∈ L, d.id = x.id) : UniqC (setC L x) := by
  intro c hc d hd e
  rcases (mem_setC hx).1 hc with rfl | ⟨hc, hcn⟩ <;> rcases (mem_setC hx).1 hd with rfl | ⟨hd, hdn⟩
  · rfl
  · exact absurd e.symm hdn
  · exact absurd e hcn
  · exact hu c hc d hd e
theorem fnd_setC {L : List Cn} (hu : UniqC L) {x : Cn} (hx : ∃ d ∈ L, d.id = x.id) (b : Int) : fnd (setC L x) b = if b = (x.id : Int) then some x else fnd L b := by
  by_cases e : b = (x.id : Int)
  · rw [if_pos e, fnd_iff (setC_uniq hu hx)]
    exact ⟨(mem_setC hx).2 (.inl rfl), e.symm⟩
  · rw [if_neg e]
    cases hf : fnd L b with
    | none =>
      rw [fnd_none] at hf ⊢
      intro c hc
      rcases (mem_setC hx).1 hc with rfl | ⟨hc, _⟩
      · exact fun e' => e e'.symm
      · exact hf c hc
    | some c =>
      obtain ⟨h1, h2⟩ := fnd_some hf
      rw [fnd_iff (setC_uniq hu hx)]
      exact ⟨(mem_setC hx).2 (.inr ⟨h1, by omega⟩), h2⟩
theorem snoc_uniq {L : List Cn} (hu : UniqC L) {x : Cn} (hx : ∀ c ∈ L, c.id ≠ x.id) : UniqC (L ++ [x]) := by
  intro c hc d hd e
  rw [List.mem_append, List.mem_singleton] at hc hd
  rcases hc with hc | rfl <;> rcases hd with hd | rfl
  · exact hu c hc d hd e
  · exact absurd e (hx c hc)
  · exact absurd e.symm (hx d hd)
  · rfl
theorem fnd_snoc {L : List Cn} (hu : UniqC L) {x : Cn} (hx : ∀ c ∈ L, c.id ≠ x.id) (b : Int) : fnd (L ++ [x]) b = if b = (x.id : Int) then some x else fnd L b := by
  by_cases e : b = (x.id : Int)
  · rw [if_pos e, fnd_iff (snoc_uniq hu hx)]
    exact ⟨by simp, e.symm⟩
  · rw [if_neg e]
    cases hf : fnd L b with
    | none =>
      rw [fnd_none] at hf ⊢
      intro c hc
      rw [List.mem_append, List.mem_singleton] at hc
      rcases hc with hc | rfl
      · exact hf c hc
      · exact fun e' => e e'.symm
    | some c =>
      obtain ⟨h1, h2⟩ := fnd_some hf
      rw [fnd_iff (snoc_uniq hu hx)]
      exact ⟨by simp [h1], h2⟩

def ptrOfN (L : List Cn) (a : Int) : Value := match fnd L a with | some c => .pointer (some ⟨c.g, 0, none⟩) | none => .pointer none
def keyDN (L : List Cn) (a : Int) : DataW Unit := match fnd L a with | some c => .lit (.int .i64 c.g) | none => .nil
def FootN (p m : Nat) (L : List Cn) (k : Nat) : Prop := k = p ∨ k = m ∨ ∃ c ∈ L, k = c.g ∨ c.v.ownBlock = some k
structure NetS (p m N last : Nat) (L : List Cn) (w : World) : Prop where
  uq : UniqC L
  le : ∀ c ∈ L, c.id ≤ last
  head : w.heap[p]? = some (.cells #[.map (some m), .int .i64 last] 51 (0, 0))
  map : ∃ M : DataW Unit, w.ownsMap Try.prog 3 ptrN m N M ∧ (∀ a : Int, M.atKey (.int .i64 a) .nil = keyDN L a) ∧ (∀ a : Int, Maps.has M (.int .i64 a) = (fnd L a).isSome)
  conn : ∀ c ∈ L, w.heap[c.g]? = some (.cells #[.int .i64 c.addr, c.v] 84 (0, 0)) ∧ w.ownsRow 0 5 1 c.v c.b.length (c.b.map byteV)
  gi : ∀ c ∈ L, ∀ d ∈ L, c.g = d.g → c.id = d.id
  vi : ∀ c ∈ L, ∀ d ∈ L, ∀ k, c.v.ownBlock = some k → d.v.ownBlock = some k → c.id = d.id
theorem nrow_block {w w' : World} {base n : Nat} {e : TypeId} {v : Value} {xs : List Value} (h : w.ownsRow base e 1 v n xs) (hk : ∀ k, v.ownBlock = some k → w'.heap[k]? = w.heap[k]?) : w'.ownsRow base e 1 v n xs := by
  refine ⟨h.1, ?_⟩
  rcases h.2 with h | ⟨g, cap, cur, rfl, hb, hh, r⟩
  · exact .inl h
  · exact .inr ⟨g, cap, cur, rfl, hb, (hk g rfl).trans hh, r⟩
theorem nrow_lt {w : World} {base n : Nat} {e : TypeId} {v : Value} {xs : List Value} (h : w.ownsRow base e 1 v n xs) {k : Nat} (hk : v.ownBlock = some k) : ∃ cur, w.heap[k]? = some (.cells cur e (0, 0)) := by
  rcases h.2 with ⟨rfl, _⟩ | ⟨g, cap, cur, rfl, hb, hh, r⟩
  · cases hk
  · injection hk with hk
    subst hk
    exact ⟨cur, hh⟩
theorem nmap_block {w w' : World} {P : Program} {k : TypeId} {R : Value → Option (DataW Unit × List MemPlace)} {b n : Nat} {M : DataW Unit} (h : w.ownsMap P k R b n M) (e : w'.heap[b]? = w.heap[b]?) : w'.ownsMap P k R b n M := by
  obtain ⟨es, clock, hb, r⟩ := h
  exact ⟨es, clock, e.trans hb, r⟩
theorem nsome_lt {w : World} {k : Nat} {o : Obj} (h : w.heap[k]? = some o) : k < w.heap.size := (Array.getElem?_eq_some_iff.1 h).1

section
variable {p m N last : Nat} {L : List Cn} {w w' : World}
theorem NetS.lt (h : NetS p m N last L w) {k : Nat} (hk : FootN p m L k) : k < w.heap.size := by
  rcases hk with rfl | rfl | ⟨c, hc, rfl | e⟩
  · exact nsome_lt h.head
  · obtain ⟨M, hM, _⟩ := h.map; exact hM.lt
  · exact nsome_lt (h.conn c hc).1
  · obtain ⟨cur, hcur⟩ := nrow_lt (h.conn c hc).2 e
    exact nsome_lt hcur
theorem NetS.kept (h : NetS p m N last L w) (hk : ∀ k, FootN p m L k → w'.heap[k]? = w.heap[k]?) : NetS p m N last L w' := by
  refine ⟨h.uq, h.le, (hk _ (.inl rfl)).trans h.head, ?_, fun c hc => ⟨(hk _ (.inr (.inr ⟨c, hc, .inl rfl⟩))).trans (h.conn c hc).1, nrow_block (h.conn c hc).2 fun k e => hk k (.inr (.inr ⟨c, hc, .inr e⟩))⟩, h.gi, h.vi⟩
  obtain ⟨M, hM, r⟩ := h.map
  exact ⟨M, nmap_block hM (hk _ (.inr (.inl rfl))), r⟩
theorem NetS.below (h : NetS p m N last L w) (hB : Below w.heap.size w w') : NetS p m N last L w' := h.kept fun k hk => hB.block k (h.lt hk)
theorem NetS.mod {S : Nat → Prop} (h : NetS p m N last L w) (hM : Mod S w w') (hS : ∀ k, FootN p m L k → ¬ S k) : NetS p m N last L w' := h.kept fun k hk => hM.block k (h.lt hk) (hS k hk)
theorem NetS.look (h : NetS p m N last L w) (a : Int) (ha : I64n a) : (Instr.lookup 49 (.map (some m)) (.int .i64 a) false).run Try.prog w = .ok (ptrOfN L a) w := by
  obtain ⟨M, hM, hat, _⟩ := h.map
  obtain ⟨v, ps, hrun, hv⟩ := hM.lookup nKey Try.underlying49 (zeroPtrN w) (zd := .nil) (zp := []) rfl (keyN ha)
  rw [hat a] at hv
  rw [hrun]
  congr 1
  unfold ptrOfN
  unfold keyDN at hv
  rcases ptrN_inv hv with ⟨rfl, e⟩ | ⟨b, rfl, e⟩
  · cases hf : fnd L a with
    | none => rfl
    | some c => rw [hf] at e; cases e
  · cases hf : fnd L a with
    | none => rw [hf] at e; cases e
    | some c =>
      rw [hf] at e
      have e2 : c.g = b := by simp at e; omega
      simp only [e2]
theorem NetS.cells (h : NetS p m N last L w) : w.cell? ⟨p, 0, none⟩ = some (.map (some m)) ∧ w.cell? ⟨p, 1, none⟩ = some (.int .i64 last) :=
  ⟨(cell_of_row _ _ 0 _ _ _ h.head).trans rfl, (cell_of_row _ _ 1 _ _ _ h.head).trans rfl⟩
theorem NetS.ccells (h : NetS p m N last L w) {c : Cn} (hc : c ∈ L) : w.cell? ⟨c.g, 0, none⟩ = some (.int .i64 c.addr) ∧ w.cell? ⟨c.g, 1, none⟩ = some c.v :=
  ⟨(cell_of_row _ _ 0 _ _ _ (h.conn c hc).1).trans rfl, (cell_of_row _ _ 1 _ _ _ (h.conn c hc).1).trans rfl⟩
theorem NetS.thaw (h : NetS p m N last L w) (i : Nat) : w.frozen? ⟨p, i, none⟩ = false := frozen_of_row _ _ _ _ _ h.head
theorem NetS.cthaw (h : NetS p m N last L w) {c : Cn} (hc : c ∈ L) (i : Nat) : w.frozen? ⟨c.g, i, none⟩ = false := frozen_of_row _ _ _ _ _ (h.conn c hc).1
theorem NetS.pm (h : NetS p m N last L w) : p ≠ m := fun e => by
  obtain ⟨M, ⟨es, clock, hb, _⟩, _⟩ := h.map
  have := h.head
  rw [e, hb] at this
  cases this
theorem NetS.pg (h : NetS p m N last L w) {c : Cn} (hc : c ∈ L) : p ≠ c.g := fun e => by
  have h1 := h.head
  have h2 := (h.conn c hc).1
  rw [e, h2] at h1
  injection h1 with h1
  injection h1 with h1 h3
  cases h3
theorem NetS.mg (h : NetS p m N last L w) {c : Cn} (hc : c ∈ L) : m ≠ c.g := fun e => by
  obtain ⟨M, ⟨es, clock, hb, _⟩, _⟩ := h.map
  have := (h.conn c hc).1
  rw [← e, hb] at this
  cases this
theorem NetS.pv (h : NetS p m N last L w) {c : Cn} (hc : c ∈ L) : c.v.ownBlock ≠ some p := fun e => by
  obtain ⟨cur, hcur⟩ := nrow_lt (h.conn c hc).2 e
  have h1 := h.head
  rw [hcur] at h1
  injection h1 with h1
  injection h1 with h1 h3
  cases h3
theorem NetS.mv (h : NetS p m N last L w) {c : Cn} (hc : c ∈ L) : c.v.ownBlock ≠ some m := fun e => by
  obtain ⟨cur, hcur⟩ := nrow_lt (h.conn c hc).2 e
  obtain ⟨M, ⟨es, clock, hb, _⟩, _⟩ := h.map
  rw [hcur] at hb
  cases hb
theorem NetS.gv (h : NetS p m N last L w) {c d : Cn} (hc : c ∈ L) (hd : d ∈ L) : c.v.ownBlock ≠ some d.g := fun e => by
  obtain ⟨cur, hcur⟩ := nrow_lt (h.conn c hc).2 e
  have h1 := (h.conn d hd).1
  rw [hcur] at h1
  injection h1 with h1
  injection h1 with h1 h3
  cases h3
/-- The last number is written. -/
theorem NetS.onLast (h : NetS p m N last L w) (l' : Nat) (hl : last ≤ l') : NetS p m N l' L (w.setCell ⟨p, 1, none⟩ (.int .i64 l')) := by
  have ho : ∀ k, k ≠ p → (w.setCell ⟨p, 1, none⟩ (.int .i64 l')).heap[k]? = w.heap[k]? := fun k hk => Below.heap_setCell _ _ _ _ hk
  refine ⟨h.uq, fun c hc => Nat.le_trans (h.le c hc) hl, ?_, ?_, ?_, h.gi, h.vi⟩
  · rw [row_set _ h.head]; rfl
  · obtain ⟨M, hM, r⟩ := h.map
    exact ⟨M, nmap_block hM (ho _ h.pm.symm), r⟩
  · intro c hc
    exact ⟨(ho _ (h.pg hc).symm).trans (h.conn c hc).1, nrow_block (h.conn c hc).2 fun k e => ho k fun e' => h.pv hc (e' ▸ e)⟩
/-- A connection is written: its struct, its bytes. -/
theorem NetS.onConn (h : NetS p m N last L w) {c : Cn} (hc : c ∈ L) {v' : Value} {b' : Bs} (ho : ∀ k, FootN p m L k → k ≠ c.g → c.v.ownBlock ≠ some k → w'.heap[k]? = w.heap[k]?)
    (hrow : w'.heap[c.g]? = some (.cells #[.int .i64 c.addr, v'] 84 (0, 0))) (hb : w'.ownsRow 0 5 1 v' b'.length (b'.map byteV))
    (hv : ∀ k, v'.ownBlock = some k → c.v.ownBlock = some k ∨ w.heap.size ≤ k) :
    NetS p m N last (setC L { c with v := v', b := b' }) w' ∧ ∀ k, FootN p m (setC L { c with v := v', b := b' }) k → FootN p m L k ∨ w.heap.size ≤ k := by
  have hx : ∃ d ∈ L, d.id = ({ c with v := v', b := b' } : Cn).id := ⟨c, hc, rfl⟩
  have hold : ∀ d, d ∈ L → d.id ≠ c.id → ∀ k, d.v.ownBlock = some k → c.v.ownBlock ≠ some k := fun d hd hne k e e' => hne (h.vi d hd c hc k e e')
  have hmem : ∀ d, d ∈ setC L { c with v := v', b := b' } → d = { c with v := v', b := b' } ∨ (d ∈ L ∧ d.id ≠ c.id) := fun d hd => (mem_setC hx).1 hd
  constructor
  · refine ⟨setC_uniq h.uq hx, ?_, (ho _ (.inl rfl) (h.pg hc) (h.pv hc)).trans h.head, ?_, ?_, ?_, ?_⟩
    · intro d hd
      rcases hmem d hd with rfl | ⟨hd, _⟩
      · exact h.le c hc
      · exact h.le d hd
    · obtain ⟨M, hM, h1, h2⟩ := h.map
      refine ⟨M, nmap_block hM (ho _ (.inr (.inl rfl)) (h.mg hc) (h.mv hc)), fun a => ?_, fun a => ?_⟩
      · rw [h1 a]
        unfold keyDN
        rw [fnd_setC h.uq hx]
        by_cases e : a = (c.id : Int)
        · subst e
          rw [if_pos rfl, fnd_mem h.uq hc]
        · rw [if_neg e]
      · rw [h2 a, fnd_setC h.uq hx]
        by_cases e : a = (c.id : Int)
        · subst e
          rw [if_pos rfl, fnd_mem h.uq hc]
          rfl
        · rw [if_neg e]
    · intro d hd
      rcases hmem d hd with rfl | ⟨hd, hne⟩
      · exact ⟨hrow, hb⟩
      · refine ⟨(ho _ (.inr (.inr ⟨d, hd, .inl rfl⟩)) (fun e => hne (h.gi d hd c hc e)) (h.gv hc hd)).trans (h.conn d hd).1, nrow_block (h.conn d hd).2 fun k e => ho k (.inr (.inr ⟨d, hd, .inr e⟩)) (fun e' => h.gv hd hc (e' ▸ e)) (hold d hd hne k e)⟩
    · intro a ha b hb e
      rcases hmem a ha with rfl | ⟨ha, hna⟩ <;> rcases hmem b hb with rfl | ⟨hb, hnb⟩
      · rfl
      · exact h.gi c hc b hb e
      · exact h.gi a ha c hc e
      · exact h.gi a ha b hb e
    · intro a ha b hb k e1 e2
      have new : ∀ d, d ∈ L → d.id ≠ c.id → v'.ownBlock = some k → d.v.ownBlock = some k → False := fun d hd hne h1 h2 => by
        rcases hv k h1 with h3 | h3
        · exact hold d hd hne k h2 h3
        · have := h.lt (.inr (.inr ⟨d, hd, .inr h2⟩)); omega
      rcases hmem a ha with rfl | ⟨ha, hna⟩ <;> rcases hmem b hb with rfl | ⟨hb, hnb⟩
      · rfl
      · exact (new b hb hnb e1 e2).elim
      · exact (new a ha hna e2 e1).elim
      · exact h.vi a ha b hb k e1 e2
  · intro k hk
    rcases hk with rfl | rfl | ⟨d, hd, e⟩
    · exact .inl (.inl rfl)
    · exact .inl (.inr (.inl rfl))
    · rcases hmem d hd with rfl | ⟨hd, hne⟩
      · rcases e with e | e
        · exact .inl (.inr (.inr ⟨c, hc, .inl e⟩))
        · rcases hv k e with h3 | h3
          · exact .inl (.inr (.inr ⟨c, hc, .inr h3⟩))
          · exact .inr h3
      · exact .inl (.inr (.inr ⟨d, hd, e⟩))
/-- A connection is put in under a number that was not there. -/
theorem NetS.onNew (h : NetS p m N last L w) {x : Cn} (hn : ∀ c ∈ L, c.id ≠ x.id) (hl : x.id ≤ last) (hi : I64n (x.id : Int)) (hN : N < maxLen)
    (hx : w.heap[x.g]? = some (.cells #[.int .i64 x.addr, x.v] 84 (0, 0))) (hrow : w.ownsRow 0 5 1 x.v x.b.length (x.b.map byteV))
    (hg : ∀ c ∈ L, c.g ≠ x.g) (hv : ∀ c ∈ L, ∀ k, x.v.ownBlock = some k → c.v.ownBlock ≠ some k) :
    ∃ w', (Instr.mapUpdate 49 (.map (some m)) (.int .i64 x.id) (.pointer (some ⟨x.g, 0, none⟩))).run Try.prog w = .ok () w' ∧ w.grownBy w' (some m) ∧ NetS p m (N + 1) last (L ++ [x]) w' := by
  obtain ⟨M, hM, h1, h2⟩ := h.map
  obtain ⟨w', hrun, hM', hgr⟩ := hM.update nKey Try.underlying49 hN (keyN hi) (ptrN_some x.g)
  have ho : ∀ k, k < w.heap.size → k ≠ m → w'.heap[k]? = w.heap[k]? := fun k hk e => hgr.block k hk (by simpa using e)
  have gm : x.g ≠ m := fun e => by
    obtain ⟨es, clock, hb, _⟩ := hM
    rw [e, hb] at hx
    cases hx
  have vm : x.v.ownBlock ≠ some m := fun e => by
    obtain ⟨cur, hc⟩ := nrow_lt hrow e
    obtain ⟨es, clock, hb, _⟩ := hM
    rw [hc] at hb
    cases hb
  have hmem : ∀ c, c ∈ L ++ [x] → c = x ∨ c ∈ L := fun c hc => by
    rw [List.mem_append, List.mem_singleton] at hc
    exact hc.symm
  refine ⟨w', hrun, hgr, snoc_uniq h.uq hn, ?_, (ho _ (nsome_lt h.head) h.pm).trans h.head, ⟨_, hM', fun a => ?_, fun a => ?_⟩, ?_, ?_, ?_⟩
  · intro c hc
    rcases hmem c hc with rfl | hc
    · exact hl
    · exact h.le c hc
  · unfold keyDN
    rw [fnd_snoc h.uq hn]
    by_cases e : a = (x.id : Int)
    · subst e
      rw [atKey_put_same hM.isMap (by trivial), if_pos rfl]
    · rw [if_neg e, atKey_put_other (by simpa using e), h1 a]
      rfl
  · rw [fnd_snoc h.uq hn]
    by_cases e : a = (x.id : Int)
    · subst e
      rw [has_put_same hM.isMap (by trivial), if_pos rfl]
      rfl
    · rw [if_neg e, has_put_other (by simpa using e), h2 a]
  · intro c hc
    rcases hmem c hc with rfl | hc
    · exact ⟨(ho _ (nsome_lt hx) gm).trans hx, nrow_block hrow fun k e => ho k (by obtain ⟨cur, hcur⟩ := nrow_lt hrow e; exact nsome_lt hcur) (fun e' => vm (e' ▸ e))⟩
    · exact ⟨(ho _ (nsome_lt (h.conn c hc).1) (h.mg hc).symm).trans (h.conn c hc).1, nrow_block (h.conn c hc).2 fun k e => ho k (h.lt (.inr (.inr ⟨c, hc, .inr e⟩))) (fun e' => h.mv hc (e' ▸ e))⟩
  · intro a ha b hb e
    rcases hmem a ha with e1 | h5 <;> rcases hmem b hb with e2 | h6
    · rw [e1, e2]
    · rw [e1] at e; exact absurd e.symm (hg b h6)
    · rw [e2] at e; exact absurd e (hg a h5)
    · exact h.gi a h5 b h6 e
  · intro a ha b hb k e1 e2
    rcases hmem a ha with e3 | h5 <;> rcases hmem b hb with e4 | h6
    · rw [e3, e4]
    · rw [e3] at e1; exact absurd e2 (hv b h6 k e1)
    · rw [e4] at e2; exact absurd e1 (hv a h5 k e2)
    · exact h.vi a h5 b h6 k e1 e2
/-- A number is struck. -/
theorem NetS.onDrop (h : NetS p m N last L w) {a : Int} (ha : I64n a) (ty : TypeId) :
    ∃ w', (Builtin.delete_ #[49, 3] ty #[.map (some m), .int .i64 a]).run Try.prog w = .ok (.tuple #[]) w' ∧ w.grownBy w' (some m) ∧ NetS p m N last (dropC L a) w' := by
  obtain ⟨M, hM, h1, h2⟩ := h.map
  obtain ⟨w', hrun, hM', ht⟩ := hM.drop nKey Try.underlying49 (keyN ha) ty
  have hgr := ht.grown
  have ho : ∀ k, k < w.heap.size → k ≠ m → w'.heap[k]? = w.heap[k]? := fun k hk e => hgr.block k hk (by simpa using e)
  have hmem : ∀ c, c ∈ dropC L a → c ∈ L := fun c hc => (mem_dropC.1 hc).1
  refine ⟨w', hrun, hgr, dropC_uniq h.uq a, fun c hc => h.le c (hmem c hc), (ho _ (nsome_lt h.head) h.pm).trans h.head, ⟨_, hM', fun b => ?_, fun b => ?_⟩, ?_, fun c hc d hd => h.gi c (hmem c hc) d (hmem d hd), fun c hc d hd => h.vi c (hmem c hc) d (hmem d hd)⟩
  · unfold keyDN
    rw [fnd_dropC h.uq]
    by_cases e : b = a
    · subst e
      rw [atKey_del_same, if_pos rfl]
    · rw [if_neg e, atKey_del_other (by simpa using e), h1 b]
      rfl
  · rw [fnd_dropC h.uq]
    by_cases e : b = a
    · subst e
      rw [has_del_same, if_pos rfl]
      rfl
    · rw [if_neg e, has_del_other (by simpa using e), h2 b]
  · intro c hc
    have hc := hmem c hc
    exact ⟨(ho _ (nsome_lt (h.conn c hc).1) (h.mg hc).symm).trans (h.conn c hc).1, nrow_block (h.conn c hc).2 fun k e => ho k (h.lt (.inr (.inr ⟨c, hc, .inr e⟩))) (fun e' => h.mv hc (e' ▸ e))⟩
end
end Go.Proofs.Ytabclpffjpcejaa
