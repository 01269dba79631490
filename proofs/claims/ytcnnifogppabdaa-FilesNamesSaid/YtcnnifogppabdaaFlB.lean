/-
  A disk of files in memory: its struct, its map, its files; what else turns leaves it; stores into it.
-/
import Derived.Test.YtcnnifogppabdaaFlA
import Derived.Test.YtcnnifogppabdaaQw
import Derived.Maps.OwnSet
import Derived.Maps.AppendAt
namespace Go.Proofs.Ytcnnifogppabdaa
open Go.RowKit Go.Maps
set_option linter.unusedVariables false
set_option maxRecDepth 100000

/-- How a pointer to a block reads. -/
def ptrE : Value → Option (DataW Unit × List MemPlace)
  | .pointer (some ⟨b, 0, .none⟩) => some (.lit (.int .i64 b), [])
  | .pointer .none => some (.nil, [])
  | _ => .none
theorem ptrE_some (b : Nat) : ptrE (.pointer (some ⟨b, 0, none⟩)) = some (.lit (.int .i64 b), []) := rfl
theorem ptrE_inv {v : Value} {z : DataW Unit × List MemPlace} (h : ptrE v = some z) : (v = .pointer none ∧ z.1 = .nil) ∨ ∃ b : Nat, v = .pointer (some ⟨b, 0, none⟩) ∧ z.1 = .lit (.int .i64 b) := by
  unfold ptrE at h
  split at h
  · injection h with h; subst h; exact .inr ⟨_, rfl, rfl⟩
  · injection h with h; subst h; exact .inl ⟨rfl, rfl⟩
  · cases h
theorem strKey : Keyed Try.prog 9 := string_keyed Try.underlying9
theorem keyStr {n : Bs} (h : n.length ≤ maxLen) : keyOf Try.prog 9 (.string (bs n)) = some (.string n) := by
  have := WideMaps.keyOf_string_mk (P := Try.prog) Try.underlying9 (s := bs n) (by rw [bs_size]; exact h)
  simpa using this
theorem zeroPtr (w : World) : (zeroValue 74).run Try.prog w = .ok (.pointer none) w := by kernel_rfl

/-- What turns is of F, or new. -/
structure Only (F : Nat → Prop) (w w' : World) : Prop where
  os : w'.os = w.os
  tape : w'.tape = w.tape
  output : w'.output = w.output
  size : w.heap.size ≤ w'.heap.size
  block : ∀ k, k < w.heap.size → ¬ F k → w'.heap[k]? = w.heap[k]?
theorem Only.refl (F : Nat → Prop) (w : World) : Only F w w := ⟨rfl, rfl, rfl, Nat.le_refl _, fun _ _ _ => rfl⟩
theorem Only.trans {F F1 : Nat → Prop} {a b c : World} (h : Only F a b) (k : Only F1 b c) (hF : ∀ i, F1 i → F i ∨ a.heap.size ≤ i) : Only F a c :=
  ⟨k.os.trans h.os, k.tape.trans h.tape, k.output.trans h.output, Nat.le_trans h.size k.size, fun i hi hn => (k.block i (Nat.lt_of_lt_of_le hi h.size) (fun e => by rcases hF i e with h1 | h1; exact hn h1; omega)).trans (h.block i hi hn)⟩
theorem Only.alloc {F : Nat → Prop} {a b : World} (h : Only F a b) (o : Obj) : Only F a (b.alloc o) :=
  h.trans (F1 := F) ⟨rfl, rfl, rfl, by simp, fun k hk _ => Below.heap_alloc b o k hk⟩ fun _ h => .inl h
theorem Only.setCell {F : Nat → Prop} {a b : World} (h : Only F a b) {p : Addr} (hp : F p.block ∨ a.heap.size ≤ p.block) (v : Value) : Only F a (b.setCell p v) :=
  h.trans (F1 := fun k => k = p.block) ⟨rfl, rfl, rfl, by simp, fun k _ hn => Below.heap_setCell b p v k hn⟩ fun i e => by subst e; exact hp
theorem Only.drew {F : Nat → Prop} {a b : World} (h : Only F a b) : Only F a b.drew := ⟨h.os, h.tape, h.output, h.size, h.block⟩
theorem Only.drewN {F : Nat → Prop} {a b : World} (h : Only F a b) (n : Nat) : Only F a (b.drewN n) := ⟨h.os, h.tape, h.output, h.size, h.block⟩
theorem Only.grown {F : Nat → Prop} {a b c : World} {row : Option Nat} (h : Only F a b) (hg : b.grownBy c row) (hr : ∀ k, row = some k → F k ∨ a.heap.size ≤ k) : Only F a c :=
  h.trans (F1 := fun k => some k = row) ⟨hg.os, hg.tape, hg.output, hg.size, fun k hk hn => hg.block k hk hn⟩ fun i e => hr i e.symm
theorem Only.below {F : Nat → Prop} {B : Nat} {a b c : World} (h : Below B a b) (hs : B ≤ b.heap.size) (k : Only F b c) (hF : ∀ i, F i → B ≤ i) : Below B a c :=
  ⟨k.os.trans h.os, k.tape.trans h.tape, k.output.trans h.output, Nat.le_trans h.size k.size, fun i hi => (k.block i (by omega) (fun e => by have := hF i e; omega)).trans (h.block i hi)⟩
theorem Only.of_below {F : Nat → Prop} {a b : World} (h : Below a.heap.size a b) : Only F a b := ⟨h.os, h.tape, h.output, h.size, fun k hk _ => h.block k hk⟩
theorem Only.mono {F F' : Nat → Prop} {a b : World} (h : Only F a b) (hF : ∀ i, F i → F' i ∨ a.heap.size ≤ i) : Only F' a b := (Only.refl F' a).trans h hF

structure Ly where
  p : Nat
  m : Nat
  fb : Bs → Nat
  v : Bs → Value
  N : Nat
def keyD (y : Ly) (S : List Fil) (n : Bs) : DataW Unit := match find S n with | some _ => .lit (.int .i64 (y.fb n)) | none => .nil
def ptrOf (y : Ly) (S : List Fil) (n : Bs) : Value := match find S n with | some _ => .pointer (some ⟨y.fb n, 0, none⟩) | none => .pointer none
def MapAt (y : Ly) (S : List Fil) (w : World) : Prop := ∃ M : DataW Unit, w.ownsMap Try.prog 9 ptrE y.m y.N M ∧ (∀ n : Bs, M.atKey (.string n) .nil = keyD y S n) ∧ (∀ n : Bs, Maps.has M (.string n) = (find S n).isSome)
def headRow (y : Ly) (D : Dk) (u : Int) : Array Value := #[.map (some y.m), .int .i64 u, .int .i64 D.room, .int .i64 D.short, .int .i64 D.fuse]
def Foot (y : Ly) (S : List Fil) (k : Nat) : Prop := k = y.p ∨ k = y.m ∨ ∃ f ∈ S, k = y.fb f.n ∨ (y.v f.n).ownBlock = some k
structure DiskU (y : Ly) (D : Dk) (u : Int) (w : World) : Prop where
  uq : Uniq D.S
  head : w.heap[y.p]? = some (.cells (headRow y D u) 65 (0, 0))
  map : MapAt y D.S w
  file : ∀ f ∈ D.S, w.heap[y.fb f.n]? = some (.cells #[y.v f.n, .int .i64 f.s] 76 (0, 0)) ∧ w.ownsRow 0 5 1 (y.v f.n) f.d.length (f.d.map byteV)
  fbi : ∀ f ∈ D.S, ∀ g ∈ D.S, y.fb f.n = y.fb g.n → f.n = g.n
  vi : ∀ f ∈ D.S, ∀ g ∈ D.S, ∀ k, (y.v f.n).ownBlock = some k → (y.v g.n).ownBlock = some k → f.n = g.n

theorem row_block {w w' : World} {base n : Nat} {e : TypeId} {v : Value} {xs : List Value} (h : w.ownsRow base e 1 v n xs) (hk : ∀ k, v.ownBlock = some k → w'.heap[k]? = w.heap[k]?) : w'.ownsRow base e 1 v n xs := by
  refine ⟨h.1, ?_⟩
  rcases h.2 with h | ⟨g, cap, cur, rfl, hb, hh, r⟩
  · exact .inl h
  · exact .inr ⟨g, cap, cur, rfl, hb, (hk g rfl).trans hh, r⟩
theorem row_lt {w : World} {base n : Nat} {e : TypeId} {v : Value} {xs : List Value} (h : w.ownsRow base e 1 v n xs) {k : Nat} (hk : v.ownBlock = some k) : ∃ cur, w.heap[k]? = some (.cells cur e (0, 0)) := by
  rcases h.2 with ⟨rfl, _⟩ | ⟨g, cap, cur, rfl, hb, hh, r⟩
  · cases hk
  · injection hk with hk
    subst hk
    exact ⟨cur, hh⟩
theorem map_block {w w' : World} {P : Program} {k : TypeId} {R : Value → Option (DataW Unit × List MemPlace)} {b n : Nat} {M : DataW Unit} (h : w.ownsMap P k R b n M) (e : w'.heap[b]? = w.heap[b]?) : w'.ownsMap P k R b n M := by
  obtain ⟨es, clock, hb, r⟩ := h
  exact ⟨es, clock, e.trans hb, r⟩
theorem some_lt {w : World} {k : Nat} {o : Obj} (h : w.heap[k]? = some o) : k < w.heap.size := (Array.getElem?_eq_some_iff.1 h).1

section
variable {y : Ly} {D : Dk} {u : Int} {w w' : World}
theorem DiskU.lt (h : DiskU y D u w) {k : Nat} (hk : Foot y D.S k) : k < w.heap.size := by
  rcases hk with rfl | rfl | ⟨f, hf, rfl | e⟩
  · exact some_lt h.head
  · obtain ⟨M, hM, _⟩ := h.map; exact hM.lt
  · exact some_lt (h.file f hf).1
  · obtain ⟨cur, hc⟩ := row_lt (h.file f hf).2 e
    exact some_lt hc
theorem DiskU.kept (h : DiskU y D u w) (hk : ∀ k, Foot y D.S k → w'.heap[k]? = w.heap[k]?) : DiskU y D u w' := by
  refine ⟨h.uq, (hk _ (.inl rfl)).trans h.head, ?_, fun f hf => ⟨(hk _ (.inr (.inr ⟨f, hf, .inl rfl⟩))).trans (h.file f hf).1, row_block (h.file f hf).2 fun k e => hk k (.inr (.inr ⟨f, hf, .inr e⟩))⟩, h.fbi, h.vi⟩
  obtain ⟨M, hM, r⟩ := h.map
  exact ⟨M, map_block hM (hk _ (.inr (.inl rfl))), r⟩
theorem DiskU.only {F : Nat → Prop} (h : DiskU y D u w) (ho : Only F w w') (hF : ∀ k, Foot y D.S k → ¬ F k) : DiskU y D u w' := h.kept fun k hk => ho.block k (h.lt hk) (hF k hk)
theorem DiskU.below (h : DiskU y D u w) (ho : Below w.heap.size w w') : DiskU y D u w' := h.kept fun k hk => ho.block k (h.lt hk)
theorem DiskU.alloc (h : DiskU y D u w) (o : Obj) : DiskU y D u (w.alloc o) := h.kept fun k hk => Below.heap_alloc w o k (h.lt hk)
theorem DiskU.drew (h : DiskU y D u w) : DiskU y D u w.drew := h.kept fun _ _ => rfl
theorem DiskU.drewN (h : DiskU y D u w) (n : Nat) : DiskU y D u (w.drewN n) := h.kept fun _ _ => rfl
theorem DiskU.look (h : DiskU y D u w) (n : Bs) (hn : n.length ≤ maxLen) : (Instr.lookup 63 (.map (some y.m)) (.string (bs n)) false).run Try.prog w = .ok (ptrOf y D.S n) w := by
  obtain ⟨M, hM, hat, _⟩ := h.map
  obtain ⟨v, ps, hrun, hv⟩ := hM.lookup strKey Try.underlying63 (zeroPtr w) (zd := .nil) (zp := []) rfl (keyStr hn)
  rw [hat n] at hv
  rw [hrun]
  congr 1
  unfold ptrOf
  unfold keyD at hv
  rcases ptrE_inv hv with ⟨rfl, e⟩ | ⟨b, rfl, e⟩
  · cases hf : find D.S n with
    | none => rfl
    | some f => rw [hf] at e; cases e
  · cases hf : find D.S n with
    | none => rw [hf] at e; cases e
    | some f =>
      rw [hf] at e
      have e2 : y.fb n = b := by simp at e; omega
      rw [e2]
theorem DiskU.cells (h : DiskU y D u w) : w.cell? ⟨y.p, 0, none⟩ = some (.map (some y.m)) ∧ w.cell? ⟨y.p, 1, none⟩ = some (.int .i64 u) ∧ w.cell? ⟨y.p, 2, none⟩ = some (.int .i64 D.room) ∧ w.cell? ⟨y.p, 3, none⟩ = some (.int .i64 D.short) ∧ w.cell? ⟨y.p, 4, none⟩ = some (.int .i64 D.fuse) :=
  ⟨cell_of_row _ _ _ _ _ _ h.head, cell_of_row _ _ _ _ _ _ h.head, cell_of_row _ _ _ _ _ _ h.head, cell_of_row _ _ _ _ _ _ h.head, cell_of_row _ _ _ _ _ _ h.head⟩
theorem DiskU.thaw (h : DiskU y D u w) (i : Nat) : w.frozen? ⟨y.p, i, none⟩ = false := frozen_of_row _ _ _ _ _ h.head
theorem DiskU.fcells (h : DiskU y D u w) {f : Fil} (hf : f ∈ D.S) : w.cell? ⟨y.fb f.n, 0, none⟩ = some (y.v f.n) ∧ w.cell? ⟨y.fb f.n, 1, none⟩ = some (.int .i64 f.s) :=
  ⟨cell_of_row _ _ _ _ _ _ (h.file f hf).1, cell_of_row _ _ _ _ _ _ (h.file f hf).1⟩
theorem DiskU.fthaw (h : DiskU y D u w) {f : Fil} (hf : f ∈ D.S) (i : Nat) : w.frozen? ⟨y.fb f.n, i, none⟩ = false := frozen_of_row _ _ _ _ _ (h.file f hf).1
theorem DiskU.pm (h : DiskU y D u w) : y.p ≠ y.m := fun e => by
  obtain ⟨M, ⟨es, clock, hb, _⟩, _⟩ := h.map
  have := h.head
  rw [e, hb] at this
  cases this
theorem DiskU.pf (h : DiskU y D u w) {f : Fil} (hf : f ∈ D.S) : y.p ≠ y.fb f.n := fun e => by
  have h1 := h.head
  have h2 := (h.file f hf).1
  rw [e, h2] at h1
  injection h1 with h1
  injection h1 with h1 h3
  cases h3
theorem DiskU.mf (h : DiskU y D u w) {f : Fil} (hf : f ∈ D.S) : y.m ≠ y.fb f.n := fun e => by
  obtain ⟨M, ⟨es, clock, hb, _⟩, _⟩ := h.map
  have := (h.file f hf).1
  rw [← e, hb] at this
  cases this
theorem DiskU.pv (h : DiskU y D u w) {f : Fil} (hf : f ∈ D.S) : (y.v f.n).ownBlock ≠ some y.p := fun e => by
  obtain ⟨cur, hc⟩ := row_lt (h.file f hf).2 e
  have h1 := h.head
  rw [hc] at h1
  injection h1 with h1
  injection h1 with h1 h3
  cases h3
theorem DiskU.mv (h : DiskU y D u w) {f : Fil} (hf : f ∈ D.S) : (y.v f.n).ownBlock ≠ some y.m := fun e => by
  obtain ⟨cur, hc⟩ := row_lt (h.file f hf).2 e
  obtain ⟨M, ⟨es, clock, hb, _⟩, _⟩ := h.map
  rw [hc] at hb
  cases hb
theorem DiskU.fv (h : DiskU y D u w) {f g : Fil} (hf : f ∈ D.S) (hg : g ∈ D.S) : (y.v f.n).ownBlock ≠ some (y.fb g.n) := fun e => by
  obtain ⟨cur, hc⟩ := row_lt (h.file f hf).2 e
  have h1 := (h.file g hg).1
  rw [hc] at h1
  injection h1 with h1
  injection h1 with h1 h3
  cases h3

/-- A field of the disk's struct is written. -/
theorem DiskU.onHead (h : DiskU y D u w) (i : Nat) (x : Value) {D' : Dk} {u' : Int} (hS : D'.S = D.S) (hrow : (headRow y D u).setIfInBounds i x = headRow y D' u') : DiskU y D' u' (w.setCell ⟨y.p, i, none⟩ x) := by
  have ho : ∀ k, k ≠ y.p → (w.setCell ⟨y.p, i, none⟩ x).heap[k]? = w.heap[k]? := fun k hk => Below.heap_setCell _ _ _ _ hk
  refine ⟨hS ▸ h.uq, ?_, ?_, ?_, hS ▸ h.fbi, hS ▸ h.vi⟩
  · rw [row_set _ h.head, hrow]
  · rw [hS]
    obtain ⟨M, hM, r⟩ := h.map
    exact ⟨M, map_block hM (ho _ h.pm.symm), r⟩
  · rw [hS]
    intro f hf
    refine ⟨(ho _ (h.pf hf).symm).trans (h.file f hf).1, row_block (h.file f hf).2 fun k e => ho k fun e' => h.pv hf (e' ▸ e)⟩
/-- A file is written: its struct, its bytes. -/
theorem DiskU.onFile (h : DiskU y D u w) {f : Fil} (hf : f ∈ D.S) {v' : Value} {d' : Bs} {s' : Nat} (ho : ∀ k, Foot y D.S k → k ≠ y.fb f.n → (y.v f.n).ownBlock ≠ some k → w'.heap[k]? = w.heap[k]?)
    (hfile : w'.heap[y.fb f.n]? = some (.cells #[v', .int .i64 s'] 76 (0, 0))) (hrow : w'.ownsRow 0 5 1 v' d'.length (d'.map byteV))
    (hv : ∀ k, v'.ownBlock = some k → (y.v f.n).ownBlock = some k ∨ w.heap.size ≤ k) :
    DiskU { y with v := fun n => if n = f.n then v' else y.v n } { D with S := upd D.S ⟨f.n, d', s'⟩ } u w' ∧ ∀ k, Foot { y with v := fun n => if n = f.n then v' else y.v n } (upd D.S ⟨f.n, d', s'⟩) k → Foot y D.S k ∨ w.heap.size ≤ k := by
  have hfs : (find D.S f.n).isSome := by rw [find_mem h.uq hf]; rfl
  have hmem : ∀ g, g ∈ upd D.S ⟨f.n, d', s'⟩ → g = ⟨f.n, d', s'⟩ ∨ (g ∈ D.S ∧ g.n ≠ f.n) := fun g hg => (mem_upd h.uq (x := ⟨f.n, d', s'⟩) hfs).1 hg
  have hold : ∀ g, g ∈ D.S → g.n ≠ f.n → ∀ k, (y.v g.n).ownBlock = some k → (y.v f.n).ownBlock ≠ some k := fun g hg hne k e e' => hne (h.vi g hg f hf k e e')
  constructor
  · refine ⟨upd_uniq h.uq, ?_, ?_, ?_, ?_, ?_⟩
    · exact (ho _ (.inl rfl) (h.pf hf) (h.pv hf)).trans h.head
    · obtain ⟨M, hM, h1, h2⟩ := h.map
      refine ⟨M, map_block hM (ho _ (.inr (.inl rfl)) (h.mf hf) (h.mv hf)), fun n => ?_, fun n => ?_⟩
      · rw [h1 n]
        unfold keyD
        show _ = match find (upd D.S ⟨f.n, d', s'⟩) n with | some _ => _ | none => _
        rw [find_upd h.uq (x := ⟨f.n, d', s'⟩) hfs]
        by_cases e : n = f.n
        · subst e
          rw [if_pos rfl, find_mem h.uq hf]
        · rw [if_neg e]
      · rw [h2 n]
        show _ = (find (upd D.S ⟨f.n, d', s'⟩) n).isSome
        rw [find_upd h.uq (x := ⟨f.n, d', s'⟩) hfs]
        by_cases e : n = f.n
        · subst e
          rw [if_pos rfl, find_mem h.uq hf]
          rfl
        · rw [if_neg e]
    · intro g hg
      rcases hmem g hg with rfl | ⟨hg, hne⟩
      · simp only [if_true]
        exact ⟨hfile, hrow⟩
      · simp only [if_neg hne]
        refine ⟨(ho _ (.inr (.inr ⟨g, hg, .inl rfl⟩)) (fun e => hne (h.fbi g hg f hf e)) (h.fv hf hg)).trans (h.file g hg).1, row_block (h.file g hg).2 fun k e => ho k (.inr (.inr ⟨g, hg, .inr e⟩)) (fun e' => h.fv hg hf (e' ▸ e)) (hold g hg hne k e)⟩
    · intro a ha b hb e
      rcases hmem a ha with rfl | ⟨ha, hna⟩ <;> rcases hmem b hb with rfl | ⟨hb, hnb⟩
      · rfl
      · exact h.fbi f hf b hb e
      · exact h.fbi a ha f hf e
      · exact h.fbi a ha b hb e
    · intro a ha b hb k e1 e2
      have new : ∀ g, g ∈ D.S → g.n ≠ f.n → v'.ownBlock = some k → (y.v g.n).ownBlock = some k → False := fun g hg hne h1 h2 => by
        rcases hv k h1 with h3 | h3
        · exact hold g hg hne k h2 h3
        · have := h.lt (.inr (.inr ⟨g, hg, .inr h2⟩)); omega
      rcases hmem a ha with rfl | ⟨ha, hna⟩ <;> rcases hmem b hb with rfl | ⟨hb, hnb⟩
      · rfl
      · simp only [if_true] at e1
        simp only [if_neg hnb] at e2
        exact (new b hb hnb e1 e2).elim
      · simp only [if_true] at e2
        simp only [if_neg hna] at e1
        exact (new a ha hna e2 e1).elim
      · simp only [if_neg hna] at e1
        simp only [if_neg hnb] at e2
        exact h.vi a ha b hb k e1 e2
  · intro k hk
    rcases hk with rfl | rfl | ⟨g, hg, e⟩
    · exact .inl (.inl rfl)
    · exact .inl (.inr (.inl rfl))
    · rcases hmem g hg with rfl | ⟨hg, hne⟩
      · rcases e with e | e
        · exact .inl (.inr (.inr ⟨f, hf, .inl e⟩))
        · simp only [if_true] at e
          rcases hv k e with h3 | h3
          · exact .inl (.inr (.inr ⟨f, hf, .inr h3⟩))
          · exact .inr h3
      · simp only [if_neg hne] at e
        exact .inl (.inr (.inr ⟨g, hg, e⟩))
/-- A file is put in under a name that was not there. -/
theorem DiskU.onNew (h : DiskU y D u w) {n : Bs} (hn : find D.S n = none) (hm : y.N < maxLen) (hl : n.length ≤ maxLen) {g : Nat} {v' : Value} {d' : Bs} {s' : Nat}
    (hfile : w.heap[g]? = some (.cells #[v', .int .i64 s'] 76 (0, 0))) (hrow : w.ownsRow 0 5 1 v' d'.length (d'.map byteV))
    (hg : ∀ f ∈ D.S, y.fb f.n ≠ g) (hv : ∀ f ∈ D.S, ∀ k, v'.ownBlock = some k → (y.v f.n).ownBlock ≠ some k) :
    ∃ w', (Instr.mapUpdate 63 (.map (some y.m)) (.string (bs n)) (.pointer (some ⟨g, 0, none⟩))).run Try.prog w = .ok () w' ∧ w.grownBy w' (some y.m) ∧
      DiskU { y with fb := fun m => if m = n then g else y.fb m, v := fun m => if m = n then v' else y.v m, N := y.N + 1 } { D with S := ins D.S ⟨n, d', s'⟩ } u w' := by
  have hne : ∀ f ∈ D.S, f.n ≠ n := find_none.1 hn
  obtain ⟨M, hM, h1, h2⟩ := h.map
  obtain ⟨w', hrun, hM', hgr⟩ := hM.update strKey Try.underlying63 hm (keyStr hl) (ptrE_some g)
  have ho : ∀ k, k < w.heap.size → k ≠ y.m → w'.heap[k]? = w.heap[k]? := fun k hk e => hgr.block k hk (by simpa using e)
  have gm : g ≠ y.m := fun e => by
    obtain ⟨es, clock, hb, _⟩ := hM
    rw [e, hb] at hfile
    cases hfile
  have vm : v'.ownBlock ≠ some y.m := fun e => by
    obtain ⟨cur, hc⟩ := row_lt hrow e
    obtain ⟨es, clock, hb, _⟩ := hM
    rw [hc] at hb
    cases hb
  have hmem : ∀ f, f ∈ ins D.S ⟨n, d', s'⟩ → f = ⟨n, d', s'⟩ ∨ f ∈ D.S := fun f hf => mem_ins.1 hf
  refine ⟨w', hrun, hgr, ins_uniq h.uq hn, (ho _ (some_lt h.head) h.pm).trans h.head, ⟨_, hM', fun m => ?_, fun m => ?_⟩, ?_, ?_, ?_⟩
  · unfold keyD
    show _ = match find (ins D.S ⟨n, d', s'⟩) m with | some _ => _ | none => _
    rw [find_ins (x := ⟨n, d', s'⟩) h.uq hn]
    by_cases e : m = n
    · subst e
      rw [atKey_put_same hM.isMap (by trivial), if_pos rfl]
      simp
    · rw [if_neg e, atKey_put_other (by simpa using e), h1 m]
      unfold keyD
      simp only [if_neg e]
  · show _ = (find (ins D.S ⟨n, d', s'⟩) m).isSome
    rw [find_ins (x := ⟨n, d', s'⟩) h.uq hn]
    by_cases e : m = n
    · subst e
      rw [has_put_same hM.isMap (by trivial), if_pos rfl]
      rfl
    · rw [if_neg e, has_put_other (by simpa using e), h2 m]
  · intro f hf
    rcases hmem f hf with rfl | hf
    · simp only [if_true]
      exact ⟨(ho _ (some_lt hfile) gm).trans hfile, row_block hrow fun k e => ho k (by obtain ⟨c, hc⟩ := row_lt hrow e; exact some_lt hc) (fun e' => vm (e' ▸ e))⟩
    · simp only [if_neg (hne f hf)]
      exact ⟨(ho _ (some_lt (h.file f hf).1) (h.mf hf).symm).trans (h.file f hf).1, row_block (h.file f hf).2 fun k e => ho k (h.lt (.inr (.inr ⟨f, hf, .inr e⟩))) (fun e' => h.mv hf (e' ▸ e))⟩
  · intro a ha b hb e
    rcases hmem a ha with rfl | ha <;> rcases hmem b hb with rfl | hb
    · rfl
    · simp only [if_true, if_neg (hne b hb)] at e
      exact absurd e.symm (hg b hb)
    · simp only [if_true, if_neg (hne a ha)] at e
      exact absurd e (hg a ha)
    · simp only [if_neg (hne a ha), if_neg (hne b hb)] at e
      exact h.fbi a ha b hb e
  · intro a ha b hb k e1 e2
    rcases hmem a ha with rfl | ha <;> rcases hmem b hb with rfl | hb
    · rfl
    · simp only [if_true] at e1
      simp only [if_neg (hne b hb)] at e2
      exact absurd e2 (hv b hb k e1)
    · simp only [if_true] at e2
      simp only [if_neg (hne a ha)] at e1
      exact absurd e1 (hv a ha k e2)
    · simp only [if_neg (hne a ha)] at e1
      simp only [if_neg (hne b hb)] at e2
      exact h.vi a ha b hb k e1 e2
/-- A name is struck. -/
theorem DiskU.onRid (h : DiskU y D u w) {n : Bs} (hl : n.length ≤ maxLen) (ty : TypeId) :
    ∃ w', (Builtin.delete_ #[63, 9] ty #[.map (some y.m), .string (bs n)]).run Try.prog w = .ok (.tuple #[]) w' ∧ w.grownBy w' (some y.m) ∧ DiskU y { D with S := rid D.S n } u w' := by
  obtain ⟨M, hM, h1, h2⟩ := h.map
  obtain ⟨w', hrun, hM', ht⟩ := hM.drop strKey Try.underlying63 (keyStr hl) ty
  have hgr := ht.grown
  have ho : ∀ k, k < w.heap.size → k ≠ y.m → w'.heap[k]? = w.heap[k]? := fun k hk e => hgr.block k hk (by simpa using e)
  have hmem : ∀ f, f ∈ rid D.S n → f ∈ D.S ∧ f.n ≠ n := fun f hf => mem_rid.1 hf
  refine ⟨w', hrun, hgr, rid_uniq h.uq, (ho _ (some_lt h.head) h.pm).trans h.head, ⟨_, hM', fun m => ?_, fun m => ?_⟩, ?_, fun a ha b hb => h.fbi a (hmem a ha).1 b (hmem b hb).1, fun a ha b hb => h.vi a (hmem a ha).1 b (hmem b hb).1⟩
  · unfold keyD
    show _ = match find (rid D.S n) m with | some _ => _ | none => _
    rw [find_rid h.uq]
    by_cases e : m = n
    · subst e
      rw [atKey_del_same, if_pos rfl]
    · rw [if_neg e, atKey_del_other (by simpa using e), h1 m]
      rfl
  · show _ = (find (rid D.S n) m).isSome
    rw [find_rid h.uq]
    by_cases e : m = n
    · subst e
      rw [has_del_same, if_pos rfl]
      rfl
    · rw [if_neg e, has_del_other (by simpa using e), h2 m]
  · intro f hf
    have hf := (hmem f hf).1
    exact ⟨(ho _ (some_lt (h.file f hf).1) (h.mf hf).symm).trans (h.file f hf).1, row_block (h.file f hf).2 fun k e => ho k (h.lt (.inr (.inr ⟨f, hf, .inr e⟩))) (fun e' => h.mv hf (e' ▸ e))⟩
end
end Go.Proofs.Ytcnnifogppabdaa
