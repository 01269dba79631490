/-
  Rows of requests; what lies between two rounds of the landed Feed.
  The landed Feed.
  New; what is no request (the walk of HttpBad).
-/
import Derived.Test.YtjhameebehkdjaaGreatDoorHuF
import Derived.Maps.AppendAt
import Derived.Test.YtjhameebehkdjaaGreatDoorGb
namespace Go.Proofs.YtjhameebehkdjaaGreatDoor
open Go.RowKit Go.Shelf
set_option linter.unusedVariables false
set_option maxRecDepth 100000

/-- Requests in a row of structs, no block of it in S. -/
def RqS (w : World) (S : Nat → Prop) (v : Value) (L : List Rq) : Prop := ∃ xs, w.ownsRow 0 139 3 v L.length xs ∧ OffV S v ∧ ∀ j (h : j < L.length), ∃ x, xs[j * 3]? = some (.string (bs reqL)) ∧ xs[j * 3 + 1]? = some x ∧ xs[j * 3 + 2]? = some (.bool L[j].2) ∧ SlV w x L[j].1 ∧ OffV S x ∧ OffV (fun k => v.ownBlock = some k) x
theorem RqS.mod {S S' : Nat → Prop} {w w1 : World} {v : Value} {L : List Rq} (h : RqS w S v L) (k : Mod S' w w1) (hs : ∀ i, S' i → S i) : RqS w1 S v L := by
  obtain ⟨xs, h1, h2, h4⟩ := h
  refine ⟨xs, own_mod h1 k (fun i hi e => h2 i hi (hs i e)), h2, fun j hj => ?_⟩
  obtain ⟨x, a, b, c, e2, e3, e4⟩ := h4 j hj
  exact ⟨x, a, b, c, e2.mod k (fun i hi e => e3 i hi (hs i e)), e3, e4⟩
theorem RqS.on {S : Nat → Prop} {w w1 : World} {v : Value} {L : List Rq} (h : RqS w S v L) (k : Below w.heap.size w w1) : RqS w1 S v L := by
  obtain ⟨xs, h1, h2, h4⟩ := h
  refine ⟨xs, own_mod (S := fun _ => False) h1 (Mod.below k) (fun i hi e => e), h2, fun j hj => ?_⟩
  obtain ⟨x, a, b, c, e2, e3, e4⟩ := h4 j hj
  exact ⟨x, a, b, c, e2.mod (S := fun _ => False) (Mod.below k) (fun i hi e => e), e3, e4⟩
theorem RqS.wide {S S' : Nat → Prop} {w : World} {v : Value} {L : List Rq} (h : RqS w S v L) (hs : ∀ i, S' i → S i ∨ w.heap.size ≤ i) : RqS w S' v L := by
  obtain ⟨xs, h1, h2, h4⟩ := h
  refine ⟨xs, h1, fun i hi e => ?_, fun j hj => ?_⟩
  · rcases hs i e with e | e
    · exact h2 i hi e
    · have := (h1.lt i hi).2; omega
  · obtain ⟨x, a, b, c, e2, e3, e4⟩ := h4 j hj
    refine ⟨x, a, b, c, e2, fun i hi e => ?_, e4⟩
    rcases hs i e with e | e
    · exact e3 i hi e
    · have := e2.2 i hi; omega
theorem RqS.nil (w : World) (S : Nat → Prop) : RqS w S (.slice none 0 0) [] := ⟨[], World.ownsRow_nil _ _ _ _, fun k hk => by simp [Value.ownBlock] at hk, fun j h => absurd h (by simp)⟩
theorem RqS.lt {S : Nat → Prop} {w : World} {v : Value} {L : List Rq} (h : RqS w S v L) : ∀ k, v.ownBlock = some k → k < w.heap.size := fun k hk => by
  obtain ⟨xs, h1, -⟩ := h
  exact (h1.lt k hk).2
theorem RqS.sl {S : Nat → Prop} {w : World} {v : Value} {L : List Rq} (h : RqS w S v L) : ∃ A c, v = .slice A L.length c := by
  obtain ⟨xs, h1, -⟩ := h
  rcases h1.2 with ⟨hv, h0⟩ | ⟨g, cap, cur, hv, -⟩
  · exact ⟨none, 0, by rw [hv, h0]⟩
  · exact ⟨_, cap, hv⟩
/-- One more, behind an append. -/
theorem RqS.snoc {S : Nat → Prop} {w w1 : World} {v v1 x : Value} {L : List Rq} {y : Rq} {xs : List Value} (ho : w.ownsRow 0 139 3 v L.length xs) (hv : OffV S v) (h4 : ∀ j (h : j < L.length), ∃ x, xs[j * 3]? = some (.string (bs reqL)) ∧ xs[j * 3 + 1]? = some x ∧ xs[j * 3 + 2]? = some (.bool L[j].2) ∧ SlV w x L[j].1 ∧ OffV S x ∧ OffV (fun k => v.ownBlock = some k) x) (hS : ∀ k, S k → k < w.heap.size) (hx : SlV w x y.1) (hxS : OffV S x) (hxv : OffV (fun k => v.ownBlock = some k) x)
    (h1 : w1.ownsRow 0 139 3 v1 (L.length + 1) (xs ++ [.string (bs reqL), x, .bool y.2])) (hg : w.grownBy w1 v.ownBlock) (hu : v1.ownBlock = v.ownBlock ∨ v1.ownBlock = some w.heap.size) : RqS w1 S v1 (L ++ [y]) := by
  have hM : Mod (fun k => v.ownBlock = some k) w w1 := Mod.grown hg (fun k hk => hk)
  have hv' : ∀ k, v1.ownBlock = some k → v.ownBlock = some k ∨ w.heap.size ≤ k := fun k hk => by
    rcases hu with e | e
    · exact .inl (by rw [← e]; exact hk)
    · rw [e] at hk; injection hk with hk; exact .inr (by omega)
  have new : ∀ (x : Value) (l : Bs), SlV w x l → OffV (fun k => v.ownBlock = some k) x → OffV (fun k => v1.ownBlock = some k) x := fun x l hx ho i hi e => by
    rcases hv' i e with e | e
    · exact ho i hi e
    · have := hx.2 i hi; omega
  have hl : xs.length = L.length * 3 := ho.1
  refine ⟨xs ++ [.string (bs reqL), x, .bool y.2], by simpa using h1, fun k hk e => ?_, fun j hj => ?_⟩
  · rcases hv' k hk with h | h
    · exact hv k h e
    · have := hS k e; omega
  · by_cases hj2 : j < L.length
    · obtain ⟨x0, a, b, c, e2, e3, e4⟩ := h4 j hj2
      rw [List.getElem_append_left hj2]
      refine ⟨x0, ?_, ?_, ?_, e2.mod hM e4, e3, new x0 _ e2 e4⟩
      · rw [List.getElem?_append_left (by omega)]; exact a
      · rw [List.getElem?_append_left (by omega)]; exact b
      · rw [List.getElem?_append_left (by omega)]; exact c
    · have : j = L.length := by simp at hj; omega
      subst this
      refine ⟨x, ?_, ?_, ?_, ?_, hxS, new x _ hx hxv⟩
      · rw [List.getElem?_append_right (by omega), hl, Nat.sub_self]; rfl
      · rw [List.getElem?_append_right (by omega), hl, show L.length * 3 + 1 - L.length * 3 = 1 by omega]; rfl
      · rw [List.getElem?_append_right (by omega), hl, show L.length * 3 + 2 - L.length * 3 = 2 by omega]; simp
      · have : (L ++ [y])[L.length] = y := by simp
        rw [this]; exact hx.mod hM hxv

/-! How many requests. -/
theorem nextH_one (k : Bool) (d : Bs) : (nextH k d).2.1 = [(d, k)] ∧ (nextH k d).2.2 = false := ⟨rfl, rfl⟩
theorem stepH_le (s : Hs) (c : UInt8) : (stepH s c).2.1.length ≤ 1 := by
  have hb : ∀ r, (behindH r).2.1.length ≤ 1 := fun r => by
    rcases r with _ | ⟨k, _ | n⟩
    · simp [behindH, badH]
    · simp [behindH]
    · simp only [behindH]; split <;> simp [nextH]
  cases s with
  | dead => simp [stepH]
  | hd h => simp only [stepH]; split; split; exact hb _; split <;> simp [badH]; simp [badH]
  | cnt k d n => simp only [stepH]; split <;> simp [nextH]
  | chk k s => simp only [stepH]; split; split <;> simp [nextH]; simp [badH]
theorem goH_le : ∀ (b : Bs) (s : Hs), (goH s b).2.1.length ≤ b.length
  | [], s => by simp [goH]
  | c :: b, s => by
    have h1 := stepH_le s c
    have h2 := goH_le b (stepH s c).1
    rw [goH]
    simp [thenH]
    omega
theorem HsOk.dead : HsOk .dead := ⟨(fun h e => by cases e), (fun k d n e => by cases e), (fun k c e => by cases e)⟩
theorem HsOk.start : HsOk (.hd []) := ⟨(fun h e => by injection e with e; subst e; exact ⟨by simp, _, _, _, HdOk.nil⟩), (fun k d n e => by cases e), (fun k c e => by cases e)⟩
theorem HsOk.next (k : Bool) (d : Bs) : HsOk (nextH k d).1 := by
  cases k
  · exact HsOk.dead
  · exact HsOk.start

/-- What Feed answers. -/
def FeedHP (w : World) (F : Nat → Prop) (g : Nat) (s : Hs) (b : Bs) (e : Ending) (w' : World) : Prop := ∃ v F', e = .returned (.tuple #[v, .int .i64 (if (goH s b).2.2 then 130 else 0 : Nat)]) ∧ LHs w' F' g (goH s b).1 ∧ HsOk (goH s b).1 ∧ Mod F w w' ∧ (∀ j, F' j → F j ∨ w.heap.size ≤ j) ∧ RqS w' (fun k => F' k ∨ (k < w.heap.size ∧ ¬ F k)) v (goH s b).2.1
/-- Between two rounds. -/
structure FdR (w wr : World) (F F' : Nat → Prop) (g : Nat) (s : Hs) (b : Bs) (s' : Hs) (A : Option Addr) (bb : Bs) (c : Nat) (v : Value) (L : List Rq) : Prop where
  st : LHs wr F' g s'
  ok : HsOk s'
  md : Mod F w wr
  fp : ∀ j, F' j → F j ∨ w.heap.size ≤ j
  by0 : Sl w A c bb
  off : bb ≠ [] → Off F A
  rq : RqS wr (fun k => F' k ∨ (k < w.heap.size ∧ ¬ F k)) v L
  go : goH s b = thenH (s', L, false) (goH s' bb)
theorem FdR.off' {w wr : World} {F F' : Nat → Prop} {g : Nat} {s : Hs} {b : Bs} {s' : Hs} {A : Option Addr} {bb : Bs} {c : Nat} {v : Value} {L : List Rq} (h : FdR w wr F F' g s b s' A bb c v L) : bb ≠ [] → Off F' A := fun hne p hp e => by
  rcases h.fp _ e with q | q
  · exact h.off hne p hp q
  · have := h.by0.inside p hp (List.length_pos_iff.2 hne); omega
theorem FdR.by' {w wr : World} {F F' : Nat → Prop} {g : Nat} {s : Hs} {b : Bs} {s' : Hs} {A : Option Addr} {bb : Bs} {c : Nat} {v : Value} {L : List Rq} (h : FdR w wr F F' g s b s' A bb c v L) : Sl wr A c bb := ⟨fun hl => (h.by0.bys.mod h.md (h.off (fun e => by rw [e] at hl; simp at hl))) hl, h.by0.le, h.by0.max, h.by0.nil⟩
theorem FdR.count {w wr : World} {F F' : Nat → Prop} {g : Nat} {s : Hs} {b : Bs} {s' : Hs} {A : Option Addr} {bb : Bs} {c : Nat} {v : Value} {L : List Rq} (h : FdR w wr F F' g s b s' A bb c v L) : (goH s b).2.1.length = L.length + (goH s' bb).2.1.length := by rw [h.go]; simp [thenH]
/-- No more bytes, or the end: what Feed answers. -/
theorem FdR.fin {w wr : World} {F F' : Nat → Prop} {g : Nat} {s : Hs} {b : Bs} {s' : Hs} {A : Option Addr} {bb : Bs} {c : Nat} {v : Value} {L : List Rq} (h : FdR w wr F F' g s b s' A bb c v L) (he : bb = [] ∨ s' = .dead) : FeedHP w F g s b (.returned (.tuple #[v, .int .i64 (0 : Nat)])) wr := by
  have e : goH s b = (s', L, false) := by
    rw [h.go]
    rcases he with rfl | rfl
    · simp [goH, thenH]
    · rw [goH_dead]; simp [thenH]
  unfold FeedHP
  rw [e]
  exact ⟨v, F', rfl, h.st, h.ok, h.md, h.fp, h.rq⟩
/-- A fault. -/
theorem FdR.bad {w wr w1 w2 : World} {F F' : Nat → Prop} {g : Nat} {s : Hs} {b : Bs} {s' : Hs} {A : Option Addr} {bb : Bs} {c : Nat} {v : Value} {L : List Rq} (h : FdR w wr F F' g s b s' A bb c v L) (k : Mod F' wr w1) (hg : goH s' bb = badH) (hF : F' g) (gs : w1.grownBy w2 (some g)) (r : RRow w2 g true (.slice none 0 0) .nilIface false) : FeedHP w F g s b (.returned (.tuple #[v, .int .i64 (130 : Nat)])) w2 := by
  have e : goH s b = (.dead, L, true) := by rw [h.go, hg]; simp [thenH, badH]
  have k2 : Mod F' wr w2 := k.trans (Mod.grown (S := fun j => j = g) gs (fun j hj => by injection hj with hj; exact hj.symm)) (fun i hi => .inl (by rw [hi]; exact hF))
  unfold FeedHP
  rw [e]
  exact ⟨v, fun j => j = g, rfl, ⟨_, _, _, r, fun _ => Iff.rfl⟩, HsOk.dead, h.md.trans k2 h.fp, fun j hj => h.fp j (by rw [hj]; exact hF), (h.rq.mod k2 (fun i hi => .inl hi)).wide (fun i hi => .inl (by rcases hi with rfl | hi; exact .inl hF; exact .inr hi))⟩
/-- All bytes taken, no body whole. -/
theorem FdR.more {w wr w1 : World} {F F' F1 : Nat → Prop} {g : Nat} {s : Hs} {b : Bs} {s' s1 : Hs} {A A1 : Option Addr} {bb : Bs} {c c1 : Nat} {v : Value} {L : List Rq} (h : FdR w wr F F' g s b s' A bb c v L) (k : Mod F' wr w1) (hg : goH s' bb = (s1, [], false)) (hs : LHs w1 F1 g s1) (ho : HsOk s1) (hF : ∀ j, F1 j → F' j ∨ wr.heap.size ≤ j) (hb : Sl w A1 c1 []) : FdR w w1 F F1 g s b s1 A1 [] c1 v L := by
  refine ⟨hs, ho, h.md.trans k h.fp, fun j hj => ?_, hb, fun h => absurd rfl h, (h.rq.wide (S' := fun k => (F' k ∨ F1 k) ∨ (k < w.heap.size ∧ ¬ F k)) ?_).mod k (fun i hi => .inl (.inl hi)) |>.wide ?_, ?_⟩
  · rcases hF j hj with q | q
    · exact h.fp j q
    · have := h.md.size; exact .inr (by omega)
  · rintro i ((hi | hi) | hi)
    · exact .inl (.inl hi)
    · rcases hF i hi with q | q
      · exact .inl (.inl q)
      · exact .inr q
    · exact .inl (.inr hi)
  · rintro i (hi | hi)
    · exact .inl (.inl (.inr hi))
    · exact .inl (.inr hi)
  · rw [h.go, hg]
    simp [goH, thenH]
end Go.Proofs.YtjhameebehkdjaaGreatDoor
namespace Go.Proofs.YtjhameebehkdjaaGreatDoor
open Go.RowKit Go.Shelf
set_option linter.unusedVariables false
set_option maxRecDepth 100000

theorem take_any (g : Nat) (F : Nat → Prop) (s : Hs) (A : Option Addr) (b : Bs) (c : Nat) (w : World) (h : LHs w F g s) (hok : HsOk s) (hd : s ≠ .dead) (hb : Sl w A c b) (hA : b ≠ [] → Off F A) (hM : MaxL w) (hMF : ¬ F (Tryz.lays146_ren.g 1)) :
    Calls Tryz.prog 95 #[.pointer (some ⟨g, 0, none⟩), .slice A b.length c] w (TakeHQ w F g s b) := by
  cases s with
  | dead => exact absurd rfl hd
  | hd x => exact take_hd g F x A b c w h (hok.hd x rfl).1 (hok.hd x rfl).2 hb hA hM hMF
  | cnt k d n => exact take_cnt g F k d n A b c w h (hok.cnt k d n rfl).2 (hok.cnt k d n rfl).1 hb
  | chk k x => exact take_chk g F k x A b c w h (hok.chk k x rfl).1 (hok.chk k x rfl).2.1 hb hA
/-- Behind next and its append. -/
theorem FdR.full {w wr w1 w2 : World} {F F' F1 F2 : Nat → Prop} {g n : Nat} {s : Hs} {b : Bs} {s' : Hs} {A A1 : Option Addr} {bb : Bs} {c c1 : Nat} {v x : Value} {L : List Rq} {k : Bool} {d : Bs} (h : FdR w wr F F' g s b s' A bb c v L) (k1 : Mod F' wr w1) (hg : goH s' bb = thenH (nextH k d) (goH (nextH k d).1 (bb.drop n))) (hF : ∀ j, F1 j → F' j ∨ wr.heap.size ≤ j) (m2 : Mod (fun j => j = g) w1 w2) (o2 : OwnB w2 0 x d) (hx : ∀ j, x.ownBlock = some j → (F1 j ∧ j ≠ g) ∨ w1.heap.size ≤ j) (st : LHs w2 F2 g (nextH k d).1) (hF2 : ∀ j, F2 j ↔ j = g) (hb : Sl w A1 c1 (bb.drop n)) (hA1 : bb.drop n ≠ [] → Off F A1) (o : Obj) :
    ∃ xs, (w2.alloc o).ownsRow 0 139 3 v L.length xs ∧ L.length + 1 ≤ (goH s b).2.1.length ∧ ∀ v' w4, w4.ownsRow 0 139 3 v' (L.length + 1) (xs ++ [.string (bs reqL), x, .bool k]) → (w2.alloc o).grownBy w4 v.ownBlock → (v'.ownBlock = v.ownBlock ∨ v'.ownBlock = some (w2.alloc o).heap.size) → FdR w w4 F F2 g s b (nextH k d).1 A1 (bb.drop n) c1 v' (L ++ [(d, k)]) := by
  have hFg : F' g := h.st.row.1
  have gw : g < wr.heap.size := h.st.lt g hFg
  have k2 : Mod F' wr w2 := k1.trans m2 (fun i hi => .inl (by rw [hi]; exact hFg))
  have ba : Below w2.heap.size w2 (w2.alloc o) := Below.alloc (Below.refl _ _) (Nat.le_refl _) _
  have k3 : Mod F' wr (w2.alloc o) := k2.then ba
  have rq3 : RqS (w2.alloc o) (fun k => F2 k ∨ (k < w.heap.size ∧ ¬ F k)) v L := (h.rq.mod k3 (fun i hi => .inl hi)).wide (fun i hi => .inl (by
    rcases hi with hi | hi
    · rw [(hF2 i).1 hi]; exact .inl hFg
    · exact .inr hi))
  obtain ⟨xs0, h01, h02, h03⟩ := id h.rq
  obtain ⟨xs, ho, hv, h4⟩ := rq3
  have hcount := h.count
  have vlt : ∀ j, v.ownBlock = some j → j < wr.heap.size := fun j hj => (h01.lt j hj).2
  have zs : w.heap.size ≤ wr.heap.size := h.md.size
  have z1 : wr.heap.size ≤ w1.heap.size := k1.size
  refine ⟨xs, ho, ?_, fun v' w4 h1 hgr hu => ?_⟩
  · rw [hcount, hg]; simp [thenH, nextH]
  have hgr' : Mod (fun j => v.ownBlock = some j) (w2.alloc o) w4 := Mod.grown hgr (fun k hk => hk)
  have RS : RqS w4 (fun k => F2 k ∨ (k < w.heap.size ∧ ¬ F k)) v' (L ++ [(d, k)]) := by
    have sx : SlV (w2.alloc o) x d := o2.slV.mod (S := fun _ => False) (Mod.below ba) (fun _ _ e => e)
    refine RqS.snoc (y := (d, k)) ho hv h4 ?_ sx ?_ ?_ h1 hgr hu
    · rintro j (hj | hj)
      · rw [(hF2 j).1 hj]; have := k3.size; omega
      · have := k3.size; omega
    · intro j hj e
      rcases hx j hj with ⟨q, ne⟩ | q
      · rcases e with e | e
        · exact ne ((hF2 j).1 e)
        · rcases hF j q with q | q
          · rcases h.fp j q with q | q
            · exact e.2 q
            · omega
          · omega
      · rcases e with e | e
        · have := (hF2 j).1 e; omega
        · omega
    · intro j hj e
      have hvj : v.ownBlock = some j := e
      have := vlt j hvj
      rcases hx j hj with ⟨q, ne⟩ | q
      · rcases hF j q with q | q
        · exact h02 j hvj (.inl q)
        · omega
      · omega
  refine ⟨(st.mod (S := fun _ => False) (Mod.below ba) (fun _ _ e => e)).mod hgr' (fun j hj e => ?_), HsOk.next k d, ?_, fun j hj => ?_, hb, hA1, RS, ?_⟩
  · have := (hF2 j).1 hj
    subst this
    exact h02 _ e (.inl hFg)
  · refine (h.md.trans k3 h.fp).trans hgr' (fun j hj => ?_)
    by_cases hjw : j < w.heap.size
    · left
      by_cases hFj : F j
      · exact hFj
      · exact absurd (.inr ⟨hjw, hFj⟩) (h02 j hj)
    · exact .inr (by omega)
  · exact h.fp j (by rw [(hF2 j).1 hj]; exact hFg)
  · rw [h.go, hg]
    simp [thenH, nextH]
def lenR (v : Value) : Nat := match v with | .slice _ n _ => n | _ => 0
theorem info_rq3 : (Tryz.prog.info? 139).map (fun i => (i.zero, i.size, i.bytes)) = some (some (.agg #[.string ⟨#[]⟩, .slice none 0 0, .bool false]), 3, 48) := by kernel_rfl
theorem FdR.rest {w wr : World} {F F' : Nat → Prop} {g : Nat} {s : Hs} {b : Bs} {s' : Hs} {A : Option Addr} {bb : Bs} {c : Nat} {v : Value} {L : List Rq} (h : FdR w wr F F' g s b s' A bb c v L) (n : Nat) (hn : n ≤ bb.length) : ∃ A1 m1 c1, (∀ w : World, (Instr.slice 29 (.slice A bb.length c) (some (.int .i64 n)) none none).run Tryz.prog w = .ok (.slice A1 m1 c1) w) ∧ m1 = (bb.drop n).length ∧ Sl w A1 c1 (bb.drop n) ∧ (bb.drop n ≠ [] → Off F A1) := by
  obtain ⟨A1, hsl, hb, hpl⟩ := h.by0.rest n (n : Int) hn rfl
  refine ⟨A1, _, _, hsl, rfl, hb, fun hne p hp => ?_⟩
  obtain ⟨a, ha, e⟩ := hpl p hp
  rw [e]
  exact h.off (fun e => by rw [e] at hne; simp at hne) a ha
set_option maxHeartbeats 4000000 in
set_option maxRecDepth 100000 in
theorem feed_any (g : Nat) (F : Nat → Prop) (s : Hs) (A : Option Addr) (b : Bs) (c : Nat) (w : World) (h : LHs w F g s) (hok : HsOk s) (hb : Sl w A c b) (hA : b ≠ [] → Off F A) (hM : MaxL w) (hMF : ¬ F (Tryz.lays146_ren.g 1)) (hlen : (goH s b).2.1.length * 48 ≤ 140737488355328) :
    Calls Tryz.prog 92 #[.pointer (some ⟨g, 0, none⟩), .slice A b.length c] w (FeedHP w F g s b) := by
  have I0 : FdR w w F F g s b s A b c (.slice none 0 0) [] := ⟨h, hok, Mod.refl _ _, fun j hj => .inl hj, hb, hA, RqS.nil _ _, (thenH_eq _ _).symm⟩
  have HI0 := Lib.hid I0
  obtain ⟨en, hv, bv, k0, r⟩ : ∃ en hv bv k0, RRow w g en hv bv k0 := by
    obtain ⟨-, hv, bv, k0, r⟩ := h.row
    exact ⟨_, hv, bv, k0, r⟩
  have MD := Lib.hid (madeH_any g en hv bv k0 w r)
  obtain ⟨T, hT⟩ : ∃ T, T = (goH s b).2.1.length := ⟨_, rfl⟩
  have HT := Lib.hid hT
  have HTB : Hid (T * 48 ≤ 140737488355328) := Lib.hid (by rw [hT]; exact hlen)
  have HM := Lib.hid hM
  have HMF := Lib.hid hMF
  obtain ⟨Q, hQ⟩ : ∃ Q, Q = FeedHP w F g s b := ⟨_, rfl⟩
  rw [← hQ]
  have HQ : Hid (∀ e w', FeedHP w F g s b e w' → Q e w') := Lib.hid (fun e w' q => by rw [hQ]; exact q)
  obtain ⟨i0, hi, hz0, hz1, hz2⟩ := info_parts info_rq3
  clear h hok hb hA hM hMF I0 r hQ hT hlen
  go_enter Tryz.func92, Tryz.ntmps92
  go_wp2_with fail
  refine MD.out.mono ?_
  rintro e w1 ⟨rfl, rfl⟩
  clear MD
  go_wp2_with fail
  go_loopw [1, 6] (fun v1 v6 wr => ∃ (F' : Nat → Prop) (s' : Hs) (A' : Option Addr) (bb : Bs) (c' : Nat) (L : List Rq), v1 = .slice A' bb.length c' ∧ FdR w1 wr F F' g s b s' A' bb c' v6 L) (fun v1 v6 _ => (T - lenR v6) + lenR v1)
  case atStart => exact ⟨F, s, A, b, c, [], rfl, HI0.out⟩
  case round =>
    clear HI0
    obtain ⟨F', s', A', bb, c', L, rfl, hI⟩ := hrel
    obtain ⟨A6, c6, rfl⟩ := hI.rq.sl
    have II := Lib.hid hI
    obtain ⟨m, hm⟩ : ∃ m, m = bb.length := ⟨_, rfl⟩
    rw [← hm]
    have HMM := Lib.hid hm
    have hmx : m ≤ 9223372036854775807 := by rw [hm]; exact Nat.le_trans hI.by0.le hI.by0.max
    obtain ⟨l, hl⟩ : ∃ l, l = L.length := ⟨_, rfl⟩
    rw [← hl]
    have HL := Lib.hid hl
    by_cases hm0 : m = 0
    · have HF := Lib.hid (HQ.out _ _ (hI.fin (.inl (List.length_eq_zero_iff.1 (by rw [← hm]; exact hm0)))))
      subst hm0
      rw [← hl] at HF
      clear hI hm hl
      go_wp2_with fail
      exact HF.out
    · have hm1 : 0 < m := by omega
      have hbne : bb ≠ [] := fun e => by rw [e] at hm; simp at hm; omega
      obtain ⟨hFg, hv, bv, k, r⟩ := hI.st.row
      by_cases hd : s' = .dead
      · subst hd
        have HF := Lib.hid (HQ.out _ _ (hI.fin (.inr rfl)))
        rw [← hl] at HF
        have x1 := (cell_of_row _ g 1 _ _ _ r).trans (show _ = some (Value.bool true) from rfl)
        clear hI hm hl r hbne
        go_wp2_with fail
        exact HF.out
      · have x1 := (cell_of_row _ g 1 _ _ _ r).trans (show _ = some (Value.bool false) by cases s' <;> first | exact absurd rfl hd | rfl)
        have TK : Hid (Calls Tryz.prog 95 #[.pointer (some ⟨g, 0, none⟩), .slice A' m c'] wr (TakeHQ wr F' g s' bb)) := Lib.hid (by
          rw [hm]
          exact take_any g F' s' A' bb c' wr hI.st hI.ok hd hI.by' hI.off' (HM.out.mod hI.md HMF.out) (fun e => by
            rcases hI.fp _ e with q | q
            · exact HMF.out q
            · have := HM.out.lt; omega))
        have HLT := Lib.hid hI.count
        clear hI r hbne hm hl hd
        go_wp2_with fail
        refine TK.out.mono ?_
        rintro e w2 ⟨k1, n, wh, er, rfl, hc⟩
        have K1 := Lib.hid k1
        clear TK k1 x1
        rcases hc with ⟨rfl, hg, hFg1, hv1, bv1, k2, r1⟩ | ⟨rfl, rfl, rfl, s1, F1, hg, hne, hs1, ho1, hF1⟩ | ⟨rfl, rfl, hn, k2, d, F1, hg, hfull, hF1⟩
        · have RN := Lib.hid (renewH_any g _ _ _ _ w2 true r1)
          have HG := Lib.hid hg
          clear hg r1
          go_wp2_with fail
          refine RN.out.mono ?_
          rintro e w3 ⟨rfl, gs, r2⟩
          have HF := Lib.hid (HQ.out _ _ (II.out.bad K1.out HG.out hFg gs r2))
          rw [← HL.out] at HF
          clear RN gs r2
          go_wp2_with fail
          exact HF.out
        · obtain ⟨A1, m1, c1, hsl, hm1', hb1, -⟩ := II.out.rest bb.length (Nat.le_refl _)
          rw [List.drop_length] at hm1' hb1
          rw [← HMM.out] at hsl ⊢
          have HX : Hid (FdR w1 w2 F F1 g s b s1 A1 [] c1 (.slice A6 L.length c6) L) := Lib.hid (II.out.more K1.out hg hs1 ho1 hF1 hb1)
          have m10 : m1 = 0 := by simpa using hm1'
          subst m10
          clear hm1' hb1 hg hs1 ho1 hF1 hne
          go_wp2_with fail
          go_roundw
          case rel => exact ⟨F1, s1, A1, [], c1, L, rfl, by rw [HL.out]; exact HX.out⟩
          case measure => simp [lenR]; omega
        · obtain ⟨A1, m1, c1, hsl, hm1', hb1, hA1⟩ := II.out.rest n hn
          rw [← HMM.out] at hsl
          have NX := Lib.hid (next_any g F1 k2 d w2 hfull)
          have FL := Lib.hid (fun w3 x F2 m2 o2 hx st hF2 o => II.out.full (n := n) (w2 := w3) (x := x) (F2 := F2) K1.out hg hF1 m2 o2 hx st hF2 hb1 hA1 o)
          have HM1 := Lib.hid hm1'
          have hle : m1 ≤ m := by rw [hm1', HMM.out, List.length_drop]; omega
          have hnm : n ≤ m := by rw [HMM.out]; exact hn
          clear hm1' hb1 hg hF1 hfull hA1 hn
          go_wp2_with fail
          refine NX.out.mono ?_
          rintro e w3 ⟨A2, c2, F2, rfl, o2, m2, hx2, st2, hF2⟩
          obtain ⟨xs, hown, hcnt, hfin⟩ := FL.out w3 _ F2 m2 o2 hx2 st2 hF2 (.cells #[.string (bs reqL), .slice A2 d.length c2, .bool k2] 139)
          rw [← HT.out, ← HL.out] at hcnt
          have htb := HTB.out
          have HOWN := Lib.hid hown
          have HFIN := Lib.hid hfin
          rw [← HL.out] at HOWN
          clear NX o2 m2 hx2 st2 hF2 hown hfin
          go_wp2_with (first
            | (at_builtin; refine wpList_append_own_at _ rfl _ _ 135 rfl 0 139 i0 (.agg #[.string ⟨#[]⟩, .slice none 0 0, .bool false]) 3 48 Tryz.underlying135 hi hz0 hz1 hz2 rfl (by decide) _ l xs rfl HOWN.out ⟨w3.heap.size, 0, none⟩ 1 1 [.string (bs reqL), .slice A2 d.length c2, .bool k2] rfl rfl ?c1 ?c2 ?c3 ?c4 ?c5 ?_)
            | fail)
          case c1 => exact World.news_of_block (cs := #[.string (bs reqL), .slice A2 d.length c2, .bool k2]) (t := 139) (fr := (0, 0)) (row_new _ rfl)
          case c2 => simp [Value.oneCell']
          case c3 => unfold maxLen; omega
          case c4 => omega
          case c5 => simp
          intro v' w4 hown4 hgrow _ hu
          rw [HL.out] at hown4 hgrow hu
          have hX := HFIN.out v' w4 hown4 hgrow (by simpa using hu)
          have HX := Lib.hid hX
          obtain ⟨A7, c7, hv7⟩ := hX.rq.sl
          rw [List.length_append] at hv7
          clear hown4 hgrow hu hX HFIN HOWN
          go_wp2_with fail
          go_roundw
          case rel => exact ⟨F2, _, A1, _, c1, _, by rw [HM1.out], HX.out⟩
          case measure => rw [hv7]; have := HL.out; simp [lenR]; omega
end Go.Proofs.YtjhameebehkdjaaGreatDoor
namespace Go.Proofs.YtjhameebehkdjaaGreatDoor
open Go.RowKit Go.Shelf
set_option linter.unusedVariables false
set_option maxRecDepth 100000

/-- What New answers. -/
def NewHP (w : World) (e : Ending) (w' : World) : Prop := ∃ g F, e = .returned (.pointer (some ⟨g, 0, none⟩)) ∧ Below w.heap.size w w' ∧ w.heap.size ≤ g ∧ LHs w' F g (.hd []) ∧ ∀ j, F j ↔ j = g
set_option maxHeartbeats 1000000 in
theorem newH_any (w : World) : Calls Tryz.prog 14 #[] w (NewHP w) := by
  have D : Hid (NewHP w (.returned (.pointer (some ⟨w.heap.size, 0, none⟩))) (w.alloc (.cells #[.bool true, .bool false, .slice none 0 0, .nilIface, .bool false] 78))) := Lib.hid ⟨w.heap.size, fun j => j = w.heap.size, rfl, Below.alloc (Below.refl _ _) (Nat.le_refl _) _, Nat.le_refl _, ⟨.slice none 0 0, false, row_new _ rfl, .inl ⟨rfl, rfl⟩, by simp [Value.ownBlock], fun j => by simp [Value.ownBlock]⟩, fun _ => Iff.rfl⟩
  generalize NewHP w = Q at *
  go_enter Tryz.func14, Tryz.ntmps14
  go_wp2_with fail
  exact D.out

set_option maxRecDepth 100000 in
theorem bad_0 : goH (.hd []) [71, 69, 84, 32, 47, 32, 72, 84, 84, 80, 47, 49, 46, 49, 13, 10, 13, 10] = badH := by kernel_rfl
set_option maxRecDepth 100000 in
theorem bad_1 : goH (.hd []) [80, 79, 83, 84, 32, 47, 100, 110, 115, 45, 113, 117, 101, 114, 121, 32, 72, 84, 84, 80, 47, 49, 46, 49, 13, 10, 67, 111, 110, 116, 101, 110, 116, 45, 76, 101, 110, 103, 116, 104, 58, 32, 48, 13, 10, 13, 10] = badH := by kernel_rfl
set_option maxRecDepth 100000 in
theorem bad_2 : goH (.hd []) [80, 79, 83, 84, 32, 47, 100, 110, 115, 45, 113, 117, 101, 114, 121, 32, 72, 84, 84, 80, 47, 49, 46, 49, 13, 10, 67, 111, 110, 116, 101, 110, 116, 45, 84, 121, 112, 101, 58, 32, 97, 112, 112, 108, 105, 99, 97, 116, 105, 111, 110, 47, 100, 110, 115, 45, 109, 101, 115, 115, 97, 103, 101, 13, 10, 13, 10] = badH := by kernel_rfl
theorem bad_3 : goH (.hd []) [10] = badH := by kernel_rfl
theorem bad_4 : goH (.hd []) [13, 13] = badH := by kernel_rfl
theorem bad_5 : goH (.hd []) [1] = badH := by kernel_rfl
theorem bad_6 : goH (.hd []) [13, 10] = badH := by kernel_rfl
noncomputable def badsA : Array Value := #[.string ⟨#[71, 69, 84, 32, 47, 32, 72, 84, 84, 80, 47, 49, 46, 49, 13, 10, 13, 10]⟩, .string ⟨#[80, 79, 83, 84, 32, 47, 100, 110, 115, 45, 113, 117, 101, 114, 121, 32, 72, 84, 84, 80, 47, 49, 46, 49, 13, 10, 67, 111, 110, 116, 101, 110, 116, 45, 76, 101, 110, 103, 116, 104, 58, 32, 48, 13, 10, 13, 10]⟩, .string ⟨#[80, 79, 83, 84, 32, 47, 100, 110, 115, 45, 113, 117, 101, 114, 121, 32, 72, 84, 84, 80, 47, 49, 46, 49, 13, 10, 67, 111, 110, 116, 101, 110, 116, 45, 84, 121, 112, 101, 58, 32, 97, 112, 112, 108, 105, 99, 97, 116, 105, 111, 110, 47, 100, 110, 115, 45, 109, 101, 115, 115, 97, 103, 101, 13, 10, 13, 10]⟩, .string ⟨#[10]⟩, .string ⟨#[13, 13]⟩, .string ⟨#[1]⟩, .string ⟨#[13, 10]⟩]
theorem bads_at : ∀ k : Nat, k < 7 → ∃ h : Bs, badsA[k]? = some (.string (bs h)) ∧ goH (.hd []) h = badH ∧ h.length ≤ 100 := fun k hk => by
  match k, hk with
  | 0, _ => exact ⟨_, rfl, bad_0, by decide⟩
  | 1, _ => exact ⟨_, rfl, bad_1, by decide⟩
  | 2, _ => exact ⟨_, rfl, bad_2, by decide⟩
  | 3, _ => exact ⟨_, rfl, bad_3, by decide⟩
  | 4, _ => exact ⟨_, rfl, bad_4, by decide⟩
  | 5, _ => exact ⟨_, rfl, bad_5, by decide⟩
  | 6, _ => exact ⟨_, rfl, bad_6, by decide⟩
end Go.Proofs.YtjhameebehkdjaaGreatDoor
