/-
  PrefixLives: what holds while the two readers are asked, in whatever order.
-/
import Derived.Test.YtdifemaidngnjaaPfN
import Derived.Test.YtdifemaidngnjaaQk
import Derived.Test.YtdifemaidngnjaaSp
namespace Go.Proofs.Ytdifemaidngnjaa
open Go.RowKit
set_option linter.unusedVariables false
set_option maxRecDepth 100000

/-- A drawn head by lanes, a quiet rest; facts end with one operation. -/
theorem wp_region_laneq {P : Program} {Q : Exit → Act → World → Prop} {id : Nat} {a : Act} {w : World} {l : List Oper} (n : Nat) (hm : P.follows .mixedOrders = true) (hB : Region.partB .any l.toArray n = true) (hF : Region.fwdB .any (l.take n).toArray n = true) (hn : (l.take n).length = n)
    {d : Nat → Nat} {R : Nat → Value → World → Prop} {F : Nat → World → Prop} {kill : Nat → Nat} {Rel : Nat → World → World → Prop}
    (hinj : ∀ i j, i < n → j < n → d i = d j → i = j) (hd : ∀ i, i < n → d i < a.tmps.size)
    (hstab : ∀ i j v w w', i ≠ j → Rel j w w' → R i v w → R i v w')
    (hkeep : ∀ m j w w', j ≠ kill m → Rel j w w' → F m w → F m w') (h0 : ∀ m, F m w.drew)
    (hstep : ∀ i, i < n → ∀ b a' w', (∀ j, (∀ i, i < n → d i ≠ j) → a'.tmps[j]? = a.tmps[j]?) → (∀ i, i < n → b.getD i true = true → ∃ v, a'.tmps[d i]? = some v ∧ R i v w') → (∀ m, b.getD (kill m) false = false → F m w') → (∀ m, n ≤ m → b.getD m false = false) → i ∈ Region.ready .any (l.take n).toArray b → ∃ o, (l.take n).toArray[i]? = some o ∧ o.guard = none ∧ o.wp P a' w' (fun a2 w2 => ∃ v, a2 = a'.put (some (d i)) v ∧ R i v w2 ∧ Rel i w' w2) Q)
    (hend : ∀ V w', (∀ i, i < n → R i (V i) w') → (∀ m, n ≤ kill m → F m w') → wpQuiet P l.toArray (fun w'' => ∃ p : Regrown, w'' = Go.Sort.grow (redrawn w' p.d) p.os) (fun a' => ∀ w'', (∃ p : Regrown, w'' = Go.Sort.grow (redrawn w' p.d) p.os) → Q .normal a' w'') (l.drop n) (putAll d V n a)) : (Code.region id l.toArray true).wp P Q a w := by
  have hs : (l.take n).toArray.size = n := by simpa using hn
  refine wp_region_lane2q n hm hB hF hn (d := d) (pre := fun _ _ => False) (S := fun _ _ => True) (R := R) (killR := fun _ => n) (F := F) (kill := kill) (Rel := Rel) hinj hd (fun i j v w w' h1 _ _ h2 _ h3 => hstab i j v w w' h1 h2 h3) (fun m j w w' h1 _ h2 h3 => hkeep m j w w' h1 h2 h3) h0 (fun i hi b a' w' u hr => ⟨fun j h => h.elim, ?_⟩) (fun V w' _ hV hB => hend V w' (fun i hi => hV i hi (Nat.le_refl _)) hB)
  obtain ⟨o, h1, h2, h3⟩ := hstep i hi b a' w' (fun j hj => u.old j (fun i hi => hj i (by rw [hs] at hi; exact hi))) (fun i hi hb => by
    obtain ⟨v, e1, -, e2⟩ := u.got i (by rw [hs]; exact hi) hb
    exact ⟨v, e1, e2 (by simp [show b.size ≤ n from Nat.le_of_eq (u.size.trans hs)])⟩) u.fact (fun m hm => by
    have : b.size ≤ m := by rw [u.size, hs]; exact hm
    simp [this]) hr
  exact ⟨o, h1, h2, Oper.wp_mono (fun a' w' ⟨v, e1, e2, e3⟩ => ⟨v, e1, trivial, e2, e3⟩) h3⟩

theorem slot_at {a : Act} {j : Nat} {v : Value} (h : a.tmps[j]? = some v) : (a.tmps[j]?).getD undef = v := by rw [h]; rfl
theorem both_true {b : Array Bool} {k : Nat} (h : b.getD k false = true) : b.getD k true = true := by
  rcases Nat.lt_or_ge k b.size with h' | h'
  · simp [h'] at h ⊢; exact h
  · simp [Array.getElem?_eq_none h'] at h
theorem Sl.row {w : World} {b : Nat} {t : TypeId} (h : w.heap[b]? = some (.cells #[.int .u8 0] t (0, 0))) : Sl w (some ⟨b, 0, Option.none⟩) 1 [0] :=
  ⟨fun _ => ⟨b, 0, rfl, fun j hj => by
    have : j = 0 := by simp at hj; omega
    subst this
    exact (cell_of_row _ b (0 + 0) _ _ _ h).trans rfl⟩, Nat.le_refl _, by decide, fun h => by cases h⟩
theorem PX.mod {S : Nat → Prop} {w w1 : World} {g : Nat} {v : Value} {x : Bs} (h : PX w g v x) (k : Mod S w w1) (hg : ¬ S g) (hv : OffV S v) : PX w1 g v x := ⟨k.row h.1 hg, h.2.1.mod k hv, h.2.2⟩
theorem Sl.mod' {S : Nat → Prop} {w w1 : World} {A : Option Addr} {c : Nat} {l : Bs} (h : Sl w A c l) (k : Mod S w w1) (hn : 0 < l.length → Off S A) : Sl w1 A c l := ⟨fun hl => h.bys.mod k (hn hl) hl, h.le, h.max, h.nil⟩
theorem PX.lt {w : World} {g : Nat} {v : Value} {x : Bs} (h : PX w g v x) : g < w.heap.size := (Array.getElem?_eq_some_iff.1 h.1).1
theorem PX.same {w : World} {g : Nat} {u v : Value} {x y : Bs} (h : PX w g u x) (k : PX w g v y) : u = v := by
  have e := h.1.symm.trans k.1
  injection e with e
  injection e with e
  simpa using e

theorem Txts.lower {w : World} {base base' : Nat} {v : Value} {L : List Bs} (h : Txts w base v L) (hb : base' ≤ base) : Txts w base' v L := by
  obtain ⟨xs, h1, h2⟩ := h
  refine ⟨xs, ?_, h2.1, fun j hj => ?_⟩
  · rcases h1 with ⟨h1, h | ⟨g, cap, cur, hv, hb', r⟩⟩
    · exact ⟨h1, .inl h⟩
    · exact ⟨h1, .inr ⟨g, cap, cur, hv, Nat.le_trans hb hb', r⟩⟩
  · obtain ⟨u, e1, e2, e3⟩ := h2.2 j hj
    exact ⟨u, e1, e2.mono hb, e3⟩

/-- What each operation of the loop's region yields. -/
def R6 (PR : RdrP) (w1 : World) (F : Nat → Prop) (g : Nat) (p : Value) (x : Bs) (v1 vb : Value) : Nat → Value → World → Prop
  | 0, v, _ => v = p
  | 1, v, _ => v = v1
  | 2, v, w => ∃ F', TxS w (fun k => k < w1.heap.size ∧ ¬ F k) v (feedP x).1 ∧ PR w F' p (feedP x).2 ∧ (∀ k, F' k → F k ∨ w1.heap.size ≤ k) ∧ ∀ u y, PX w g u y → OffV F' u
  | 3, v, _ => v = .pointer (some ⟨g, 0, none⟩)
  | 4, v, _ => v = vb
  | 5, v, w => Txts w w1.heap.size v (feedP x).1 ∧ ∃ u, PX w g u (feedP x).2 ∧ ∀ k, u.ownBlock = some k → w1.heap.size ≤ k
  | _, _, _ => True
/-- What holds. -/
def F6 (PR : RdrP) (w1 : World) (F : Nat → Prop) (g : Nat) (p : Value) (st y : Bs) (A1 : Option Addr) (c1 : Nat) (vx : Value) (a1 : Option Addr) (d1 : Nat) : Nat → World → Prop
  | 0, w => PR w F p st ∧ Sl w A1 c1 y
  | 1, w => PX w g vx st ∧ Sl w a1 d1 y
  | 2, w => (∃ u z, PX w g u z ∧ OffV F u) ∧ Mod (fun k => F k ∨ k = g) w1 w
  | _, _ => True
def kill6 (m : Nat) : Nat := if m = 0 then 2 else if m = 1 then 5 else 100
def Rel6 (F : Nat → Prop) (g : Nat) (j : Nat) (w w' : World) : Prop := if j = 2 then Mod F w w' else if j = 5 then (Mod (fun k => k = g) w w' ∧ ∃ u z, PX w' g u z ∧ ∀ k, u.ownBlock = some k → w.heap.size ≤ k) else w' = w

theorem R6_st {PR : RdrP} (I : PfI PR) {w1 : World} {F : Nat → Prop} {g : Nat} {p : Value} {x : Bs} {v1 vb : Value} (hg : g < w1.heap.size) (hFg : ¬ F g) (hF : ∀ k, F k → k < w1.heap.size) (i j : Nat) (v : Value) (w w' : World) (hij : i ≠ j) (hr : Rel6 F g j w w') (h : R6 PR w1 F g p x v1 vb i v w) : R6 PR w1 F g p x v1 vb i v w' := by
  unfold Rel6 at hr
  split at hr
  · subst j
    match i with
    | 0 | 1 | 3 | 4 | _ + 6 => exact h
    | 2 => exact absurd rfl hij
    | 5 =>
      obtain ⟨h1, u, h2, h3⟩ := h
      exact ⟨h1.mod hr hF, u, h2.mod hr hFg (fun k hk e => by have := h3 k hk; have := hF k e; omega), h3⟩
  · split at hr
    · subst j
      obtain ⟨hM, u, z, hu, hz⟩ := hr
      match i with
      | 0 | 1 | 3 | 4 | _ + 6 => exact h
      | 5 => exact absurd rfl hij
      | 2 =>
        obtain ⟨F', h1, h2, h3, h4⟩ := h
        refine ⟨F', h1.mod hM (fun k e => by subst e; exact ⟨hg, hFg⟩), I.mod h2 hM (fun k hk e => by
          subst e
          rcases h3 _ hk with e | e
          · exact hFg e
          · omega), h3, fun u' y' hu' k hk e => ?_⟩
        rw [hu'.same hu] at hk
        have := hz k hk
        have := I.lt h2 k e
        omega
    · subst hr; exact h
theorem F6_st {PR : RdrP} (I : PfI PR) {w1 : World} {F : Nat → Prop} {g : Nat} {p : Value} {st y : Bs} {A1 : Option Addr} {c1 : Nat} {vx : Value} {a1 : Option Addr} {d1 : Nat} (hFg : ¬ F g) (hF : ∀ k, F k → k < w1.heap.size) (hA1 : Off (fun k => k = g) A1) (hvx : OffV F vx) (ha1 : 0 < y.length → Off F a1) (m j : Nat) (w w' : World) (hm : j ≠ kill6 m) (hr : Rel6 F g j w w') (h : F6 PR w1 F g p st y A1 c1 vx a1 d1 m w) : F6 PR w1 F g p st y A1 c1 vx a1 d1 m w' := by
  unfold Rel6 at hr
  split at hr
  · subst j
    match m with
    | 0 => exact absurd rfl hm
    | 1 => exact ⟨h.1.mod hr hFg hvx, h.2.mod' hr ha1⟩
    | 2 =>
      obtain ⟨⟨u, z, hu, hz⟩, hM⟩ := h
      exact ⟨⟨u, z, hu.mod hr hFg hz, hz⟩, hM.trans hr (fun k e => .inl (.inl e))⟩
    | _ + 3 => trivial
  · split at hr
    · subst j
      obtain ⟨hM, u, z, hu, hz⟩ := hr
      match m with
      | 0 => exact ⟨I.mod h.1 hM (fun k hk e => by subst e; exact hFg hk), h.2.mod' hM (fun _ => hA1)⟩
      | 1 => exact absurd rfl hm
      | 2 =>
        obtain ⟨-, hN⟩ := h
        refine ⟨⟨u, z, hu, fun k hk e => ?_⟩, hN.trans hM (fun k e => .inl (.inr e))⟩
        have h1 := hz k hk
        have h2 := hF k e
        have := hN.size
        omega
      | _ + 3 => trivial
    · subst hr; exact h

/-- What each operation of the last region yields. -/
def R11 (w1 : World) (g : Nat) (x : Bs) (v8 : Value) : Nat → Value → World → Prop
  | 0, v, _ => v = v8
  | 1, v, _ => v = .pointer (some ⟨g, 0, none⟩)
  | 2, v, w => ∃ b, v = .slice (some ⟨b, 0, none⟩) 1 1 ∧ w.heap[b]? = some (.cells #[.int .u8 0] 5 (0, 0)) ∧ w1.heap.size ≤ b
  | 3, v, w => Txts w w1.heap.size v (feedP x).1 ∧ ∃ u, PX w g u (feedP x).2 ∧ ∀ k, u.ownBlock = some k → w1.heap.size ≤ k
  | _, _, _ => True
def F11 (w1 : World) (g : Nat) (st : Bs) (vx : Value) : Nat → World → Prop
  | 0, w => PX w g vx st
  | 1, w => Mod (fun k => k = g) w1 w
  | _, _ => True
def kill11 (m : Nat) : Nat := if m = 0 then 3 else 100
def Rel11 (g : Nat) (j : Nat) (w w' : World) : Prop := if j = 3 then Mod (fun k => k = g) w w' else Below w.heap.size w w'
theorem R11_st {w1 : World} {g : Nat} {x : Bs} {v8 : Value} (hg : g < w1.heap.size) (i j : Nat) (v : Value) (w w' : World) (hij : i ≠ j) (hr : Rel11 g j w w') (h : R11 w1 g x v8 i v w) : R11 w1 g x v8 i v w' := by
  match i with
  | 0 | 1 | _ + 4 => exact h
  | 2 =>
    obtain ⟨b, e, hb, hs⟩ := h
    have hM : Mod (fun k => k = g) w w' := by
      unfold Rel11 at hr
      split at hr
      · exact hr
      · exact Mod.below hr
    exact ⟨b, e, hM.row hb (fun e => by omega), hs⟩
  | 3 =>
    unfold Rel11 at hr
    split at hr
    · subst j; exact absurd rfl hij
    · obtain ⟨h1, u, h2, h3⟩ := h
      exact ⟨h1.on hr, u, ⟨(hr.block g h2.lt).trans h2.1, h2.2.1.below hr (Nat.le_refl _), h2.2.2⟩, h3⟩
theorem F11_st {w1 : World} {g : Nat} {st : Bs} {vx : Value} (m j : Nat) (w w' : World) (hm : j ≠ kill11 m) (hr : Rel11 g j w w') (h : F11 w1 g st vx m w) : F11 w1 g st vx m w' := by
  match m with
  | 0 =>
    unfold Rel11 at hr
    split at hr
    · subst j; exact absurd rfl hm
    · exact ⟨(hr.block g (PX.lt h)).trans h.1, h.2.1.below hr (Nat.le_refl _), h.2.2⟩
  | 1 =>
    have hM : Mod (fun k => k = g) w w' := by
      unfold Rel11 at hr
      split at hr
      · exact hr
      · exact Mod.below hr
    exact h.trans hM (fun k e => .inl e)
  | _ + 2 => trivial
end Go.Proofs.Ytdifemaidngnjaa
