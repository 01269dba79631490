/-
  Towards the document's Encode for a message: part by part without a look at the length; the header's bytes; a writer in memory.
-/
import Derived.Test.YtknpkifhkefikaaDoorWdE
import Derived.Test.YtknpkifhkefikaaDoorWdH
import Derived.Test.YtknpkifhkefikaaDoorWf
import Derived.Test.YtknpkifhkefikaaDoorWrL
namespace Go.Proofs.YtknpkifhkefikaaDoor
open Go.RowKit Go.Maps
set_option linter.unusedVariables false
set_option maxRecDepth 100000

def foldW {α : Type} (f : α → Wt → Wt) : List α → Wt → Wt
  | [], X => X
  | x :: l, X => foldW f l (f x X)
theorem foldW_app {α : Type} (f : α → Wt → Wt) : ∀ (l k : List α) (X : Wt), foldW f (l ++ k) X = foldW f k (foldW f l X)
  | [], k, X => rfl
  | x :: l, k, X => foldW_app f l k (f x X)
theorem foldW_take {α : Type} (f : α → Wt → Wt) {l : List α} {i : Nat} (h : i < l.length) (X : Wt) : foldW f (l.take (i + 1)) X = f l[i] (foldW f (l.take i) X) := by
  rw [List.take_succ_eq_append_getElem h, foldW_app]
  rfl
theorem foldW_le {α : Type} {f : α → Wt → Wt} : ∀ {l : List α}, (∀ x ∈ l, ∀ X : Wt, X.b.length ≤ (f x X).b.length) → ∀ X : Wt, X.b.length ≤ (foldW f l X).b.length
  | [], _, X => Nat.le_refl _
  | x :: l, h, X => Nat.le_trans (h x (by simp) X) (foldW_le (fun y hy => h y (by simp [hy])) (f x X))
theorem foldW_ge {α : Type} {f : α → Wt → Wt} {l : List α} (h : ∀ x ∈ l, ∀ X : Wt, X.b.length ≤ (f x X).b.length) (k : Nat) (X : Wt) : (foldW f (l.take k) X).b.length ≤ (foldW f l X).b.length := by
  conv => rhs; rw [← List.take_append_drop k l, foldW_app]
  exact foldW_le (fun x hx => h x (List.mem_of_mem_drop hx)) _
theorem partsW_fold {α : Type} {f : α → Wt → Wt} : ∀ {l : List α}, (∀ x ∈ l, ∀ X : Wt, X.b.length ≤ (f x X).b.length) → ∀ X : Wt, X.b.length ≤ 65535 → partsW f l X = if (foldW f l X).b.length ≤ 65535 then some (foldW f l X) else none
  | [], _, X, hX => by unfold partsW foldW; rw [if_pos hX]
  | x :: l, h, X, hX => by
    unfold partsW foldW
    have hl : ∀ y ∈ l, ∀ X : Wt, X.b.length ≤ (f y X).b.length := fun y hy => h y (by simp [hy])
    by_cases hb : 65535 < (f x X).b.length
    · have := foldW_le hl (f x X)
      rw [if_pos hb, if_neg (by omega)]
    · rw [if_neg hb]
      exact partsW_fold hl _ (by omega)
theorem quW_mono {q : Qu} (h : canQ q = true) (X : Wt) : X.b.length ≤ (quW q X).b.length ∧ (quW q X).b.length ≤ X.b.length + 259 := by
  unfold canQ at h
  simp only [Bool.and_eq_true] at h
  have := quW_len X h.1
  omega
theorem rrW_mono {r : Rr} (h : canR r = true) (X : Wt) : X.b.length ≤ (rrW r X).b.length := by
  unfold canR at h
  simp only [Bool.and_eq_true] at h
  have := rrW_len X h.1 h.2.2.2.2.2.2.2
  omega
theorem foldQ_len : ∀ {l : List Qu}, (∀ q ∈ l, canQ q = true) → ∀ X : Wt, (foldW quW l X).b.length ≤ X.b.length + 259 * l.length
  | [], _, X => by simp [foldW]
  | q :: l, h, X => by
    have h1 := (quW_mono (h q (by simp)) X).2
    have h2 := foldQ_len (l := l) (fun y hy => h y (List.mem_cons_of_mem _ hy)) (quW q X)
    unfold foldW
    rw [List.length_cons]
    omega
theorem headM_len (m : Msg) : (headM m).b.length = 12 := by
  show (headB _ _ _ _ _).length = 12
  rw [headB_len]
theorem encX_fold (m : Msg) (hq : ∀ q ∈ m.q, canQ q = true) (hr : ∀ r ∈ m.rs, canR r = true) : encX m = if (foldW rrW m.rs (foldW quW m.q (headM m))).b.length ≤ 65535 then some (foldW rrW m.rs (foldW quW m.q (headM m))) else none := by
  unfold encX
  rw [partsW_fold (fun q h X => (quW_mono (hq q h) X).1) _ (by rw [headM_len]; omega)]
  by_cases h1 : (foldW quW m.q (headM m)).b.length ≤ 65535
  · rw [if_pos h1]
    exact partsW_fold (fun r h X => rrW_mono (hr r h) X) _ h1
  · have := foldW_le (f := rrW) (fun r h X => rrW_mono (hr r h) X) (foldW quW m.q (headM m))
    rw [if_neg h1, if_neg (by omega)]
    rfl
theorem dHEnc_any (h : Hd) (n0 n1 n2 n3 : Nat) (w : World) (base : Nat) (hb : base ≤ w.heap.size) (hc : canHd h n0 n1 n2 n3 = true) : Calls Tryd.prog 34 #[.agg (hdC h), ctV n0 n1 n2 n3] w fun e w' => ∃ v, e = .returned (.tuple #[v, .int .i64 0]) ∧ Below w.heap.size w w' ∧ OwnR w' base v (headB h n0 n1 n2 n3) ∧ v ≠ .slice none 0 0 := by
  refine (refEncode_yes h.i h.o h.c n0 n1 n2 n3 h.r h.aa h.tc h.rd h.ra w hc).mono fun e w' ⟨v, h1, h2, h3⟩ => ?_
  refine ⟨v, h1, h3, ?_, ?_⟩
  · refine OwnR.lower (base := w.heap.size) ?_ hb
    obtain ⟨b0, b1, b2, b3, bI, bO, bC⟩ := canH_out hc
    obtain ⟨f1, f2⟩ := flags_bd h.r h.aa h.tc h.rd h.ra bO bC
    have e : encB h.i (flags h.o h.c h.r h.aa h.tc h.rd h.ra) n0 n1 n2 n3 = (headB h n0 n1 n2 n3).map byteV := by
      unfold headB
      simp only [List.map_append, ← tw_vals _ bI.1 bI.2, ← tw_vals _ f1 f2]
      have t0 := tw_vals n0 b0.1 b0.2
      have t1 := tw_vals n1 b1.1 b1.2
      have t2 := tw_vals n2 b2.1 b2.2
      have t3 := tw_vals n3 b3.1 b3.2
      rw [Int.toNat_natCast] at t0 t1 t2 t3
      rw [← t0, ← t1, ← t2, ← t3]
      rfl
    rw [e] at h2
    exact h2
  · rintro rfl
    rcases h2.2 with ⟨_, h0⟩ | ⟨g, cap, cur, hv, _⟩
    · cases h0
    · cases hv
/-- A writer that nobody has written to, its bytes the header's. -/
theorem DtM.made {W : World} {g base : Nat} {v : Value} {b : Bs} (hrow : W.heap[g]? = some (.cells #[.slice none 0 0, .slice none 0 0] 77 (0, 0))) (hr : OwnR W (g + 1) v b) (hn : v ≠ .slice none 0 0) (hb : base ≤ g) : DtM g v (.slice none 0 0) base ⟨b, fun _ => none⟩ [] (W.setCell ⟨g, 0, none⟩ v) := by
  refine ⟨row_set v hrow, ?_, hn, World.ownsRow_nil _ _ _ _, funext fun _ => rfl, Nat.zero_le _, (fun q hq => by cases hq), hb⟩
  refine ⟨hr.1, ?_⟩
  rcases hr.2 with e | ⟨gv, c, cur, e, hb2, hh, r⟩
  · exact .inl e
  · exact .inr ⟨gv, c, cur, e, by omega, row_other v hh (by omega), r⟩
theorem RcS.boxed {g base : Nat} {v vp : Value} {X : Wt} {L : List Plc} {w W : World} {C : Array Value} {T : TypeId} (h : DtM g v vp base X L w) (hLX : L.length < X.b.length) (k : Below w.heap.size w W) (r : W.heap[w.heap.size]? = some (.cells C T (0, 0))) : RcS g v vp base w w.heap.size C T X W v vp L := by
  refine ⟨h.below k, hLX, Mod.below k, fun k hk => .inl (.inr hk), ⟨fun e => ?_, fun e => ?_, fun e => ?_⟩, r⟩
  · have := h.lt (.inr (.inl e)); omega
  · have := h.lt (.inr (.inr e)); omega
  · have := h.lt (.inl rfl); omega
/-- Two texts. -/
structure RJ2 (w0 : World) (base : Nat) (v0 : Value) (b t1 t2 : Bs) (D : Nat → Option Value) (W : World) : Prop where
  rj : RJ w0 base v0 b t1 t2 [] D W
  no : D 16 = none
section
variable {w0 W W' : World} {base : Nat} {v0 : Value} {b t1 t2 : Bs} {D : Nat → Option Value}
theorem RJ2.start (h : CH w0 base v0 v0 b [] W) : RJ2 w0 base v0 b t1 t2 (fun _ => none) W := ⟨RJ.start h, rfl⟩
theorem RJ2.chx (h : RJ2 w0 base v0 b t1 t2 D W) : ∃ v z ts, CH w0 base v0 v z ts W := h.rj.chx
theorem RJ2.pure (h : RJ2 w0 base v0 b t1 t2 D W) {i : Nat} (v : Value) (hi : 7 ≠ i ∧ 8 ≠ i ∧ 11 ≠ i ∧ 12 ≠ i ∧ 15 ≠ i ∧ 16 ≠ i) : RJ2 w0 base v0 b t1 t2 (updD D i v) W := ⟨h.rj.pure v hi, by rw [updD_ne hi.2.2.2.2.2]; exact h.no⟩
theorem RJ2.call7 {k c : Nat} (h : RJ2 w0 base v0 b t1 t2 D W) (hB : Below W.heap.size W W') (hk : W.heap.size ≤ k) (hk2 : k < W'.heap.size) (hb : Bys W' (some ⟨k, 0, none⟩) t1) {m : Nat} (hm : m = t1.length := by rfl) : RJ2 w0 base v0 b t1 t2 (updD D 7 (.slice (some ⟨k, 0, none⟩) m c)) W' := ⟨h.rj.call7 hB hk hk2 hb hm, by rw [updD_ne (by decide)]; exact h.no⟩
theorem RJ2.call11 {k c : Nat} (h : RJ2 w0 base v0 b t1 t2 D W) (hB : Below W.heap.size W W') (hk : W.heap.size ≤ k) (hk2 : k < W'.heap.size) (hb : Bys W' (some ⟨k, 0, none⟩) t2) {m : Nat} (hm : m = t2.length := by rfl) : RJ2 w0 base v0 b t1 t2 (updD D 11 (.slice (some ⟨k, 0, none⟩) m c)) W' := ⟨h.rj.call11 hB hk hk2 hb hm, by rw [updD_ne (by decide)]; exact h.no⟩
theorem RJ2.app8 {x : Value} (h : RJ2 w0 base v0 b t1 t2 D W) (hno : D 8 = none) (hx : D 7 = some x) (hl : (b).length + t1.length ≤ 140737488355328) : ∃ v' W', (Builtin.append_ #[29, 29] 29 #[v0, x]).run Tryd.prog W = .ok v' W' ∧ RJ2 w0 base v0 b t1 t2 (updD D 8 v') W' := by
  obtain ⟨v', W', h1, h2⟩ := h.rj.app8 hno hx hl
  exact ⟨v', W', h1, h2, by rw [updD_ne (by decide)]; exact h.no⟩
theorem RJ2.app12 {x u : Value} (h : RJ2 w0 base v0 b t1 t2 D W) (hno : D 12 = none) (hu : D 8 = some u) (hx : D 11 = some x) (hl : (b ++ t1).length + t2.length ≤ 140737488355328) : ∃ v' W', (Builtin.append_ #[29, 29] 29 #[u, x]).run Tryd.prog W = .ok v' W' ∧ RJ2 w0 base v0 b t1 t2 (updD D 12 v') W' := by
  obtain ⟨v', W', h1, h2⟩ := h.rj.app12 hno hu hx hl
  exact ⟨v', W', h1, h2, by rw [updD_ne (by decide)]; exact h.no⟩
theorem RJ2.done {x : Value} (h : RJ2 w0 base v0 b t1 t2 D W) (hx : D 12 = some x) : ∃ ts, CH w0 base v0 x (b ++ t1 ++ t2) ts W := by
  obtain ⟨⟨v, z, ts, hc, h2, h3, h4, h5, h6, h7, h8⟩, u1, u2⟩ := h.rj
  obtain ⟨rfl, rfl⟩ := h4 _ hx h.no
  exact ⟨ts, hc⟩
end
end Go.Proofs.YtknpkifhkefikaaDoor
