/-
  The document's writer: what holds between the steps of a record.
-/
import Derived.Test.YtknpkifhkefikaaDoorWdC
import Derived.Test.YtknpkifhkefikaaDoorWdN
import Derived.Test.YtknpkifhkefikaaDoorWrG
namespace Go.Proofs.YtknpkifhkefikaaDoor
open Go.RowKit Go.Maps
set_option linter.unusedVariables false
set_option maxRecDepth 100000

theorem dNm_any (n : Bs) {g base : Nat} {v vp : Value} {X : Wt} {L : List Plc} (w : World) (h : DtM g v vp base X L w) (hLX : L.length < X.b.length) (hc : can n = true) (hl : X.b.length ≤ 30000000) : Calls Tryd.prog 36 #[.pointer (some ⟨g, 0, none⟩), .string (bs n)] w fun e w' => e = .returned (.tuple #[]) ∧ DrP g v vp base (nmW n X) w w' := by
  obtain ⟨h1, _, e, hL⟩ := can_out hc
  have := dName_any (labels n) w h hLX hL (by rw [← e]; exact h1) hl
  rw [← e] at this
  exact this
/-- Between two steps, with a box of C at kb. -/
structure RcS (g : Nat) (v vp : Value) (base : Nat) (w : World) (kb : Nat) (C : Array Value) (T : TypeId) (X' : Wt) (W : World) (v' vp' : Value) (L' : List Plc) : Prop where
  at' : DtM g v' vp' base X' L' W
  le : L'.length < X'.b.length
  mod : Mod (Foot4 g v vp) w W
  fr : ∀ k, (v'.ownBlock = some k ∨ vp'.ownBlock = some k) → Foot4 g v vp k ∨ w.heap.size ≤ k
  nb : v'.ownBlock ≠ some kb ∧ vp'.ownBlock ≠ some kb ∧ g ≠ kb
  row : W.heap[kb]? = some (.cells C T (0, 0))
section
variable {g base kb : Nat} {v vp v' vp' : Value} {w W W' : World} {C : Array Value} {T : TypeId} {X' X'' : Wt} {L' : List Plc}
theorem RcS.not (h : RcS g v vp base w kb C T X' W v' vp' L') : ¬ Foot4 g v' vp' kb := fun e => by
  rcases e with e | e | e
  · exact h.nb.2.2 e.symm
  · exact h.nb.1 e
  · exact h.nb.2.1 e
theorem RcS.next (h : RcS g v vp base w kb C T X' W v' vp' L') (d : DrP g v' vp' base X'' W W') : ∃ v'' vp'' L'', RcS g v vp base w kb C T X'' W' v'' vp'' L'' := by
  obtain ⟨v'', vp'', L'', h1, h2, h3, h4⟩ := d
  have hlt := (Array.getElem?_eq_some_iff.1 h.row).1
  have hF : ∀ k, Foot4 g v' vp' k → Foot4 g v vp k ∨ w.heap.size ≤ k := fun k hk => by
    rcases hk with e | e | e
    · exact .inl (.inl e)
    · exact h.fr k (.inl e)
    · exact h.fr k (.inr e)
  have nb : ∀ k, (v''.ownBlock = some k ∨ vp''.ownBlock = some k) → k ≠ kb := fun k hk e => by
    subst e
    rcases h4 k hk with e | e
    · exact h.not e
    · omega
  refine ⟨v'', vp'', L'', h1, h2, h.mod.trans h3 hF, fun k hk => ?_, ⟨fun e => nb _ (.inl e) rfl, fun e => nb _ (.inr e) rfl, h.nb.2.2⟩, (h3.block kb hlt h.not).trans h.row⟩
  rcases h4 k hk with e | e
  · exact hF k e
  · exact .inr (Nat.le_trans h.mod.size e)
theorem RcS.below (h : RcS g v vp base w kb C T X' W v' vp' L') (k : Below W.heap.size W W') : RcS g v vp base w kb C T X' W' v' vp' L' :=
  ⟨h.at'.below k, h.le, h.mod.then k, h.fr, h.nb, (k.block kb (Array.getElem?_eq_some_iff.1 h.row).1).trans h.row⟩
theorem RcS.shut (h : RcS g v vp base w kb C T X' W v' vp' L') : DrP g v vp base X' w W := ⟨v', vp', L', h.at', h.le, h.mod, h.fr⟩
theorem RcS.out (h : RcS g v vp base w kb C T X' W v' vp' L') (hw : ∀ k, Foot4 g v vp k → base ≤ k) (hb : base ≤ w.heap.size) : Below base w W := Mod.out (Below.refl _ _) h.mod hb hw
theorem RcS.cell (h : RcS g v vp base w kb C T X' W v' vp' L') {i : Nat} {x : Value} (hx : C[i]? = some x) : W.cell? ⟨kb, i, none⟩ = some x := (cell_of_row _ _ i _ _ _ h.row).trans hx
end
/-- The start: the box is the world's last block. -/
theorem RcS.start {g base : Nat} {v vp : Value} {X : Wt} {L : List Plc} {w : World} (h : DtM g v vp base X L w) (hLX : L.length < X.b.length) (C : Array Value) (T : TypeId) : RcS g v vp base w w.heap.size C T X (w.alloc (.cells C T)) v vp L := by
  have B0 : Below w.heap.size w (w.alloc (.cells C T)) := Below.alloc (Below.refl _ _) (Nat.le_refl _) _
  refine ⟨h.below B0, hLX, Mod.below B0, fun k hk => .inl (.inr hk), ⟨fun e => ?_, fun e => ?_, fun e => ?_⟩, row_new _ rfl⟩
  · have := h.lt (.inr (.inl e)); omega
  · have := h.lt (.inr (.inr e)); omega
  · have := h.lt (.inl rfl); omega
/-- A byte of the writer's is another one now. -/
theorem DtM.put1 {g base gv n c : Nat} {vp : Value} {X : Wt} {L : List Plc} {w : World} (h : DtM g (.slice (some ⟨gv, 0, none⟩) n c) vp base X L w) (j : Nat) (x : UInt8) : DtM g (.slice (some ⟨gv, 0, none⟩) n c) vp base ⟨X.b.set j x, X.P⟩ L (w.setCell ⟨gv, j, none⟩ (.int .u8 x.toNat)) := by
  have hn : n = X.b.length := by
    obtain ⟨_, _, e, _⟩ := h.form
    injection e
  subst hn
  have g1 : g ≠ gv := fun e => h.gv (by rw [e]; rfl)
  have hr := OwnR.set (n := X.b.length) (c := c) h.row j x
  refine ⟨row_other _ h.head g1, hr, h.nn, ?_, h.eq, by rw [List.length_set]; exact h.len, h.sm, h.bg⟩
  refine ⟨h.pl.1, ?_⟩
  rcases h.pl.2 with e | ⟨gp, c', cur, e, hb, hh, r⟩
  · exact .inl e
  · exact .inr ⟨gp, c', cur, e, hb, row_other _ hh (fun e3 => h.vv (k := gv) rfl (by rw [e, e3]; rfl)), r⟩
theorem RcS.put1 {g base kb gv n c : Nat} {v vp vp' : Value} {w W : World} {C : Array Value} {T : TypeId} {X' : Wt} {L' : List Plc} (h : RcS g v vp base w kb C T X' W (.slice (some ⟨gv, 0, none⟩) n c) vp' L') (j : Nat) (x : UInt8) : RcS g v vp base w kb C T ⟨X'.b.set j x, X'.P⟩ (W.setCell ⟨gv, j, none⟩ (.int .u8 x.toNat)) (.slice (some ⟨gv, 0, none⟩) n c) vp' L' := by
  refine ⟨h.at'.put1 j x, by rw [List.length_set]; exact h.le, Mod.store h.mod _ _ ?_, h.fr, h.nb, row_other _ h.row (fun e => h.nb.1 (by rw [e]; rfl))⟩
  exact h.fr gv (.inl rfl)
theorem RcS.drew {g base kb : Nat} {v vp v' vp' : Value} {w W : World} {C : Array Value} {T : TypeId} {X' : Wt} {L' : List Plc} (h : RcS g v vp base w kb C T X' W v' vp' L') : RcS g v vp base w kb C T X' W.drew v' vp' L' := h.below (Below.drew (Below.refl _ _))
/-- An append of bytes in a region that draws, stored over the writer's bytes: what the walk needs, what it leaves. -/
theorem dApp_step {g base : Nat} {v vp : Value} {X : Wt} {L : List Plc} {w : World} (h : DtM g v vp base X L w) (hLX : L.length < X.b.length) (A : Option Addr) (c k : Nat) (y : Bs) (hk : k = y.length) (hy : Bys w A y) (hA : A = none → c = 0) (hl : X.b.length + y.length ≤ 40000000) :
    ∃ v' w', appB v (.slice A k c) 29 w.drew = .ok (.value v') w' ∧ (w'.cell? ⟨g, 0, none⟩ = some v ∧ w'.frozen? ⟨g, 0, none⟩ = false) ∧ (∃ gv c', v' = .slice (some ⟨gv, 0, none⟩) (X.b ++ y).length c') ∧ DrP g v vp base ⟨X.b ++ y, X.P⟩ w (w'.setCell ⟨g, 0, none⟩ v') := by
  have h2d := h.drew
  obtain ⟨v3, w3, hr3, o3, g3, f3, n3⟩ := run_appRF 29 h2d.row h2d.nn A c k y hk (hy.on (Below.drew (Below.refl _ _))) hA (by omega) h2d.big
  obtain ⟨gv3, k3, hv3, -⟩ := OwnR.slice_form o3 n3
  have ch := (CH.start h2d.row h2d.nn h2d.big).app (k := 0) o3 g3 f3 n3
  have hrow := ch.cell h2d.head h2d.gv
  refine ⟨v3, w3, appB_of hr3, ⟨(cell_of_row _ _ 0 _ _ _ hrow).trans rfl, frozen_of_row _ _ _ _ _ hrow⟩, ⟨gv3, k3, hv3⟩, ?_⟩
  exact DrP.trans (Mod.below (Below.drew (Below.refl _ _))) (fun k hk => .inl (.inr hk)) (DrP.chain h2d ch (by rw [List.length_append]; omega))
end Go.Proofs.YtknpkifhkefikaaDoor
