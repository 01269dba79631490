/-
  The document's writer: a chain of appends onto its bytes; two and four bytes of a number.
-/
import Derived.Test.YtknpkifhkefikaaDoorWdA
import Derived.Test.YtknpkifhkefikaaDoorWrC
import Derived.Test.YtknpkifhkefikaaDoorHdB
import Derived.Deep.RegionLaw
namespace Go.Proofs.YtknpkifhkefikaaDoor
open Go.RowKit Go.Maps
set_option linter.unusedVariables false
set_option maxRecDepth 100000

/-- A chain of appends that began with v0 at W0: now v, with the bytes l; ts are texts that the calls made. -/
structure CH (W0 : World) (base : Nat) (v0 v : Value) (l : Bs) (ts : List (Nat × Bs)) (W : World) : Prop where
  md : Mod (fun k => v0.ownBlock = some k) W0 W
  own : OwnR W base v l
  nn : v ≠ .slice none 0 0
  fr : v.ownBlock = v0.ownBlock ∨ ∀ k, v.ownBlock = some k → W0.heap.size ≤ k
  tm : ∀ q ∈ ts, W0.heap.size ≤ q.1 ∧ q.1 < W.heap.size ∧ Bys W (some ⟨q.1, 0, none⟩) q.2 ∧ v.ownBlock ≠ some q.1
  big : base ≤ W.heap.size
theorem CH.start {W0 : World} {base : Nat} {v0 : Value} {l : Bs} (h : OwnR W0 base v0 l) (hn : v0 ≠ .slice none 0 0) (hb : base ≤ W0.heap.size) : CH W0 base v0 v0 l [] W0 := ⟨Mod.refl _ _, h, hn, .inl rfl, fun q hq => (by cases hq), hb⟩
theorem CH.on {W0 W W' : World} {base : Nat} {v0 v : Value} {l : Bs} {ts : List (Nat × Bs)} (h : CH W0 base v0 v l ts W) (k : Below W.heap.size W W') : CH W0 base v0 v l ts W' :=
  ⟨h.md.then k, h.own.below k, h.nn, h.fr, fun q hq => by obtain ⟨a, b, c, d⟩ := h.tm q hq; exact ⟨a, Nat.lt_of_lt_of_le b k.size, c.on k, d⟩, Nat.le_trans h.big k.size⟩
theorem CH.drew {W0 W : World} {base : Nat} {v0 v : Value} {l : Bs} {ts : List (Nat × Bs)} (h : CH W0 base v0 v l ts W) : CH W0 base v0 v l ts W.drew := h.on (Below.drew (Below.refl _ _))
theorem CH.call {W0 W W' : World} {base k : Nat} {v0 v : Value} {l t : Bs} {ts : List (Nat × Bs)} (h : CH W0 base v0 v l ts W) (hB : Below W.heap.size W W') (hk : W.heap.size ≤ k) (hk2 : k < W'.heap.size) (hb : Bys W' (some ⟨k, 0, none⟩) t) : CH W0 base v0 v l ((k, t) :: ts) W' := by
  have h' := h.on hB
  refine ⟨h'.md, h'.own, h'.nn, h'.fr, fun q hq => ?_, h'.big⟩
  rcases List.mem_cons.1 hq with rfl | hq
  · exact ⟨Nat.le_trans h.md.size hk, hk2, hb, fun e => by have := (h.own.ownB.lt k e).2; omega⟩
  · exact h'.tm q hq
theorem CH.app {W0 W W' : World} {base k : Nat} {v0 v v' : Value} {l t : Bs} {ts : List (Nat × Bs)} (h : CH W0 base v0 v l ts W) (ho : OwnR W' base v' (l ++ t)) (hg : W.grownBy W' v.ownBlock) (hf : v'.ownBlock = v.ownBlock ∨ v'.ownBlock = some W.heap.size) (hn : v' ≠ .slice none 0 0) : CH W0 base v0 v' (l ++ t) ts W' := by
  refine ⟨h.md.trans (S' := fun k => v.ownBlock = some k) (Mod.grown hg (fun k e => e)) (fun i e => ?_), ho, hn, ?_, fun q hq => ?_, Nat.le_trans h.big hg.size⟩
  · rcases h.fr with f | f
    · exact .inl (by rw [← f]; exact e)
    · exact .inr (f i e)
  · rcases hf with e | e
    · rw [e]; exact h.fr
    · exact .inr fun k hk => by rw [e] at hk; injection hk with hk; have := h.md.size; omega
  · obtain ⟨a, b, c, d⟩ := h.tm q hq
    refine ⟨a, Nat.lt_of_lt_of_le b hg.size, c.mod (S := fun k => v.ownBlock = some k) (Mod.grown hg (fun k e => e)) (fun p hp e => ?_), fun e => ?_⟩
    · injection hp with hp
      subst hp
      exact d e
    · rcases hf with f | f
      · exact d (f.symm.trans e)
      · rw [f] at e; injection e with e; omega
section
variable {ops : Array Oper} {o : Oper} {a : Act} {w : World} {K : Act → World → Prop} {Q : Exit → Act → World → Prop} {E : Prop}
theorem step_ch (hgd : o.guard = none) (x y : Operand) (ho : o.op = .call { callee := .builtin .append, args := #[x, y], argTypes := #[29, 29] }) {W0 : World} {base : Nat} {v0 v : Value} {l : Bs} {ts : List (Nat × Bs)} (hs : a.eval x = v) (h : CH W0 base v0 v l ts w)
    (k m c : Nat) (hx : a.eval y = .slice (some ⟨k, 0, none⟩) m c) (t : Bs) (ht : (k, t) ∈ ts) (hm : m = t.length) (hlen : l.length + t.length ≤ 140737488355328)
    (hK : ∀ v' w', CH W0 base v0 v' (l ++ t) ts w' → K (a.put o.dst v') w') : if Region.wanted o (yielded ops a.tmps) = true then Oper.wp Tryd.prog o a w K Q else E := by
  obtain ⟨v', w', hr, h1, h2, h3, h4⟩ := run_appRF o.type h.own h.nn (some ⟨k, 0, none⟩) c m t hm (h.tm _ ht).2.2.1 (fun e => by cases e) hlen h.big
  exact step_run hgd x y _ ho _ _ hs hx hr (hK v' w' (h.app (k := k) h1 h2 h3 h4))
end
/-- The chain stored over the writer's bytes. -/
theorem DtM.storeC {g base : Nat} {v vp v' : Value} {X : Wt} {L : List Plc} {w W : World} {b' : Bs} {ts : List (Nat × Bs)} (h : DtM g v vp base X L w) (hc : CH w base v v' b' ts W) (hl : L.length ≤ b'.length) : DtM g v' vp base ⟨b', X.P⟩ L (W.setCell ⟨g, 0, none⟩ v') := by
  have e1 : W.heap[g]? = w.heap[g]? := hc.md.block g (h.lt (.inl rfl)) (fun e => h.gv e)
  have hvg : v'.ownBlock ≠ some g := by
    rcases hc.fr with e | e
    · rw [e]; exact h.gv
    · intro e2; have := e g e2; have := h.lt (.inl rfl); omega
  refine ⟨row_set v' (e1.trans h.head), ?_, hc.nn, ?_, h.eq, hl, h.sm, h.bg⟩
  · refine ⟨hc.own.1, ?_⟩
    rcases hc.own.2 with e | ⟨gv, c, cur, e, hb, hh, r⟩
    · exact .inl e
    · exact .inr ⟨gv, c, cur, e, hb, row_other v' hh (fun e3 => hvg (by rw [e, e3]; rfl)), r⟩
  · refine ⟨h.pl.1, ?_⟩
    rcases h.pl.2 with e | ⟨gp, c, cur, e, hb, hh, r⟩
    · exact .inl e
    · have ep : vp.ownBlock = some gp := by rw [e]; rfl
      exact .inr ⟨gp, c, cur, e, hb, row_other v' ((hc.md.block gp (h.lt (.inr (.inr ep))) (fun e3 => h.vv e3 ep)).trans hh) (fun e3 => h.gp (by rw [← e3]; exact ep)), r⟩
/-- What a call of the document's writer leaves. -/
def DrP (g : Nat) (v vp : Value) (base : Nat) (X' : Wt) (w w' : World) : Prop := ∃ v' vp' L', DtM g v' vp' base X' L' w' ∧ L'.length < X'.b.length ∧ Mod (Foot4 g v vp) w w' ∧ ∀ k, (v'.ownBlock = some k ∨ vp'.ownBlock = some k) → Foot4 g v vp k ∨ w.heap.size ≤ k
theorem DrP.trans {g base : Nat} {v vp v1 vp1 : Value} {X' : Wt} {w w1 w2 : World} (hM : Mod (Foot4 g v vp) w w1) (hf : ∀ k, (v1.ownBlock = some k ∨ vp1.ownBlock = some k) → Foot4 g v vp k ∨ w.heap.size ≤ k) (h : DrP g v1 vp1 base X' w1 w2) : DrP g v vp base X' w w2 := by
  obtain ⟨v', vp', L', h1, h2, h3, h4⟩ := h
  have hF : ∀ k, Foot4 g v1 vp1 k → Foot4 g v vp k ∨ w.heap.size ≤ k := fun k hk => by
    rcases hk with e | e | e
    · exact .inl (.inl e)
    · exact hf k (.inl e)
    · exact hf k (.inr e)
  refine ⟨v', vp', L', h1, h2, hM.trans h3 hF, fun k hk => ?_⟩
  rcases h4 k hk with e | e
  · exact hF k e
  · exact .inr (Nat.le_trans hM.size e)
/-- A chain stored: what it leaves. -/
theorem DrP.chain {g base : Nat} {v vp v' : Value} {X : Wt} {L : List Plc} {w W : World} {b' : Bs} {ts : List (Nat × Bs)} (h : DtM g v vp base X L w) (hc : CH w base v v' b' ts W) (hl : L.length < b'.length) : DrP g v vp base ⟨b', X.P⟩ w (W.setCell ⟨g, 0, none⟩ v') := by
  refine ⟨v', vp, L, h.storeC hc (Nat.le_of_lt hl), hl, Mod.store (hc.md.wide (fun i e => .inr (.inl e))) _ _ (.inl (.inl rfl)), fun k hk => ?_⟩
  rcases hk with e | e
  · rcases hc.fr with f | f
    · exact .inl (.inr (.inl (by rw [← f]; exact e)))
    · exact .inr (f k e)
  · exact .inl (.inr (.inr e))
theorem CH.cell {W0 W : World} {base : Nat} {v0 v : Value} {l : Bs} {ts : List (Nat × Bs)} (h : CH W0 base v0 v l ts W) {g : Nat} {cs : Array Value} {T : TypeId} (hr : W0.heap[g]? = some (.cells cs T (0, 0))) (hv : v0.ownBlock ≠ some g) : W.heap[g]? = some (.cells cs T (0, 0)) := (h.md.block g (Array.getElem?_eq_some_iff.1 hr).1 hv).trans hr
set_option maxHeartbeats 1000000 in
theorem dTwo_any (n : Nat) (z : Int) (hz : z = n) (w : World) : Calls Tryd.prog 37 #[.int .i64 z] w fun e w' => ∃ k, e = .returned (.slice (some ⟨k, 0, none⟩) 2 2) ∧ w.heap.size ≤ k ∧ k < w'.heap.size ∧ OwnR w' w.heap.size (.slice (some ⟨k, 0, none⟩) 2 2) (tw n) ∧ Below w.heap.size w w' := by
  subst hz
  obtain ⟨b0, hb0⟩ : ∃ b, b = UInt8.ofNat (n / 256) := ⟨_, rfl⟩
  obtain ⟨b1, hb1⟩ : ∃ b, b = UInt8.ofNat n := ⟨_, rfl⟩
  have f0 : IntKind.u8.wrap ((n : Int) / 256) = (b0.toNat : Int) := by rw [hb0]; exact u8_hi n
  have f1 : IntKind.u8.wrap (n : Int) = (b1.toNat : Int) := by rw [hb1]; exact u8_lo n
  have O : Hid (OwnR (w.alloc (.cells #[.int .u8 b0.toNat, .int .u8 b1.toNat] 5)) w.heap.size (.slice (some ⟨w.heap.size, 0, none⟩) 2 2) (tw n)) := Lib.hid (by rw [tw, ← hb0, ← hb1]; exact OwnR.made (l := [b0, b1]) (Nat.le_refl _) (by simp [byteV]) (by simp [maxLen]))
  clear hb0 hb1
  go_enter Tryd.func37, Tryd.ntmps37
  go_wp2_with fail
  go_ret
  exact ⟨_, rfl, Nat.le_refl _, by simp, O.out, Below.alloc (Below.refl _ _) (Nat.le_refl _) _⟩
theorem ownR_bys {w : World} {base k n c : Nat} {l : Bs} (h : OwnR w base (.slice (some ⟨k, 0, none⟩) n c) l) : Bys w (some ⟨k, 0, none⟩) l := by
  obtain ⟨A', c', e, hb, -⟩ := h.ownB.bysN
  injection e with e _ _
  rw [e]
  exact hb
theorem four_eq (n : Nat) (h : n < 4294967296) : tw (n / 65536) ++ tw (n % 65536) = tw (n / 65536) ++ tw n := by
  unfold tw
  have h1 : UInt8.ofNat (n % 65536 / 256) = UInt8.ofNat (n / 256) := by
    apply UInt8.toNat_inj.1
    simp
    omega
  have h2 : UInt8.ofNat (n % 65536) = UInt8.ofNat n := by
    apply UInt8.toNat_inj.1
    simp
  rw [h1, h2]
set_option maxHeartbeats 1000000 in
theorem dFour_any (n : Nat) (z : Int) (hz : z = n) (hn : n < 4294967296) (w : World) : Calls Tryd.prog 76 #[.int .i64 z] w fun e w' => ∃ k c, e = .returned (.slice (some ⟨k, 0, none⟩) 4 c) ∧ w.heap.size ≤ k ∧ k < w'.heap.size ∧ OwnR w' w.heap.size (.slice (some ⟨k, 0, none⟩) 4 c) (tw (n / 65536) ++ tw n) ∧ Below w.heap.size w w' := by
  subst hz
  have hd : (n : Int) / 65536 = ((n / 65536 : Nat) : Int) := (Int.natCast_ediv n 65536).symm
  have ha : (n : Int) % 65536 = ((n % 65536 : Nat) : Int) := by omega
  have hA : bits .and .i64 (n : Int) 65535 = (n : Int) % 65536 := by
    have h1 := and_nat n 65535 (by omega) (by omega)
    have h2 : n &&& 65535 = n % 65536 := Nat.and_two_pow_sub_one_eq_mod n 16
    rw [h2, ← ha] at h1
    exact h1
  have T1 := Lib.hid (fun W => dTwo_any (n / 65536) ((n : Int) / 65536) hd W)
  have T2 := Lib.hid (fun W => dTwo_any (n % 65536) _ ha W)
  have FE := Lib.hid (four_eq n hn)
  clear hd ha hn
  go_enter Tryd.func76, Tryd.ntmps76
  go_wp2_with fail
  refine (T1.out _).mono ?_
  rintro e w1 ⟨k1, rfl, h1, h2, o1, b1⟩
  have O1 := Lib.hid o1
  have B1 := Lib.hid b1
  clear o1 b1
  go_wp2_with fail
  refine (T2.out _).mono ?_
  rintro e w2 ⟨k2, rfl, h3, h4, o2, b2⟩
  have O12 := Lib.hid (O1.out.below b2)
  have B2 := Lib.hid (B1.out.trans (b2.mono B1.out.size))
  have HB : Hid (Bys w2 (some ⟨k2, 0, none⟩) (tw (n % 65536))) := Lib.hid (by obtain ⟨A', c', e, hb, -⟩ := o2.ownB.bysN; injection e with e _ _; rw [e]; exact hb)
  have HZ := Lib.hid B2.out.size
  clear o2 b2 T1 T2 O1
  go_wp2_with (first
    | (at_builtin; refine wpList_appRF rfl (.tmp 5) (.tmp 8) rfl w.heap.size _ (tw (n / 65536)) rfl O12.out (by intro h; cases h) _ 2 2 rfl (tw (n % 65536)) rfl HB.out (fun h => by cases h) (by simp [tw]) HZ.out ?_)
    | fail)
  intro v3 w3 o3 g3 f3 n3
  rw [FE.out] at o3
  obtain ⟨gv, c, hv, hb, hl, -⟩ := OwnR.slice_form o3 n3
  have hlen : (tw (n / 65536) ++ tw n).length = 4 := rfl
  rw [hlen] at hv
  subst hv
  have O3 := Lib.hid o3
  have B3 := Lib.hid (B2.out.grown g3 HZ.out (fun k hk => by injection hk with hk; subst hk; exact h1))
  clear o3 g3 f3 n3 hlen
  go_wp2_with fail
  go_ret
  exact ⟨_, _, rfl, hb, hl, O3.out, B3.out⟩
end Go.Proofs.YtknpkifhkefikaaDoor
