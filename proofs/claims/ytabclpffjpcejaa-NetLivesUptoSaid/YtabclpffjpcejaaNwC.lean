/-
  The landed net's Write, Take, Drop.
-/
import Derived.Test.YtabclpffjpcejaaNwB
import Derived.StillTailTactics
namespace Go.Proofs.Ytabclpffjpcejaa
open Go.RowKit Go.Maps
set_option linter.unusedVariables false
set_option maxRecDepth 100000

theorem wpList_delN {p m N last : Nat} {L : List Cn} {b : Int} (w : World) {ops : Array Oper} {rest : List Oper} {o : Oper} {a : Act} {Q : Exit → Act → World → Prop} (hgd : o.guard = none) (mm x : Operand) (hop : o.op = Op.call { callee := Callee.builtin Builtin.delete, args := #[mm, x], argTypes := #[49, 3] })
    (hm : a.eval mm = .map (some m)) (hx : a.eval x = .int .i64 b) (h : NetS p m N last L w) (hb : I64n b)
    (hK : ∀ w', NetS p m N last (dropC L b) w' → w.grownBy w' (some m) → wpList Try.prog ops Q rest (a.put o.dst (.tuple #[])) w') : wpList Try.prog ops Q (o :: rest) a w := by
  refine wpList_plain hgd fun K' hK' => ?_
  obtain ⟨w', hrun, hg, hD⟩ := h.onDrop hb o.type
  have hk := hK w' hD hg
  unfold Oper.wp execOp
  simp only [hop, resolve, invoke, builtin, Sem.run_bind, Sem.run_pure, Result.andThen_ok, List.map_toArray, List.map_cons, List.map_nil, hm, hx, hrun]
  exact hK' _ _ hk
theorem row_cut {w : World} {base n : Nat} {e : TypeId} {A : Option Addr} {c : Nat} {xs : List Value} (h : w.ownsRow base e 1 (.slice A n c) n xs) : w.ownsRow base e 1 (.slice A 0 c) 0 [] := by
  refine ⟨rfl, ?_⟩
  rcases h.2 with ⟨hv, _⟩ | ⟨g, cap, cur, hv, hb, hh, hc, hm, hsz, ht⟩
  · injection hv with h1 h2 h3
    subst h1 h3
    exact .inl ⟨rfl, rfl⟩
  · injection hv with h1 h2 h3
    subst h1 h3
    exact .inr ⟨g, _, cur, rfl, hb, hh, Nat.zero_le _, hm, hsz, by simp⟩
section
variable {p m N last : Nat} {L : List Cn}
theorem Drop_no (w : World) (h : NetS p m N last L w) (a : Int) (ha : I64n a) (hf : fnd L a = none) : Calls Try.prog 20 #[.pointer (some ⟨p, 0, none⟩), .int .i64 a] w fun e w' => e = .returned (.int .i64 150) ∧ w' = w := by
  have C := Lib.hid (find_no w h a ha hf)
  clear h hf
  go_enter Try.func20, Try.ntmps20
  go_wp2_with fail
  refine C.out.mono ?_
  rintro e w1 ⟨rfl, rfl⟩
  go_wp2_with fail
  go_ret
  exact ⟨rfl, rfl⟩
theorem Drop_yes (w : World) (h : NetS p m N last L w) (a : Int) (ha : I64n a) {c : Cn} (hf : fnd L a = some c) : Calls Try.prog 20 #[.pointer (some ⟨p, 0, none⟩), .int .i64 a] w fun e w' => e = .returned (.int .i64 0) ∧ NetS p m N last (dropC L a) w' ∧ Mod (FootN p m L) w w' := by
  have C := Lib.hid (find_yes w h a ha hf)
  have c0 := h.cells.1
  have H := Lib.hid h
  have HA := Lib.hid ha
  clear h hf ha
  go_enter Try.func20, Try.ntmps20
  go_wp2_with fail
  refine C.out.mono ?_
  rintro e w1 ⟨rfl, rfl⟩
  go_wp2_with (at_delete; (with_reducible refine wpList_delN _ rfl _ _ rfl rfl rfl H.out HA.out ?_))
  intro w2 h2 hg
  have H2 := Lib.hid h2
  have HM : Hid (Mod (FootN p m L) w1 w2) := Lib.hid (Mod.grown hg (fun k e => by injection e with e; exact .inr (.inl e.symm)))
  clear h2 hg
  go_wp2_with fail
  go_ret
  exact ⟨rfl, H2.out, HM.out⟩
theorem Write_no (w : World) (h : NetS p m N last L w) (a : Int) (ha : I64n a) (hf : fnd L a = none) (A : Option Addr) (n cc : Nat) : Calls Try.prog 15 #[.pointer (some ⟨p, 0, none⟩), .int .i64 a, .slice A n cc] w fun e w' => e = .returned (.int .i64 150) ∧ w' = w := by
  have C := Lib.hid (find_no w h a ha hf)
  clear h hf
  go_enter Try.func15, Try.ntmps15
  go_wp2_with fail
  refine C.out.mono ?_
  rintro e w1 ⟨rfl, rfl⟩
  go_wp2_with fail
  go_ret
  exact ⟨rfl, rfl⟩
set_option maxHeartbeats 1000000 in
theorem Write_yes (w : World) (h : NetS p m N last L w) (a : Int) (ha : I64n a) {c : Cn} (hf : fnd L a = some c) (A : Option Addr) (x : Bs) (n cc : Nat) (hn : n = x.length) (hx : Bys w A x) (hA : A = none → cc = 0) (hlen : c.b.length + x.length ≤ 140737488355328) :
    Calls Try.prog 15 #[.pointer (some ⟨p, 0, none⟩), .int .i64 a, .slice A n cc] w fun e w' => e = .returned (.int .i64 0) ∧ AftN p m N last L (fun L' => ∃ v', L' = setC L { c with v := v', b := c.b ++ x }) w w' := by
  have C := Lib.hid (find_yes w h a ha hf)
  have hc := (fnd_some hf).1
  obtain ⟨d0, d1⟩ := h.ccells hc
  have hrow := (h.conn c hc).2
  obtain ⟨va, vc, hv, hvc, hvm, hvn⟩ := row_slice hrow
  have HROW := Lib.hid hrow
  have HX := Lib.hid hx
  have HN := Lib.hid hn
  have HA := Lib.hid hA
  have HL := Lib.hid hlen
  have H := Lib.hid h
  have HC := Lib.hid hc
  have HV := Lib.hid hv
  rw [hv] at d1
  obtain ⟨cl, hcl⟩ : ∃ cl, cl = c.b.length := ⟨_, rfl⟩
  rw [← hcl] at d1
  have HROW2 : Hid (w.ownsRow 0 5 1 (.slice va cl vc) c.b.length (c.b.map byteV)) := Lib.hid (by rw [hcl, ← hv]; exact hrow)
  have hob : (Value.slice va cl vc).ownBlock = c.v.ownBlock := by rw [hv]; cases va <;> rfl
  have HOB := Lib.hid hob
  have HCL := Lib.hid hcl
  have hvm2 : vc ≤ 9223372036854775807 := by unfold maxLen at hvm; omega
  rw [← hcl] at hvc
  clear h hf ha hrow hx hA hlen hc hv hcl hvn hvm d0 hn hob
  go_enter Try.func15, Try.ntmps15
  go_wp2_with fail
  refine C.out.mono ?_
  rintro e w1 ⟨rfl, rfl⟩
  clear C
  go_wp2_with (at_builtin; (with_reducible refine wpList_append_row rfl _ _ rfl (.slice va cl vc) c.b rfl HROW2.out A cc n x rfl HN.out HX.out HA.out HL.out ?_))
  intro v' w2 hrow2 hg hfr
  rw [HOB.out] at hg hfr
  replace hrow2 : w2.ownsRow 0 5 1 v' (c.b ++ x).length ((c.b ++ x).map byteV) := by rw [List.length_append, List.map_append]; exact hrow2
  obtain ⟨va', vc', hv', -, -, -⟩ := row_slice hrow2
  generalize (c.b ++ x).length = nl at hv'
  have h := H.out
  have hc := HC.out
  have r1 : w2.heap[c.g]? = some (.cells #[.int .i64 c.addr, c.v] 84 (0, 0)) := (hg.block _ (nsome_lt (h.conn c hc).1) (fun e => h.gv hc hc e.symm)).trans (h.conn c hc).1
  have x1 := (cell_of_row _ _ 1 _ _ _ r1).trans rfl
  have z1 : w2.frozen? ⟨c.g, 1, none⟩ = false := frozen_of_row _ _ _ _ _ r1
  have hne : ∀ k, v'.ownBlock = some k → k ≠ c.g := fun k e e' => by
    rcases hfr k e with e2 | e2
    · exact h.gv hc hc (e' ▸ e2)
    · have := nsome_lt (h.conn c hc).1; omega
  obtain ⟨h3, hF3⟩ := h.onConn hc (w' := w2.setCell ⟨c.g, 1, none⟩ v') (v' := v') (b' := c.b ++ x)
    (fun k hk h1 h2 => (Below.heap_setCell _ _ _ _ h1).trans (hg.block k (h.lt hk) (fun e => h2 e.symm)))
    (row_set _ r1) (nrow_block hrow2 fun k e => Below.heap_setCell _ _ _ _ (hne k e)) hfr
  have hm2 : Mod (FootN p m L) w1 w2 := Mod.grown hg (fun k e => .inr (.inr ⟨c, hc, .inr e⟩))
  have hm3 : Mod (FootN p m L) w1 (w2.setCell ⟨c.g, 1, none⟩ v') := hm2.trans (S' := fun k => k = c.g) ⟨rfl, rfl, rfl, by simp, fun i _ hn => Below.heap_setCell _ _ _ _ hn⟩ (fun i e => .inl (.inr (.inr ⟨c, hc, .inl e⟩)))
  have AF : Hid (AftN p m N last L (fun L' => ∃ v', L' = setC L { c with v := v', b := c.b ++ x }) w1 (w2.setCell ⟨c.g, 1, none⟩ v')) := Lib.hid ⟨_, ⟨v', rfl⟩, h3, hm3, hF3⟩
  clear h3 hF3 hm2 hm3 hne r1 hg hfr hrow2 h hc HROW2 d1 HV
  subst hv'
  go_wp2_with fail
  go_ret
  exact ⟨rfl, AF.out⟩
theorem Take_no (w : World) (h : NetS p m N last L w) (a : Int) (ha : I64n a) (hf : fnd L a = none) : Calls Try.prog 17 #[.pointer (some ⟨p, 0, none⟩), .int .i64 a] w fun e w' => e = .returned (.tuple #[.slice none 0 0, .int .i64 150]) ∧ w' = w := by
  have C := Lib.hid (find_no w h a ha hf)
  clear h hf
  go_enter Try.func17, Try.ntmps17
  go_wp2_with fail
  refine C.out.mono ?_
  rintro e w1 ⟨rfl, rfl⟩
  go_wp2_with fail
  go_ret2
  exact ⟨rfl, rfl⟩
set_option maxHeartbeats 1000000 in
theorem Take_yes (w : World) (h : NetS p m N last L w) (a : Int) (ha : I64n a) {c : Cn} (hf : fnd L a = some c) (hlen : c.b.length ≤ 140737488351232) :
    Calls Try.prog 17 #[.pointer (some ⟨p, 0, none⟩), .int .i64 a] w fun e w' => ∃ v', e = .returned (.tuple #[v', .int .i64 0]) ∧ w'.ownsRow w.heap.size 5 1 v' c.b.length (c.b.map byteV) ∧ ∃ L', (∃ v2, L' = setC L { c with v := v2, b := [] }) ∧ NetS p m N last L' w' ∧ Mod (FootN p m L) w w' ∧ ∀ k, FootN p m L' k → FootN p m L k := by
  have C := Lib.hid (find_yes w h a ha hf)
  have hc := (fnd_some hf).1
  obtain ⟨d0, d1⟩ := h.ccells hc
  have hrow := (h.conn c hc).2
  obtain ⟨va, vc, hv, hvc, hvm, hvn⟩ := row_slice hrow
  obtain ⟨va', vc', hv', _, _, _, hbys⟩ := row_bys hrow
  have ev : va' = va := by rw [hv] at hv'; injection hv' with e; exact e.symm
  rw [ev] at hbys
  have CW := Lib.hid (CloneW_any va c.b c.b.length vc w hbys rfl hlen (fun q e h0 => by
    subst e
    rcases hrow.2 with ⟨e2, _⟩ | ⟨g, cap, cur, e2, _, hh, _⟩
    · rw [hv] at e2; cases e2
    · rw [hv] at e2; injection e2 with e2; injection e2 with e2; subst e2
      exact nsome_lt hh))
  rw [hv] at hrow d1
  have hcut := row_cut hrow
  have HRC := Lib.hid hcut
  have H := Lib.hid h
  have HC := Lib.hid hc
  have HV := Lib.hid hv
  have hvm2 : vc ≤ 9223372036854775807 := by unfold maxLen at hvm; omega
  have D1 := Lib.hid d1
  obtain ⟨cl, hcl⟩ : ∃ cl, cl = c.b.length := ⟨_, rfl⟩
  rw [← hcl] at d1 hvc
  have CW2 : Hid (Calls Try.prog 40 #[.slice va cl vc] w fun e w' => ∃ v', e = .returned v' ∧ w'.ownsRow w.heap.size 5 1 v' c.b.length (c.b.map byteV) ∧ Below w.heap.size w w' ∧ CV v' va) := Lib.hid (by rw [hcl]; exact CW.out)
  have HCL := Lib.hid hcl
  have hva : va = none ∨ ∃ g, va = some ⟨g, 0, none⟩ := by
    rcases hrow.2 with ⟨e2, _⟩ | ⟨g, cap, cur, e2, _⟩
    · injection e2 with e2; exact .inl e2
    · injection e2 with e2; exact .inr ⟨g, e2⟩
  have hcl0 : va = none → vc = 0 := hvn
  clear h hf ha hrow hlen hc hv hv' hbys hcut hcl CW hvm d0 ev hvn
  go_enter Try.func17, Try.ntmps17
  go_wp2_with fail
  refine C.out.mono ?_
  rintro e w1 ⟨rfl, rfl⟩
  clear C
  go_wp2_with fail
  refine CW2.out.mono ?_
  rintro e w2 ⟨v', rfl, hown, b2, hcv⟩
  have h := H.out
  have hc := HC.out
  have h2 := h.below b2
  have r1 := (h2.conn c hc).1
  have x1 := (cell_of_row _ _ 1 _ _ _ r1).trans rfl
  have x1' : w2.cell? ⟨c.g, 1, none⟩ = some (.slice va cl vc) := cell_on d1 b2
  have z1 : w2.frozen? ⟨c.g, 1, none⟩ = false := frozen_of_row _ _ _ _ _ r1
  have hrc2 : w2.ownsRow 0 5 1 (.slice va 0 vc) 0 [] := nrow_block HRC.out fun k e => b2.block k (by obtain ⟨cur, hcur⟩ := nrow_lt HRC.out e; exact nsome_lt hcur)
  have hob : (Value.slice va 0 vc).ownBlock = c.v.ownBlock := by rw [HV.out]; cases va <;> rfl
  obtain ⟨h3, hF3⟩ := h2.onConn hc (w' := w2.setCell ⟨c.g, 1, none⟩ (.slice va 0 vc)) (v' := .slice va 0 vc) (b' := [])
    (fun k hk h1 _ => (Below.heap_setCell _ _ _ _ h1))
    (row_set _ r1) (nrow_block hrc2 fun k e => Below.heap_setCell _ _ _ _ (fun e' => h.gv hc hc (by rw [← hob, e, e']))) (fun k e => .inl (by rw [← hob]; exact e))
  have hF4 : ∀ k, FootN p m (setC L { c with v := .slice va 0 vc, b := [] }) k → FootN p m L k := by
    intro k hk
    rcases hk with e | e | ⟨d, hd, e⟩
    · exact .inl e
    · exact .inr (.inl e)
    · rcases (mem_setC (x := { c with v := .slice va 0 vc, b := [] }) ⟨c, hc, rfl⟩).1 hd with rfl | ⟨hd, _⟩
      · rcases e with e | e
        · exact .inr (.inr ⟨c, hc, .inl e⟩)
        · exact .inr (.inr ⟨c, hc, .inr (by rw [← hob]; exact e)⟩)
      · exact .inr (.inr ⟨d, hd, e⟩)
  have hm3 : Mod (FootN p m L) w1 (w2.setCell ⟨c.g, 1, none⟩ (.slice va 0 vc)) := (Mod.below (S := FootN p m L) b2).trans (S' := fun k => k = c.g) ⟨rfl, rfl, rfl, by simp, fun i _ hn => Below.heap_setCell _ _ _ _ hn⟩ (fun i e => .inl (.inr (.inr ⟨c, hc, .inl e⟩)))
  have hown2 : (w2.setCell ⟨c.g, 1, none⟩ (.slice va 0 vc)).ownsRow w1.heap.size 5 1 v' c.b.length (c.b.map byteV) := nrow_block hown fun k e => Below.heap_setCell _ _ _ _ (fun e' => by
    have h5 := nsome_lt (h.conn c hc).1
    rcases hown.2 with ⟨e2, _⟩ | ⟨g, cap, cur, e2, hb, _⟩
    · rw [e2] at e; cases e
    · rw [e2] at e; simp [Value.ownBlock] at e; dsimp only at e'; omega)
  have AF : Hid ((w2.setCell ⟨c.g, 1, none⟩ (.slice va 0 vc)).ownsRow w1.heap.size 5 1 v' c.b.length (c.b.map byteV) ∧ ∃ L', (∃ v2, L' = setC L { c with v := v2, b := [] }) ∧ NetS p m N last L' (w2.setCell ⟨c.g, 1, none⟩ (.slice va 0 vc)) ∧ Mod (FootN p m L) w1 (w2.setCell ⟨c.g, 1, none⟩ (.slice va 0 vc)) ∧ ∀ k, FootN p m L' k → FootN p m L k) := Lib.hid ⟨hown2, _, ⟨_, rfl⟩, h3, hm3, hF4⟩
  clear h3 hF3 hm3 h2 r1 h hc hrc2 hob hown b2 hF4 hown2 d1 D1 HV HCL x1
  rcases hva with rfl | ⟨g, rfl⟩
  · obtain rfl := hcl0 rfl
    go_wp2_with fail
    go_ret2
    exact ⟨v', rfl, AF.out⟩
  · clear hcl0
    go_wp2_with fail
    go_ret2
    exact ⟨v', rfl, AF.out⟩
end
end Go.Proofs.Ytabclpffjpcejaa
