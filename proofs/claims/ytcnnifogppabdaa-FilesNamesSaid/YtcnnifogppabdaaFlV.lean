/-
  The landed disk's drop, Remove, Rename, Cut.
-/
import Derived.Test.YtcnnifogppabdaaFlI
import Derived.StillTailTactics
namespace Go.Proofs.Ytcnnifogppabdaa
open Go.RowKit Go.Maps
set_option linter.unusedVariables false
set_option maxRecDepth 100000

theorem wpList_del {y : Ly} {D : Dk} {u : Int} {n : Bs} (w : World) {ops : Array Oper} {rest : List Oper} {o : Oper} {a : Act} {Q : Exit → Act → World → Prop} (hgd : o.guard = none) (m x : Operand) (hop : o.op = Op.call { callee := Callee.builtin Builtin.delete, args := #[m, x], argTypes := #[63, 9] })
    (hm : a.eval m = .map (some y.m)) (hx : a.eval x = .string (bs n)) (h : DiskU y D u w) (hn : n.length ≤ maxLen)
    (hK : ∀ w', DiskU y { D with S := rid D.S n } u w' → w.grownBy w' (some y.m) → wpList Try.prog ops Q rest (a.put o.dst (.tuple #[])) w') : wpList Try.prog ops Q (o :: rest) a w := by
  refine wpList_plain hgd fun K' hK' => ?_
  obtain ⟨w', hrun, hg, hD⟩ := h.onRid hn o.type
  unfold Oper.wp
  simp [execOp, hop, resolve, invoke, builtin, hm, hx, hrun, Result.andThen]
  exact hK' _ _ (hK w' hD hg)
theorem not_foot_fb {y : Ly} {D : Dk} {u : Int} {w : World} (h : DiskU y D u w) {f : Fil} (hf : f ∈ D.S) : ¬ Foot y (rid D.S f.n) (y.fb f.n) := by
  rintro (e | e | ⟨g, hg, e | e⟩)
  · exact h.pf hf e.symm
  · exact h.mf hf e.symm
  · obtain ⟨h1, h2⟩ := mem_rid.1 hg
    exact h2 (h.fbi g h1 f hf e.symm)
  · exact h.fv (mem_rid.1 hg).1 hf e
theorem not_foot_v {y : Ly} {D : Dk} {u : Int} {w : World} (h : DiskU y D u w) {f : Fil} (hf : f ∈ D.S) {k : Nat} (hk : (y.v f.n).ownBlock = some k) : ¬ Foot y (rid D.S f.n) k := by
  rintro (e | e | ⟨g, hg, e | e⟩)
  · exact h.pv hf (e ▸ hk)
  · exact h.mv hf (e ▸ hk)
  · exact h.fv hf (mem_rid.1 hg).1 (e ▸ hk)
  · obtain ⟨h1, h2⟩ := mem_rid.1 hg
    exact h2 (h.vi g h1 f hf k e hk)
theorem foot_rid {y : Ly} {S : List Fil} {n : Bs} {k : Nat} (h : Foot y (rid S n) k) : Foot y S k := by
  rcases h with e | e | ⟨g, hg, e⟩
  · exact .inl e
  · exact .inr (.inl e)
  · exact .inr (.inr ⟨g, (mem_rid.1 hg).1, e⟩)
set_option maxHeartbeats 2000000 in
theorem drop_any {y : Ly} {D : Dk} {u : Int} (n : Bs) (w : World) (h : DiskU y D u w) (hn : n.length ≤ 140737488355328) (hu : 0 ≤ u ∧ u ≤ 1125899906842624) (hd : ∀ f ∈ D.S, f.d.length ≤ 1048576) :
    Calls Try.prog 53 #[.pointer (some ⟨y.p, 0, none⟩), .string (bs n)] w fun e w' => e = .returned (.tuple #[]) ∧ DiskU y { D with S := rid D.S n } (u - oldLen D.S n) w' ∧ Only (fun k => k = y.p ∨ k = y.m) w w' := by
  have hml : n.length ≤ maxLen := by unfold maxLen; omega
  have look := h.look n hml
  have c0 := h.cells.1
  cases hfd : find D.S n with
  | none =>
    have e1 : rid D.S n = D.S := rid_miss hfd
    have e2 : oldLen D.S n = 0 := by unfold oldLen; rw [hfd]
    rw [e1, e2]
    rw [ptrOf_none hfd] at look
    have HD : Hid (DiskU y D (u - (0 : Nat)) w) := Lib.hid (by simpa using h)
    clear h hn hu hd hml hfd e1 e2
    go_enter Try.func53, Try.ntmps53
    go_wp2_with fail
    go_end0
    exact ⟨rfl, HD.out, Only.refl _ _⟩
  | some f =>
    obtain ⟨hfS, hfn⟩ := find_some hfd
    obtain rfl : n = f.n := hfn.symm
    have e2 : oldLen D.S f.n = f.d.length := by unfold oldLen; rw [hfd]
    rw [e2]
    rw [ptrOf_some hfd] at look
    have c1 := h.cells.2.1
    have z1 := h.thaw 1
    obtain ⟨fa, fc, hv, hfl, hfm, hfa⟩ := row_slice (h.file f hfS).2
    have fc0 := (h.fcells hfS).1
    rw [hv] at fc0
    have hpf := h.pf hfS
    have hfm2 : fc ≤ 9223372036854775807 := by unfold maxLen at hfm; omega
    have hdl := hd f hfS
    have q1 : IntKind.i64.wrap (u - f.d.length) = u - f.d.length := by rw [IntKind.wrap_i64]; omega
    have hD2 := onUsed h (u - f.d.length)
    have HD := Lib.hid hD2.drew
    have hd0 := hD2.drew.cells.1
    have HML := Lib.hid hml
    clear h hn hu hd hml hfd e2 hD2 hv hfa hfm hdl
    go_enter Try.func53, Try.ntmps53
    go_wp2_with fail
    go_still_tail 12, (by kernel_rfl)
    change wpList _ _ _ _ _ w.drew
    go_wp2_with (at_delete; (with_reducible refine wpList_del _ rfl _ _ rfl rfl rfl HD.out HML.out ?_))
    intro w2 hD3 hg
    have H3 := Lib.hid hD3
    clear hD3
    go_wp2_with fail
    go_end0
    refine ⟨rfl, H3.out, Only.grown (Only.drew (Only.setCell (Only.refl _ _) (.inl (.inl rfl)) _)) hg fun k e => by injection e with e; exact .inl (.inr e.symm)⟩

theorem After.of {y : Ly} {S : List Fil} {D' : Dk} {W w' : World} {F : Nat → Prop} (h : DiskU y D' (used D'.S) w') (ho : Only F W w') (hF : ∀ k, F k → Foot y S k ∨ W.heap.size ≤ k) (hs : ∀ k, Foot y D'.S k → Foot y S k) : After y S D' W w' := ⟨y, rfl, h, ho.mono hF, fun k hk => .inl (hs k hk), Nat.le_succ _⟩
def removeD (D : Dk) (n : Bs) : Int × Dk :=
  if D.fuse = 0 then (62, D) else match find D.S n with
  | none => (60, { D with fuse := burnt D.fuse })
  | some f => (0, { D with S := rid D.S n, fuse := burnt D.fuse })
theorem used_rid_int {S : List Fil} (hU : Uniq S) (n : Bs) : ((used (rid S n) : Nat) : Int) = (used S : Int) - oldLen S n := by
  cases h : find S n with
  | none => rw [rid_miss h]; unfold oldLen; rw [h]; simp
  | some f =>
    have := used_rid hU h
    have e : oldLen S n = f.d.length := by unfold oldLen; rw [h]
    omega
set_option maxHeartbeats 2000000 in
theorem Remove_any {y : Ly} {D : Dk} (n : Bs) (w : World) (h : DiskU y D (used D.S) w) (hok : D.Ok) (hnl : n.length ≤ 140737488355328) :
    Calls Try.prog 25 #[.pointer (some ⟨y.p, 0, none⟩), .string (bs n)] w fun e w' => e = .returned (.int .i64 (removeD D n).1) ∧ After y D.S (removeD D n).2 w w' := by
  have C1 := Lib.hid (made_any w h)
  by_cases hf : D.fuse = 0
  · have hr : removeD D n = (62, D) := by unfold removeD; rw [if_pos hf]
    have HR := Lib.hid hr
    have C3 := Lib.hid (by have := burn_any w h hok.fuse; rw [show burnE D.fuse = 62 by rw [hf]; rfl, show burnF D.fuse = D.fuse by rw [hf]; rfl] at this; exact this)
    clear hr h hok hnl hf
    go_enter Try.func25, Try.ntmps25
    go_wp2_with fail
    with_reducible refine Calls.mono C1.out ?_
    rintro e w1 ⟨rfl, rfl⟩
    go_wp2_with fail
    with_reducible refine Calls.mono C3.out ?_
    rintro e w2 ⟨rfl, hD2, ho2⟩
    have HA2 := Lib.hid (After.same (D' := D) hD2 ho2)
    clear hD2 ho2
    go_wp2_with fail
    go_ret
    rw [HR.out]
    exact ⟨rfl, HA2.out⟩
  · have C3 := Lib.hid (by have := burn_any w h hok.fuse; rw [show burnE D.fuse = 0 by unfold burnE; rw [if_neg hf], show burnF D.fuse = burnt D.fuse by unfold burnF; rw [if_neg hf]] at this; exact this)
    cases hfd : find D.S n with
    | none =>
      have hr : removeD D n = (60, { D with fuse := burnt D.fuse }) := by unfold removeD; rw [if_neg hf, hfd]
      have HR := Lib.hid hr
      clear hr h hok hf
      go_enter Try.func25, Try.ntmps25
      go_wp2_with fail
      with_reducible refine Calls.mono C1.out ?_
      rintro e w1 ⟨rfl, rfl⟩
      go_wp2_with fail
      with_reducible refine Calls.mono C3.out ?_
      rintro e w2 ⟨rfl, hD2, ho2⟩
      have look := hD2.look n (by unfold maxLen; omega)
      rw [ptrOf_none hfd] at look
      have c0 := hD2.cells.1
      have HA2 := Lib.hid (After.same (D' := { D with fuse := burnt D.fuse }) hD2 ho2)
      clear hD2 ho2 hfd hnl
      go_wp2_with fail
      go_ret
      rw [HR.out]
      exact ⟨rfl, HA2.out⟩
    | some f =>
      have hr : removeD D n = (0, { D with S := rid D.S n, fuse := burnt D.fuse }) := by unfold removeD; rw [if_neg hf, hfd]
      have HR := Lib.hid hr
      have hus := used_rid_int h.uq n
      have C4 := Lib.hid (fun W (hW : DiskU y { D with fuse := burnt D.fuse } (used D.S) W) => drop_any n W hW hnl ⟨by omega, by have := hok.used; omega⟩ (fun f hf => (hok.len f hf).1))
      have HUS := Lib.hid hus
      clear hr h hok hf hus
      go_enter Try.func25, Try.ntmps25
      go_wp2_with fail
      with_reducible refine Calls.mono C1.out ?_
      rintro e w1 ⟨rfl, rfl⟩
      go_wp2_with fail
      with_reducible refine Calls.mono C3.out ?_
      rintro e w2 ⟨rfl, hD2, ho2⟩
      have look := hD2.look n (by unfold maxLen; omega)
      rw [ptrOf_some hfd] at look
      have c0 := hD2.cells.1
      have HD2 := Lib.hid hD2
      clear hD2 hfd hnl
      go_wp2_with fail
      with_reducible refine Calls.mono (C4.out _ HD2.out) ?_
      rintro e w4 ⟨rfl, hD4, ho4⟩
      have HA4 : Hid (After y D.S { D with S := rid D.S n, fuse := burnt D.fuse } w w4) := Lib.hid (After.of (by show DiskU y _ (used (rid D.S n) : Nat) _; rw [HUS.out]; exact hD4) (ho2.trans ho4 fun i e => .inl (by rcases e with e | e; exact .inl e; exact .inr (.inl e))) (fun k e => .inl e) (fun k => foot_rid))
      clear hD4 ho4 ho2
      go_wp2_with fail
      go_ret
      rw [HR.out]
      exact ⟨rfl, HA4.out⟩

def renameD (D : Dk) (a b : Bs) : Int × Dk :=
  if canN b = false then (1, D) else if D.fuse = 0 then (62, D) else match find D.S a with
  | none => (60, { D with fuse := burnt D.fuse })
  | some f => (0, { D with S := ins (rid (rid D.S a) b) ⟨b, f.d, f.s⟩, fuse := burnt D.fuse })
set_option maxHeartbeats 2000000 in
theorem Rename_any {y : Ly} {D : Dk} (n b : Bs) (w : World) (h : DiskU y D (used D.S) w) (hok : D.Ok) (hN : y.N < maxLen) (hnl : n.length ≤ 140737488355328) (hbl : b.length ≤ 140737488355328) :
    Calls Try.prog 26 #[.pointer (some ⟨y.p, 0, none⟩), .string (bs n), .string (bs b)] w fun e w' => e = .returned (.int .i64 (renameD D n b).1) ∧ After y D.S (renameD D n b).2 w w' := by
  have C1 := Lib.hid (made_any w h)
  cases hcan : canN b with
  | false =>
    have hr : renameD D n b = (1, D) := by unfold renameD; rw [if_pos hcan]
    have HR := Lib.hid hr
    have C2 := Lib.hid (by have := canName_any b w hbl; rw [hcan] at this; exact this)
    have HD := Lib.hid h
    clear hr h hok hN hnl hbl hcan
    go_enter Try.func26, Try.ntmps26
    go_wp2_with fail
    with_reducible refine Calls.mono C1.out ?_
    rintro e w1 ⟨rfl, rfl⟩
    go_wp2_with fail
    with_reducible refine Calls.mono C2.out ?_
    rintro e w1 ⟨rfl, hB1⟩
    have HB1 := Lib.hid hB1
    clear hB1
    go_wp2_with fail
    go_ret
    rw [HR.out]
    exact ⟨rfl, After.same (HD.out.below HB1.out) (Only.of_below HB1.out)⟩
  | true =>
    have C2 := Lib.hid (by have := canName_any b w hbl; rw [hcan] at this; exact this)
    by_cases hf : D.fuse = 0
    · have hr : renameD D n b = (62, D) := by unfold renameD; rw [if_neg (by rw [hcan]; simp), if_pos hf]
      have HR := Lib.hid hr
      have C3 := Lib.hid (fun W (hB : Below w.heap.size w W) => by have := burn_any W (h.below hB) hok.fuse; rw [show burnE D.fuse = 62 by rw [hf]; rfl, show burnF D.fuse = D.fuse by rw [hf]; rfl] at this; exact this)
      clear hr h hok hN hnl hbl hcan hf
      go_enter Try.func26, Try.ntmps26
      go_wp2_with fail
      with_reducible refine Calls.mono C1.out ?_
      rintro e w1 ⟨rfl, rfl⟩
      go_wp2_with fail
      with_reducible refine Calls.mono C2.out ?_
      rintro e w1 ⟨rfl, hB1⟩
      go_wp2_with fail
      with_reducible refine Calls.mono (C3.out _ hB1) ?_
      rintro e w2 ⟨rfl, hD2, ho2⟩
      have HA2 := Lib.hid (After.ahead (After.same (D' := D) hD2 ho2) (Only.of_below hB1))
      clear hD2 ho2 hB1
      go_wp2_with fail
      go_ret
      rw [HR.out]
      exact ⟨rfl, HA2.out⟩
    · have C3 := Lib.hid (fun W (hB : Below w.heap.size w W) => by have := burn_any W (h.below hB) hok.fuse; rw [show burnE D.fuse = 0 by unfold burnE; rw [if_neg hf], show burnF D.fuse = burnt D.fuse by unfold burnF; rw [if_neg hf]] at this; exact this)
      cases hfd : find D.S n with
      | none =>
        have hr : renameD D n b = (60, { D with fuse := burnt D.fuse }) := by unfold renameD; rw [if_neg (by rw [hcan]; simp), if_neg hf, hfd]
        have HR := Lib.hid hr
        clear hr h hok hf hN hbl hcan
        go_enter Try.func26, Try.ntmps26
        go_wp2_with fail
        with_reducible refine Calls.mono C1.out ?_
        rintro e w1 ⟨rfl, rfl⟩
        go_wp2_with fail
        with_reducible refine Calls.mono C2.out ?_
        rintro e w1 ⟨rfl, hB1⟩
        go_wp2_with fail
        with_reducible refine Calls.mono (C3.out _ hB1) ?_
        rintro e w2 ⟨rfl, hD2, ho2⟩
        have look := hD2.look n (by unfold maxLen; omega)
        rw [ptrOf_none hfd] at look
        have c0 := hD2.cells.1
        have HA2 := Lib.hid (After.ahead (After.same (D' := { D with fuse := burnt D.fuse }) hD2 ho2) (Only.of_below hB1))
        clear hD2 ho2 hfd hnl hB1
        go_wp2_with fail
        go_ret
        rw [HR.out]
        exact ⟨rfl, HA2.out⟩
      | some f =>
        obtain ⟨hfS, hfn⟩ := find_some hfd
        obtain rfl : n = f.n := hfn.symm
        have hr : renameD D f.n b = (0, { D with S := ins (rid (rid D.S f.n) b) ⟨b, f.d, f.s⟩, fuse := burnt D.fuse }) := by unfold renameD; rw [if_neg (by rw [hcan]; simp), if_neg hf, hfd]
        have HR := Lib.hid hr
        have hus : ((used (ins (rid (rid D.S f.n) b) ⟨b, f.d, f.s⟩) : Nat) : Int) = (used D.S : Int) - oldLen (rid D.S f.n) b := by
          have h1 := used_rid_int h.uq f.n
          have h2 := used_rid_int (rid_uniq (n := f.n) h.uq) b
          have h3 := used_ins (rid (rid D.S f.n) b) ⟨b, f.d, f.s⟩
          have h4 : oldLen D.S f.n = f.d.length := by unfold oldLen; rw [hfd]
          simp at h3
          omega
        have hb32 := canN_len hcan
        have C4 := Lib.hid (fun W (hW : DiskU y { D with S := rid D.S f.n, fuse := burnt D.fuse } (used D.S) W) => drop_any b W hW hbl ⟨by omega, by have := hok.used; omega⟩ (fun g hg => (hok.len g (mem_rid.1 hg).1).1))
        have HUS := Lib.hid hus
        have hnone : find (rid (rid D.S f.n) b) b = none := by rw [find_rid (rid_uniq h.uq), if_pos rfl]
        have HNO := Lib.hid hnone
        have HNB := Lib.hid hN
        have HB32 := Lib.hid hb32
        clear hr h hok hf hus hcan hnone hN hb32 hfn
        go_enter Try.func26, Try.ntmps26
        go_wp2_with fail
        with_reducible refine Calls.mono C1.out ?_
        rintro e w1 ⟨rfl, rfl⟩
        go_wp2_with fail
        with_reducible refine Calls.mono C2.out ?_
        rintro e w1 ⟨rfl, hB1⟩
        go_wp2_with fail
        with_reducible refine Calls.mono (C3.out _ hB1) ?_
        rintro e w2 ⟨rfl, hD2, ho2⟩
        have hml : f.n.length ≤ maxLen := by unfold maxLen; omega
        have look := hD2.look f.n hml
        rw [ptrOf_some hfd] at look
        have c0 := hD2.cells.1
        have HO2 : Hid (Only (Foot y D.S) w w2) := Lib.hid ((Only.of_below hB1).trans ho2 fun i e => .inl e)
        have HD2 := Lib.hid hD2
        have HML := Lib.hid hml
        have HFS := Lib.hid hfS
        clear hD2 ho2 hB1 hml hfd hnl hbl hfS
        go_wp2_with (at_delete; (with_reducible refine wpList_del _ rfl _ _ rfl rfl rfl HD2.out HML.out ?_))
        intro w3 hD3 hg3
        have HD3 := Lib.hid hD3
        clear hD3
        go_wp2_with fail
        with_reducible refine Calls.mono (C4.out _ HD3.out) ?_
        rintro e w4 ⟨rfl, hD4, ho4⟩
        have hne4 : ∀ k, k ≠ y.p → k ≠ y.m → k < w2.heap.size → w4.heap[k]? = w2.heap[k]? := fun k h1 h2 h3 => (ho4.block k (Nat.lt_of_lt_of_le h3 hg3.size) (fun e => by rcases e with e | e; exact h1 e; exact h2 e)).trans (hg3.block k h3 (by simpa using h2))
        have hfile := HD2.out.file f HFS.out
        have hNF : NewF y { D with S := rid (rid D.S f.n) b, fuse := burnt D.fuse } b (y.fb f.n) (y.v f.n) f.d f.s w4 := by
          refine ⟨HNO.out, HNB.out, by have := HB32.out; omega, ?_, ?_, ?_, ?_⟩
          · rw [hne4 _ (HD2.out.pf HFS.out).symm (HD2.out.mf HFS.out).symm (some_lt hfile.1)]
            exact hfile.1
          · exact row_block hfile.2 fun k e => hne4 k (fun e' => HD2.out.pv HFS.out (e' ▸ e)) (fun e' => HD2.out.mv HFS.out (e' ▸ e)) (HD2.out.lt (foot_v HFS.out e))
          · intro g hg e
            obtain ⟨h1, h2⟩ := mem_rid.1 (mem_rid.1 hg).1
            exact h2 (HD2.out.fbi g h1 f HFS.out e)
          · intro g hg k e e'
            obtain ⟨h1, h2⟩ := mem_rid.1 (mem_rid.1 hg).1
            exact h2 (HD2.out.vi g h1 f HFS.out k e' e)
        have K := Lib.hid (add_any w4 hD4 hNF)
        have HO4 : Hid (Only (Foot y D.S) w w4) := Lib.hid ((HO2.out.grown hg3 fun k e => by injection e with e; exact .inl (.inr (.inl e.symm))).trans ho4 fun i e => .inl (by rcases e with e | e; exact .inl e; exact .inr (.inl e)))
        clear hD4 hNF hne4 hfile ho4 hg3
        go_wp2_with fail
        with_reducible refine Calls.mono K.out ?_
        rintro e w5 ⟨rfl, hD5, ho5⟩
        have HA5 : Hid (After y D.S { D with S := ins (rid (rid D.S f.n) b) ⟨b, f.d, f.s⟩, fuse := burnt D.fuse } w w5) := Lib.hid ⟨y.more b (y.fb f.n) (y.v f.n), rfl, by show DiskU _ _ (used (ins _ _) : Nat) _; rw [HUS.out]; exact hD5, HO4.out.trans ho5 fun i e => .inl (e ▸ foot_m), fun k hk => by
          rcases hk with e | e | ⟨g, hg, e⟩
          · exact .inl (.inl e)
          · exact .inl (.inr (.inl e))
          · rcases mem_ins.1 hg with rfl | hg
            · simp only [Ly.more, if_true] at e
              rcases e with e | e
              · exact .inl (e ▸ foot_f HFS.out)
              · exact .inl (foot_v HFS.out e)
            · have hgb := (mem_rid.1 hg).2
              simp only [Ly.more, if_neg hgb] at e
              exact .inl (.inr (.inr ⟨g, (mem_rid.1 (mem_rid.1 hg).1).1, e⟩)), Nat.le_refl _⟩
        clear hD5 ho5
        go_wp2_with fail
        go_ret
        rw [HR.out]
        exact ⟨rfl, HA5.out⟩
end Go.Proofs.Ytcnnifogppabdaa
