/-
  The landed pool: dial, free on a fresh pool.
-/
import Derived.Test.YtknpkifhkefikaaDoorPb
import Derived.Test.YtknpkifhkefikaaDoorPoP
import Derived.Maps.AppendAt
import Derived.Deep.RegionLaw
namespace Go.Proofs.YtknpkifhkefikaaDoor
open Go.RowKit Go.Maps
set_option linter.unusedVariables false
set_option maxRecDepth 100000

noncomputable def appP (v u : Value) (ty : TypeId) (w : World) : Result Next := ((Builtin.append_ #[169, 169] ty #[v, u]).run Tryd.prog w).andThen fun a w' => .ok (.value a) w'
theorem exec_appP (ev : Operand → Value) (d : Option Tmp) (x y : Operand) (t : TypeId) (p : String) (f : Array Edge) (w : World) : (execOp ev { dst := d, op := .call { callee := .builtin .append, args := #[x, y], argTypes := #[169, 169] }, type := t, pos := p, after := f, guard := none }).run Tryd.prog w = appP (ev x) (ev y) t w := by
  unfold execOp appP
  simp only [resolve, invoke, builtin, Sem.run_bind, Sem.run_pure, Result.andThen_ok, List.map_toArray, List.map_cons, List.map_nil]
attribute [local go_sem ↓] exec_appP
theorem info_pc : (Tryd.prog.info? 112).map (fun i => (i.zero, i.size, i.bytes)) = some (some (.pointer none), 1, 8) := by kernel_rfl
theorem run_app_p (w : World) (ty : TypeId) (b c g : Nat) (hM : w.cell? ⟨b, 0, none⟩ = some (.pointer (some ⟨g, 0, none⟩))) :
    ∃ v' w', appP (.slice none 0 0) (.slice (some ⟨b, 0, none⟩) 1 c) ty w = .ok (.value v') w' ∧ w'.ownsRow w.heap.size 112 1 v' 1 [.pointer (some ⟨g, 0, none⟩)] ∧ Below w.heap.size w w' := by
  obtain ⟨i0, hi, hz0, hz1, hz2⟩ := info_parts info_pc
  obtain ⟨v', w', hr, h3, h4, -, h6⟩ := run_append_own_at (P := Tryd.prog) w w.heap.size 169 ty 112 i0 (.pointer none) 1 8 Tryd.underlying169 hi hz0 hz1 hz2 rfl (by decide) (.slice none 0 0) 0 [] ⟨rfl, .inl ⟨rfl, rfl⟩⟩ ⟨b, 0, none⟩ 1 c [.pointer (some ⟨g, 0, none⟩)] rfl (fun j u hu => by
    match j, hu with
    | 0, hu => injection hu with hu; subst hu; rw [Addr.add_mid]; exact hM
    | j + 1, hu => simp at hu) (fun u hu => by simp at hu; subst hu; rfl) (by simp [maxLen]) (by omega) (Nat.le_refl _)
  refine ⟨v', w', by unfold appP; rw [hr]; rfl, h3, ?_⟩
  exact Below.grown (Below.refl _ _) h4 (Nat.le_refl _) (fun k hk => by cases hk)
theorem look_s {w : World} {m2 : Nat} (hM : w.ownsMap Tryd.prog 3 slcN m2 0 (.map [])) {a : Int} (ha : I64n a) : (Instr.lookup 105 (.map (some m2)) (.int .i64 a) false).run Tryd.prog w = .ok (.slice none 0 0) w := by
  obtain ⟨v, ps, hrun, hv⟩ := hM.lookup nKey Tryd.underlying105 (zeroSlcN w) (zd := .nil) (zp := []) rfl (keyN ha)
  rw [hrun, slcN_nil hv (by simp [DataW.atKey])]
theorem put_s {w : World} {m2 : Nat} (hM : w.ownsMap Tryd.prog 3 slcN m2 0 (.map [])) {a : Int} (ha : I64n a) {b n c : Nat} : ∃ w', (Instr.mapUpdate 105 (.map (some m2)) (.int .i64 a) (.slice (some ⟨b, 0, none⟩) n c)).run Tryd.prog w = .ok () w' ∧ w.grownBy w' (some m2) := by
  obtain ⟨w', hrun, -, hgr⟩ := hM.update nKey Tryd.underlying105 (by unfold maxLen; omega) (keyN ha) (show slcN (.slice (some ⟨b, 0, none⟩) n c) = some (.lit (.int .i64 b), []) from rfl)
  exact ⟨w', hrun, hgr⟩
theorem put_p {w : World} {m1 : Nat} (hM : w.ownsMap Tryd.prog 3 ptrN m1 0 (.map [])) {a : Int} (ha : I64n a) (b : Nat) : ∃ w', (Instr.mapUpdate 104 (.map (some m1)) (.int .i64 a) (.pointer (some ⟨b, 0, none⟩))).run Tryd.prog w = .ok () w' ∧ w.grownBy w' (some m1) := by
  obtain ⟨w', hrun, -, hgr⟩ := hM.update nKey Tryd.underlying104 (by unfold maxLen; omega) (keyN ha) (ptrN_some b)
  exact ⟨w', hrun, hgr⟩
/-- Behind a fresh pool's first dial: the pool, its connection, the net. -/
structure PoD (n m g m1 m2 gc lo : Nat) (a : Int) (w : World) : Prop where
  r : w.heap[g]? = some (.cells #[.pointer (some ⟨n, 0, none⟩), .map (some m1), .map (some m2), .int .i64 0] 107 (0, 0))
  c : ∃ gr, w.heap[gc]? = some (.cells #[.int .i64 1, .int .i64 a, .pointer (some ⟨gr, 0, none⟩), .slice none 0 0] 119 (0, 0))
  net : ∃ gx, NetS n m 1 1 [⟨1, a, gx, .slice none 0 0, []⟩] w ∧ lo ≤ gx ∧ gx < gc
def SP (n m m1 m2 : Nat) (k : Nat) : Prop := k = n ∨ k = m ∨ k = m1 ∨ k = m2
set_option maxHeartbeats 2000000 in
theorem dial_any (n m g m1 m2 : Nat) (a : Nat) (ha : a ≤ 4294967295) (w : World) (h : NetS n m 0 0 [] w) (p : PoF g n m1 m2 w) (h1 : n < m1) (h2 : m < m1) (h3 : m1 < m2) (h4 : m2 < g) :
    Calls Tryd.prog 99 #[.pointer (some ⟨g, 0, none⟩), .int .i64 a] w fun e w' => ∃ gc, e = .returned (.tuple #[.pointer (some ⟨gc, 0, none⟩), .int .i64 0]) ∧ PoD n m g m1 m2 gc w.heap.size a w' ∧ Mod (SP n m m1 m2) w w' ∧ w.heap.size ≤ gc := by
  have D := Lib.hid (Dial_yes w h (by omega) (by omega) a ha)
  have c0 := (cell_of_row _ _ 0 _ _ _ p.r).trans rfl
  have hgl : g < w.heap.size := (Array.getElem?_eq_some_iff.1 p.r).1
  have Q := Lib.hid (fun W => newP_any W)
  have P := Lib.hid p
  have ORD := Lib.hid (And.intro h1 (And.intro h2 (And.intro h3 (And.intro h4 hgl))))
  clear h p h1 h2 h3 h4 hgl
  go_enter Tryd.func99, Tryd.ntmps99
  go_wp2_with fail
  refine D.out.mono ?_
  rintro e w1 ⟨rfl, L', ⟨gx, rfl⟩, N1, M1, F1⟩
  have hgx : w.heap.size ≤ gx := by
    rcases F1 gx (.inr (.inr ⟨_, List.mem_append_right _ (List.mem_singleton.2 rfl), .inl rfl⟩)) with e | e
    · rcases e with e | e | ⟨c, hc, _⟩
      · have := N1.pg (List.mem_append_right [] (List.mem_singleton.2 rfl)); exact absurd e.symm this
      · have := N1.mg (List.mem_append_right [] (List.mem_singleton.2 rfl)); exact absurd e.symm this
      · cases hc
    · exact e
  clear D F1
  go_wp2_with fail
  refine (Q.out _).mono ?_
  rintro e w2 ⟨gr, rfl, -, b2, hgr⟩
  obtain ⟨q1, q2, q3, q4, q7⟩ := ORD.out
  have p1 := P.out
  have hs1 := M1.size
  have hs2 := b2.size
  have hgx1 : gx < w1.heap.size := N1.lt (.inr (.inr ⟨_, List.mem_append_right _ (List.mem_singleton.2 rfl), .inl rfl⟩))
  have nf : ∀ k, m < k → n < k → ¬ FootN n m [] k := fun k e1 e2 hf => by
    rcases hf with e | e | ⟨c, hc, _⟩
    · omega
    · omega
    · cases hc
  obtain ⟨W3, hW3⟩ : ∃ W3, W3 = w2.alloc (.cells #[.int .i64 1, .int .i64 a, .pointer (some ⟨gr, 0, none⟩), .slice none 0 0] 119) := ⟨_, rfl⟩
  have MA : Mod (FootN n m []) w W3 := by rw [hW3]; exact (M1.then b2).then (Below.alloc (Below.refl _ _) (Nat.le_refl _) _)
  have rp3 := MA.row p1.r (nf g (by omega) (by omega))
  have k13 := nmap_block p1.k1 (MA.block m1 (by omega) (nf m1 (by omega) (by omega)))
  have k23 := nmap_block p1.k2 (MA.block m2 (by omega) (nf m2 (by omega) (by omega)))
  have rc3 : W3.heap[w2.heap.size]? = some (.cells #[.int .i64 1, .int .i64 a, .pointer (some ⟨gr, 0, none⟩), .slice none 0 0] 119 (0, 0)) := by rw [hW3]; exact row_new _ rfl
  have hs3 : W3.heap.size = w2.heap.size + 1 := by rw [hW3]; simp
  obtain ⟨w4, run4, g4⟩ := put_p k13 (a := 1) ⟨by omega, by omega⟩ w2.heap.size
  have hs4 := g4.size
  have k24 := k23.kept g4 (by intro e; injection e with e; omega)
  have rp4 := (g4.block g (by omega) (by intro e; injection e with e; omega)).trans rp3
  have rc4 := (g4.block w2.heap.size (by omega) (by intro e; injection e with e; omega)).trans rc3
  obtain ⟨w5, hw5⟩ : ∃ w5, w5 = (w4.alloc (.cells #[.pointer (some ⟨w2.heap.size, 0, none⟩)] 112)).drew := ⟨_, rfl⟩
  have k25 : w5.ownsMap Tryd.prog 3 slcN m2 0 (.map []) := by rw [hw5]; exact (k24.alloc _).drew
  have b5 : Below w4.heap.size w4 w5 := by rw [hw5]; exact Below.drew (Below.alloc (Below.refl _ _) (Nat.le_refl _) _)
  have c5 : w5.cell? ⟨w4.heap.size, 0, none⟩ = some (.pointer (some ⟨w2.heap.size, 0, none⟩)) := by rw [hw5]; exact (cell_of_row _ _ 0 _ _ _ (row_drew (row_new _ rfl))).trans rfl
  have hs5 := b5.size
  obtain ⟨v6, w6, run6, o6, b6⟩ := run_app_p w5 169 w4.heap.size 1 w2.heap.size c5
  have k26 := nmap_block k25 (b6.block m2 (by omega))
  have hs6 := b6.size
  obtain ⟨b, cap, hv6⟩ : ∃ b cap, v6 = .slice (some ⟨b, 0, none⟩) 1 cap := by
    rcases o6.2 with ⟨_, e⟩ | ⟨b, cap, cur, e, _⟩
    · simp at e
    · exact ⟨b, cap, e⟩
  rw [hv6] at run6
  obtain ⟨w7, run7, g7⟩ := put_s k26 (a := a) ⟨by omega, by omega⟩ (b := b) (n := 1) (c := cap)
  have M37 : Mod (fun k => k = m1 ∨ k = m2) W3 w7 := (((Mod.grown (S := fun k => k = m1 ∨ k = m2) g4 (fun k e => by injection e with e; exact .inl e.symm)).then b5).then b6).trans (Mod.grown (S := fun k => k = m1 ∨ k = m2) g7 (fun k e => by injection e with e; exact .inr e.symm)) (fun i e => .inl e)
  have FIN : PoD n m g m1 m2 w2.heap.size w.heap.size a w7 := by
    refine ⟨M37.row rp3 (fun e => by omega), ⟨gr, M37.row rc3 (fun e => by omega)⟩, ⟨gx, ?_, hgx, by omega⟩⟩
    have N3 := (N1.below b2).below (Below.alloc (o := .cells #[.int .i64 1, .int .i64 a, .pointer (some ⟨gr, 0, none⟩), .slice none 0 0] 119) (Below.refl _ _) (Nat.le_refl _))
    rw [← hW3] at N3
    exact N3.mod M37 (fun k hk e => by
      rcases hk with e1 | e1 | ⟨c, hc, e1⟩
      · omega
      · omega
      · rw [List.nil_append, List.mem_singleton] at hc
        subst hc
        rcases e1 with e1 | e1
        · simp only at e1; omega
        · cases e1)
  have BF : Mod (SP n m m1 m2) w w7 := (MA.wide (S' := SP n m m1 m2) (fun i hi => by
    rcases hi with e | e | ⟨c, hc, _⟩
    · exact .inl e
    · exact .inr (.inl e)
    · cases hc)).trans M37 (fun i e => .inl (.inr (.inr e)))
  have hgc : w.heap.size ≤ w2.heap.size := by omega
  have l4 := look_s (w := w4.drew) k24.drew (a := a) ⟨by omega, by omega⟩
  have l5 := look_s k25 (a := a) ⟨by omega, by omega⟩
  have d3 := (cell_of_row _ _ 1 _ _ _ rp3).trans rfl
  have d4 : w4.drew.cell? ⟨g, 2, none⟩ = some (.map (some m2)) := (cell_of_row _ _ 2 _ _ _ (row_drew rp4)).trans rfl
  have rp5 := (b5.block g (by omega)).trans rp4
  have d5 : w5.cell? ⟨g, 2, none⟩ = some (.map (some m2)) := (cell_of_row _ _ 2 _ _ _ rp5).trans rfl
  have d6 : w6.cell? ⟨g, 2, none⟩ = some (.map (some m2)) := (cell_of_row _ _ 2 _ _ _ ((b6.block g (by omega)).trans rp5)).trans rfl
  have HF := Lib.hid FIN
  have HB := Lib.hid BF
  have HW3 := Lib.hid hW3
  have HW5 := Lib.hid hw5
  clear q1 q2 q3 q4 q7 p1 hs1 hs2 nf MA rp3 k13 k23 rc3 hs3 g4 hs4 k24 rp4 rc4 k25 b5 c5 hs5 o6 b6 k26 hs6 hv6 g7 M37 FIN BF rp5 b2 hgr hgx M1 N1 c0 hW3 Q
  subst hw5
  clear HW5
  rw [HW3.out] at d3 run4
  clear HW3
  go_wp2_with fail
  go_region
  all_goals (go_wp2_with fail; go_ret2; exact ⟨_, rfl, HF.out, HB.out, hgc⟩)
set_option maxHeartbeats 1000000 in
theorem free_any (n m g m1 m2 : Nat) (a : Nat) (ha : a ≤ 4294967295) (w : World) (h : NetS n m 0 0 [] w) (p : PoF g n m1 m2 w) (h1 : n < m1) (h2 : m < m1) (h3 : m1 < m2) (h4 : m2 < g) :
    Calls Tryd.prog 58 #[.pointer (some ⟨g, 0, none⟩), .int .i64 a] w fun e w' => ∃ gc, e = .returned (.tuple #[.pointer (some ⟨gc, 0, none⟩), .int .i64 0]) ∧ PoD n m g m1 m2 gc w.heap.size a w' ∧ Mod (SP n m m1 m2) w w' ∧ w.heap.size ≤ gc := by
  have C := Lib.hid (dial_any n m g m1 m2 a ha w h p h1 h2 h3 h4)
  have c2 := (cell_of_row _ _ 2 _ _ _ p.r).trans rfl
  have l := look_s p.k2 (a := a) ⟨by omega, by omega⟩
  clear h p h1 h2 h3 h4
  go_enter Tryd.func58, Tryd.ntmps58
  go_wp2_with fail
  refine C.out.mono ?_
  rintro e w1 ⟨gc, rfl, hp, hb, hg⟩
  go_wp2_with fail
  go_ret2
  exact ⟨_, rfl, hp, hb, hg⟩
end Go.Proofs.YtknpkifhkefikaaDoor
