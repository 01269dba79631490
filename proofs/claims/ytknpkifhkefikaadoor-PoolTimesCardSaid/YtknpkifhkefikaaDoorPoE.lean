/-
  The landed pool: Ask on a fresh pool.
-/
import Derived.Test.YtknpkifhkefikaaDoorPoB
import Derived.Test.YtknpkifhkefikaaDoorPoD
import Derived.Deep.RegionHeld3
namespace Go.Proofs.YtknpkifhkefikaaDoor
open Go.RowKit Go.Maps
set_option linter.unusedVariables false
set_option maxRecDepth 100000
attribute [local go_sem ↓] exec_loadQu exec_storeOq

theorem madeP_yes (g n m1 m2 : Nat) (x : Value) (w : World) (hr : w.heap[g]? = some (.cells #[.pointer (some ⟨n, 0, none⟩), .map (some m1), .map (some m2), x] 107 (0, 0))) : Calls Tryd.prog 56 #[.pointer (some ⟨g, 0, none⟩)] w fun e w' => e = .returned (.bool true) ∧ w' = w := by
  have c0 := (cell_of_row _ _ 0 _ _ _ hr).trans rfl
  clear hr
  go_enter Tryd.func56, Tryd.ntmps56
  go_wp2_with fail
  go_ret
  exact ⟨rfl, rfl⟩
/-- An open question loaded whole; appended. -/
noncomputable def loadOq (v : Value) (w : World) : Result Next := ((Instr.loadAt 124 v).run Tryd.prog w).andThen fun a w' => .ok (.value a) w'
theorem exec_loadOq (ev : Operand → Value) (d : Option Tmp) (x : Operand) (t : TypeId) (p : String) (f : Array Edge) (gd : Option (Nat × Bool)) (w : World) : (execOp ev { dst := d, op := .load 124 x, type := t, pos := p, after := f, guard := gd }).run Tryd.prog w = loadOq (ev x) w := by
  unfold execOp loadOq
  simp only [Sem.run_bind, Sem.run_pure]
theorem loadOq_row {w1 : World} {g : Nat} {C : Array Value} (h : w1.heap[g]? = some (.cells C 124 (0, 0))) (hC : (Tryd.prog.info? 124).map (·.size) = some C.size) : loadOq (.pointer (some ⟨g, 0, none⟩)) w1 = .ok (.value (.agg C)) w1 := by
  unfold loadOq
  simp only [Instr.loadAt, Instr.sureAddr, Sem.run_bind, Sem.run_pure, Result.andThen_ok, run_loadVar_row w1 g 124 124 C (0, 0) _ h Tryd.underlying124 rfl hC]
noncomputable def appO (v u : Value) (ty : TypeId) (w : World) : Result Next := ((Builtin.append_ #[117, 117] ty #[v, u]).run Tryd.prog w).andThen fun a w' => .ok (.value a) w'
theorem exec_appO (ev : Operand → Value) (d : Option Tmp) (x y : Operand) (t : TypeId) (p : String) (f : Array Edge) (w : World) : (execOp ev { dst := d, op := .call { callee := .builtin .append, args := #[x, y], argTypes := #[117, 117] }, type := t, pos := p, after := f, guard := none }).run Tryd.prog w = appO (ev x) (ev y) t w := by
  unfold execOp appO
  simp only [resolve, invoke, builtin, Sem.run_bind, Sem.run_pure, Result.andThen_ok, List.map_toArray, List.map_cons, List.map_nil]
theorem info_oqz : (Tryd.prog.info? 124).map (fun i => (i.zero, i.size, i.bytes)) = some (some (.agg oqZ), 12, 112) := by kernel_rfl
theorem run_app_o (w : World) (ty : TypeId) (b c : Nat) (L : List Value) (hL : L.length = 12) (h1 : ∀ u ∈ L, u.oneCell' = true) (hM : w.rangeAt b 0 L) :
    ∃ v' w', appO (.slice none 0 0) (.slice (some ⟨b, 0, none⟩) 1 c) ty w = .ok (.value v') w' ∧ w'.ownsRow w.heap.size 124 12 v' 1 L ∧ Below w.heap.size w w' := by
  obtain ⟨i0, hi, hz0, hz1, hz2⟩ := info_parts info_oqz
  obtain ⟨v', w', hr, h3, h4, -, h6⟩ := run_append_own_at (P := Tryd.prog) w w.heap.size 117 ty 124 i0 (.agg oqZ) 12 112 Tryd.underlying117 hi hz0 hz1 hz2 rfl (by decide) (.slice none 0 0) 0 [] ⟨rfl, .inl ⟨rfl, rfl⟩⟩ ⟨b, 0, none⟩ 1 c L (by rw [hL]) (fun j u hu => by rw [Addr.add_mid]; exact hM j u hu) h1 (by simp [maxLen]) (by omega) (Nat.le_refl _)
  exact ⟨v', w', by unfold appO; rw [hr]; rfl, h3, Below.grown (Below.refl _ _) h4 (Nat.le_refl _) (fun k hk => by cases hk)⟩
theorem loadQu_row {w1 : World} {g : Nat} {C : Array Value} (h : w1.heap[g]? = some (.cells C 44 (0, 0))) (hC : (Tryd.prog.info? 44).map (·.size) = some C.size) : loadQu (.pointer (some ⟨g, 0, none⟩)) w1 = .ok (.value (.agg C)) w1 := by
  unfold loadQu
  simp only [Instr.loadAt, Instr.sureAddr, Sem.run_bind, Sem.run_pure, Result.andThen_ok, run_loadVar_row w1 g 44 44 C (0, 0) _ h Tryd.underlying44 rfl hC]
theorem PoF.below {g n m1 m2 : Nat} {w w1 : World} (p : PoF g n m1 m2 w) (hB : Below w.heap.size w w1) : PoF g n m1 m2 w1 := ⟨(hB.block _ (Array.getElem?_eq_some_iff.1 p.r).1).trans p.r, nmap_block p.k1 (hB.block _ p.k1.lt), nmap_block p.k2 (hB.block _ p.k2.lt)⟩
/-- While Ask runs: the pool, the connection, the question's box, the answer's cell. -/
structure AkX (n g m1 m2 gc bq : Nat) (a l : Int) (v : Value) (C : Array Value) (w : World) : Prop where
  r : w.heap[g]? = some (.cells #[.pointer (some ⟨n, 0, none⟩), .map (some m1), .map (some m2), .int .i64 l] 107 (0, 0))
  c : ∃ gr, w.heap[gc]? = some (.cells #[.int .i64 1, .int .i64 a, .pointer (some ⟨gr, 0, none⟩), v] 119 (0, 0))
  q : w.heap[bq]? = some (.cells C 44 (0, 0))
  o : w.heap[bq + 1]? = some (.cells #[.int .i64 0, .int .i64 0, .int .i64 0, .int .i64 0, .string ⟨#[]⟩, .int .i64 0, .int .i64 0] 51 (0, 0))
section
variable {n g m1 m2 gc bq : Nat} {a l : Int} {v : Value} {C : Array Value} {w w1 : World}
theorem AkX.mod {S : Nat → Prop} (h : AkX n g m1 m2 gc bq a l v C w) (k : Mod S w w1) (h1 : ¬ S g) (h2 : ¬ S gc) (h3 : ¬ S bq) (h4 : ¬ S (bq + 1)) : AkX n g m1 m2 gc bq a l v C w1 := by
  obtain ⟨gr, hc⟩ := h.c
  exact ⟨k.row h.r h1, ⟨gr, k.row hc h2⟩, k.row h.q h3, k.row h.o h4⟩
theorem AkX.on (h : AkX n g m1 m2 gc bq a l v C w) (k : Below w.heap.size w w1) : AkX n g m1 m2 gc bq a l v C w1 := h.mod (Mod.below (S := fun _ => False) k) id id id id
theorem AkX.drew (h : AkX n g m1 m2 gc bq a l v C w) : AkX n g m1 m2 gc bq a l v C w.drew := h.on (Below.drew (Below.refl _ _))
theorem AkX.lt (h : AkX n g m1 m2 gc bq a l v C w) : g < w.heap.size ∧ gc < w.heap.size ∧ bq + 1 < w.heap.size := by
  obtain ⟨gr, hc⟩ := h.c
  exact ⟨(Array.getElem?_eq_some_iff.1 h.r).1, (Array.getElem?_eq_some_iff.1 hc).1, (Array.getElem?_eq_some_iff.1 h.o).1⟩
theorem AkX.alloc (h : AkX n g m1 m2 gc bq a l v C w) (o : Obj) : AkX n g m1 m2 gc bq a l v C (w.alloc o) := h.on (Below.alloc (Below.refl _ _) (Nat.le_refl _) _)
theorem AkX.set {W : World} (h : AkX n g m1 m2 gc bq a l v C w) (hW : AkX n g m1 m2 gc bq a l v C W) {k : Nat} (hk : W.heap.size ≤ k) (x : Array Value) : AkX n g m1 m2 gc bq a l v C (w.setRow k x) := by
  obtain ⟨h1, h2, h3⟩ := hW.lt
  obtain ⟨gr, hc⟩ := h.c
  exact ⟨(setRow_other _ _ _ _ (by omega)).trans h.r, ⟨gr, (setRow_other _ _ _ _ (by omega)).trans hc⟩, (setRow_other _ _ _ _ (by omega)).trans h.q, (setRow_other _ _ _ _ (by omega)).trans h.o⟩
theorem AkX.set' (h : AkX n g m1 m2 gc bq a l v C w) (o : Obj) (x : Array Value) : AkX n g m1 m2 gc bq a l v C ((w.alloc o).setRow w.heap.size x) := (h.alloc o).set h (Nat.le_refl _) x
theorem AkX.c0 (h : AkX n g m1 m2 gc bq a l v C w) : w.cell? ⟨gc, 0, none⟩ = some (.int .i64 1) := by obtain ⟨gr, hc⟩ := h.c; exact (cell_of_row _ _ 0 _ _ _ hc).trans rfl
theorem AkX.c3 (h : AkX n g m1 m2 gc bq a l v C w) : w.cell? ⟨gc, 3, none⟩ = some v := by obtain ⟨gr, hc⟩ := h.c; exact (cell_of_row _ _ 3 _ _ _ hc).trans rfl
theorem AkX.p0 (h : AkX n g m1 m2 gc bq a l v C w) : w.cell? ⟨g, 0, none⟩ = some (.pointer (some ⟨n, 0, none⟩)) := (cell_of_row _ _ 0 _ _ _ h.r).trans rfl
theorem AkX.p3 (h : AkX n g m1 m2 gc bq a l v C w) : w.cell? ⟨g, 3, none⟩ = some (.int .i64 l) := (cell_of_row _ _ 3 _ _ _ h.r).trans rfl
end
theorem results_ask {c : Value} {tmps : Array Value} {W : World} {g : Nat} {cs : Array Value} (h2 : tmps.getD 10 undef = .pointer (some ⟨g, 0, none⟩)) (h3 : tmps.getD 11 undef = c)
    (r2 : W.heap[g]? = some (.cells cs 51 (0, 0))) (hs : cs.size = 7) :
    (results Tryd.f22 tmps).run Tryd.prog W = .ok (.tuple #[.agg cs, c]) W := by
  have q0 : (loadVar 51 ⟨g, 0, none⟩).run Tryd.prog W = .ok (.agg cs) W := run_loadVar_row W g 51 51 cs (0, 0) _ r2 Tryd.underlying51 rfl (by rw [hs]; exact info_as)
  subst h3
  have h2' : tmps[10]?.getD undef = .pointer (some ⟨g, 0, none⟩) := by simpa using h2
  simp [results, Tryd.results22, asAddr, h2', q0]
attribute [local go_sem ↓] exec_loadOq exec_appO
set_option maxHeartbeats 4000000 in
theorem askF_any (n m g m1 m2 : Nat) (a : Nat) (ha : a ≤ 4294967295) (q : Qu) (draw now : Int) (hd : 0 ≤ draw) (hd2 : draw ≤ 65535) (hq : q.n.length ≤ 255) (w : World) (h : NetS n m 0 0 [] w) (p : PoF g n m1 m2 w) (h1 : n < m1) (h2 : m < m1) (h3 : m1 < m2) (h4 : m2 < g)
    (hk : Masks w) (hkm : ∀ W, Mod (SP n m m1 m2) w W → Masks W) (hc : ∀ id, 0 ≤ id → id ≤ 65535 → canM (qMsg id q) = true) (X : Int → Wt) (hX : ∀ id, encX (qMsg id q) = some (X id)) (hl : ∀ id, (X id).b.length ≤ 65535) :
    Calls Tryd.prog 22 #[.pointer (some ⟨g, 0, none⟩), .int .i64 a, .agg (quC q), .int .i64 draw, .int .i64 now] w fun e w' => e = .returned (.tuple #[.agg (asL 1 1 draw a q).toArray, .int .i64 0]) ∧ (∃ S : Nat → Prop, (∀ i, S i → SP n m m1 m2 i ∨ i = g) ∧ Mod S w w') ∧ ∃ gx v, NetS n m 1 1 [⟨1, a, gx, v, encP (X draw).b⟩] w' ∧ ∀ k, FootN n m [⟨1, a, gx, v, encP (X draw).b⟩] k → k = n ∨ k = m ∨ w.heap.size ≤ k := by
  obtain ⟨C, hC⟩ : ∃ C, C = quC q := ⟨_, rfl⟩
  have MD := Lib.hid (fun W hr => madeP_yes g n m1 m2 (.int .i64 0) W hr)
  have ME := Lib.hid (fun W => message_any 0 q W)
  have EN := Lib.hid (fun g W (hM : Ms W (qMsg 0 q) (qMV g)) (h : Masks W) => Encode_any (qMsg 0 q) (qMV g) W hM h)
  have EX : Hid (canM (qMsg 0 q) = true ∧ encX (qMsg 0 q) = some (X 0)) := Lib.hid ⟨hc 0 (by omega) (by omega), hX 0⟩
  rw [← hC] at ME
  rw [← hC]
  have HCS : (Tryd.prog.info? 44).map (·.size) = some C.size := by rw [hC]; exact info_qu
  have F : ∀ W : World, W.heap[w.heap.size]? = some (.cells C 44 (0, 0)) → loadQu (.pointer (some ⟨w.heap.size, 0, none⟩)) W = .ok (.value (.agg C)) W := fun W h => loadQu_row h HCS
  have HC := Lib.hid hC
  obtain ⟨W0, hW0⟩ : ∃ W0, W0 = (w.alloc (.cells C 44)).alloc (.cells #[.int .i64 0, .int .i64 0, .int .i64 0, .int .i64 0, .string ⟨#[]⟩, .int .i64 0, .int .i64 0] 51) := ⟨_, rfl⟩
  have B0 : Below w.heap.size w W0 := by rw [hW0]; exact Below.alloc (Below.alloc (Below.refl _ _) (Nat.le_refl _) _) (by simp) _
  have rq0 : W0.heap[w.heap.size]? = some (.cells C 44 (0, 0)) := by rw [hW0]; exact row_old _ (row_new _ rfl)
  have ro0 : W0.heap[w.heap.size + 1]? = some (.cells #[.int .i64 0, .int .i64 0, .int .i64 0, .int .i64 0, .string ⟨#[]⟩, .int .i64 0, .int .i64 0] 51 (0, 0)) := by rw [hW0]; exact row_new _ (by simp)
  have p0 := p.below B0
  have hgl : g < w.heap.size := (Array.getElem?_eq_some_iff.1 p.r).1
  have ORD := Lib.hid (And.intro h1 (And.intro h2 (And.intro h3 (And.intro h4 hgl))))
  have HN := Lib.hid h
  have HP := Lib.hid p
  have HK := Lib.hid hk
  have HKM := Lib.hid hkm
  have HXX := Lib.hid hX
  have HCC := Lib.hid hc
  have HLL := Lib.hid hl
  have HW0 := Lib.hid hW0
  clear hC h p h1 h2 h3 h4 hk hkm hX hc hl hgl
  go_enter Tryd.func22, Tryd.ntmps22
  go_wp2_with fail
  rw [← hW0]
  clear hW0
  refine (MD.out _ p0.r).mono ?_
  rintro e w1 ⟨rfl, rfl⟩
  clear MD
  go_wp2_with fail
  refine (ME.out _).mono ?_
  rintro e w2 ⟨gm, rfl, hM, b2⟩
  have EE := Lib.hid (EN.out gm w2 hM ((HK.out.on B0).on b2))
  clear EN ME hM
  generalize msL (qMsg 0 q) (qMV gm) = ml at *
  go_wp2_with fail
  refine EE.out.mono ?_
  rintro e w3 ⟨v, k, rfl, b3, -, -, he⟩
  obtain ⟨rfl, -, -⟩ := he (X 0) EX.out.1 EX.out.2
  have b13 : Below w1.heap.size w1 w3 := Below.trans b2 (b3.mono b2.size)
  have B3 : Below w.heap.size w w3 := Below.trans B0 (b13.mono B0.size)
  have C3 := Lib.hid (free_any n m g m1 m2 a ha w3 (HN.out.below B3) (HP.out.below B3) ORD.out.1 ORD.out.2.1 ORD.out.2.2.1 ORD.out.2.2.2.1)
  clear EE EX he b2 b3
  go_wp2_with fail
  refine C3.out.mono ?_
  rintro e w4 ⟨gc, rfl, hp4, hm4, hgc⟩
  obtain ⟨q1, q2, q3, q4, q5⟩ := ORD.out
  have hs1 := B3.size
  have hs0 : w.heap.size + 2 ≤ w1.heap.size := by rw [HW0.out]; simp
  have hs3 := b13.size
  have A4 : AkX n g m1 m2 gc w.heap.size a 0 (.slice none 0 0) C w4 :=
    ⟨hp4.r, hp4.c, hm4.row ((b13.block _ (by omega)).trans rq0) (fun e => by unfold SP at e; omega), hm4.row ((b13.block _ (by omega)).trans ro0) (fun e => by unfold SP at e; omega)⟩
  obtain ⟨gr, hcr⟩ := A4.c
  have FI := Lib.hid (freeID_any gc _ _ _ draw w4 hcr hd hd2)
  obtain ⟨gx, N4, hx1, hx2⟩ := hp4.net
  have M4 : Mod (SP n m m1 m2) w w4 := (Mod.below (S := SP n m m1 m2) B3).trans hm4 (fun i e => .inl e)
  clear C3 hp4 hm4 hcr p0 rq0 ro0 b13 B3 B0
  go_wp2_with fail
  refine FI.out.mono ?_
  rintro e w5 ⟨rfl, b5⟩
  have A5 := A4.on b5
  have N5 := N4.below b5
  have M5 := M4.then b5
  have hs5 := b5.size
  have hs4 := M4.size
  have hgc5 : gc < w5.heap.size := by obtain ⟨_, hc5⟩ := A5.c; exact (Array.getElem?_eq_some_iff.1 hc5).1
  clear A4 N4 M4 b5 FI
  have KF := Lib.hid (frame_any draw q w5.drew (HKM.out _ M5.drew) (HCC.out draw hd hd2) (X draw) (HXX.out draw) (HLL.out draw))
  have F2 : ∀ W, AkX n g m1 m2 gc w.heap.size a 0 (.slice none 0 0) C W → loadQu (.pointer (some ⟨w.heap.size, 0, none⟩)) W = .ok (.value (.agg C)) W := fun W h => loadQu_row h.q HCS
  have F3 : ∀ W, AkX n g m1 m2 gc w.heap.size a 0 (.slice none 0 0) C W → W.cell? ⟨g, 0, none⟩ = some (.pointer (some ⟨n, 0, none⟩)) := fun W h => h.p0
  have F4 : ∀ W, AkX n g m1 m2 gc w.heap.size a 0 (.slice none 0 0) C W → W.cell? ⟨gc, 0, none⟩ = some (.int .i64 1) := fun W h => h.c0
  rw [← HC.out] at KF
  generalize hxx : encP (X draw).b = x at *
  have hxl : x.length ≤ 65537 := by rw [← hxx]; simp [encP]; have := HLL.out draw; omega
  have HXL := Lib.hid hxl
  have HXQ := Lib.hid hxx
  have N5d : NetS n m 1 1 [⟨1, a, gx, .slice none 0 0, []⟩] w5.drew := N5.below (Below.drew (Below.refl _ _))
  have KW : Hid (∀ (W : World) A cp, Below w5.drew.heap.size w5.drew W → Sl W A cp x → AkX n g m1 m2 gc w.heap.size a 0 (.slice none 0 0) C W → Calls Tryd.prog 55 #[.pointer (some ⟨n, 0, none⟩), .int .i64 1, .slice A x.length cp] W fun e w' => e = .returned (.int .i64 0) ∧ AkX n g m1 m2 gc w.heap.size a 0 (.slice none 0 0) C w' ∧ (∃ v, NetS n m 1 1 [⟨1, a, gx, v, x⟩] w' ∧ ∀ k, FootN n m [⟨1, a, gx, v, x⟩] k → k = n ∨ k = m ∨ k = gx ∨ w5.heap.size ≤ k) ∧ Mod (fun k => SP n m m1 m2 k ∨ k = gx) W w') := Lib.hid (fun W A cp hB hS hA => by
    refine (Write_yes W (N5d.below hB) 1 ⟨by omega, by omega⟩ (c := ⟨1, a, gx, .slice none 0 0, []⟩) rfl A x x.length cp rfl hS.bys hS.nil (by simp; omega)).mono ?_
    rintro e w' ⟨rfl, L', ⟨v', rfl⟩, N', M', FF⟩
    have ft : ∀ k, FootN n m [⟨1, a, gx, .slice none 0 0, []⟩] k → k = n ∨ k = m ∨ k = gx := fun k hk => by
      rcases hk with e | e | ⟨c, hc, e⟩
      · exact .inl e
      · exact .inr (.inl e)
      · rw [List.mem_singleton] at hc
        subst hc
        rcases e with e | e
        · exact .inr (.inr e)
        · cases e
    refine ⟨rfl, hA.mod M' (fun e => by have := ft _ e; omega) (fun e => by have := ft _ e; omega) (fun e => by have := ft _ e; omega) (fun e => by have := ft _ e; omega), ⟨v', ?_, fun k hk => ?_⟩, M'.wide (fun i hi => by unfold SP; have := ft _ hi; omega)⟩
    · simpa [setC] using N'
    · rcases FF k (by simpa [setC] using hk) with e | e
      · have := ft _ e; omega
      · have := hB.size; have : w5.drew.heap.size = w5.heap.size := rfl; omega)
  have HA5 := Lib.hid A5
  have HM5 := Lib.hid M5
  clear F N5 N5d hxx hxl
  go_wp2_with fail
  go_region_held3 (fun w' => AkX n g m1 m2 gc w.heap.size a 0 (.slice none 0 0) C w')
    (first | assumption | exact AkX.drew (by assumption) | exact AkX.on (by assumption) (by assumption) | exact AkX.on (AkX.drew (by assumption)) (by assumption))
    (first
      | (go_at_call 60; (with_reducible refine KF.out.mono ?_); rintro e w6 ⟨v6, rfl, o6, b6⟩; obtain ⟨A6, cp6, rfl, S6⟩ := o6.bysN; have A6x := AkX.on (AkX.drew A5) b6)
      | (go_at_call 55; (with_reducible refine (KW.out _ _ _ (by assumption) (by assumption) (by assumption)).mono ?_); rintro e w7 ⟨rfl, A7, N7, M7⟩))
  obtain ⟨v7, N7, FT7⟩ := N7
  have hs6 := b6.size
  have hs7 := M7.size
  have hd5 : w5.drew.heap.size = w5.heap.size := rfl
  have M57 : Mod (SP n m m1 m2) w w7 := (M5.drew.then b6).trans M7 (fun i e => by rcases e with e | e; exact .inl e; exact .inr (by omega))
  have e3 := A7.p3
  have z3 : w7.frozen? ⟨g, 3, none⟩ = false := frozen_of_row _ _ _ _ _ A7.r
  obtain ⟨w8, hw8⟩ : ∃ w8, w8 = w7.setCell ⟨g, 3, none⟩ (.int .i64 1) := ⟨_, rfl⟩
  have M8 : Mod (fun k => k = g ∨ k = gc ∨ k = w.heap.size + 1) w7 w8 := by
    rw [hw8]
    exact ⟨rfl, rfl, rfl, by simp, fun i _ hn => Below.heap_setCell _ _ _ _ (fun e => hn (.inl e))⟩
  have A8 : AkX n g m1 m2 gc w.heap.size a 1 (.slice none 0 0) C w8 := by
    obtain ⟨gr8, hc8⟩ := A7.c
    refine ⟨by rw [hw8]; exact row_set _ A7.r, ⟨gr8, by rw [hw8]; exact (Below.heap_setCell _ _ _ _ (by show gc ≠ g; omega)).trans hc8⟩, ?_, ?_⟩
    · rw [hw8]; exact (Below.heap_setCell _ _ _ _ (by show w.heap.size ≠ g; omega)).trans A7.q
    · rw [hw8]; exact (Below.heap_setCell _ _ _ _ (by show w.heap.size + 1 ≠ g; omega)).trans A7.o
  have HW8 := Lib.hid hw8
  have HN7 := Lib.hid N7
  have HFT7 := Lib.hid FT7
  have HM57 := Lib.hid M57
  have HM8 := Lib.hid M8
  obtain ⟨qn, qt, qc⟩ := q
  have F5 : ∀ W, AkX n g m1 m2 gc w.heap.size a 1 (.slice none 0 0) C W → loadQu (.pointer (some ⟨w.heap.size, 0, none⟩)) W = .ok (.value (.agg #[.string (bs qn), .int .i64 qt, .int .i64 qc])) W := fun W h => by rw [loadQu_row h.q HCS, HC.out]; rfl
  have F6 : ∀ W, AkX n g m1 m2 gc w.heap.size a 1 (.slice none 0 0) C W → W.cell? ⟨g, 3, none⟩ = some (.int .i64 1) := fun W h => h.p3
  have F7 : ∀ W, AkX n g m1 m2 gc w.heap.size a 1 (.slice none 0 0) C W → W.cell? ⟨gc, 0, none⟩ = some (.int .i64 1) := fun W h => h.c0
  clear F2 F3 F4 KF KW A5 M5 b6 S6 o6 A6x A7 N7 FT7 M7 M57 M8 hw8 hs6 hs7 hd5 HXX HCC HLL HKM HK HXL HA5 HM5
  go_wp2_with fail
  rw [← HW8.out]
  have KN := Lib.hid (fun W => newQ_any 1 1 draw a ⟨qn, qt, qc⟩ now W hq)
  have KC := Lib.hid (fun W => copyO_any 1 1 draw a ⟨qn, qt, qc⟩ now W hq)
  have hIo := info_oq
  have hIa := info_as
  simp only [asL, oqL, tiL, List.cons_append, List.nil_append] at KN KC ⊢
  generalize lower qn = ln at KN KC
  have F8 : ∀ (W : World), storeOq (.pointer (some ⟨W.heap.size, 0, none⟩)) (.agg #[.int .i64 1, .int .i64 1, .int .i64 draw, .int .i64 a, .string (bs qn), .int .i64 qt, .int .i64 qc, .int .i64 draw, .string (bs ln), .int .i64 qt, .int .i64 qc, .int .i64 now]) (W.alloc (.cells #[.int .i64 0, .int .i64 0, .int .i64 0, .int .i64 0, .string ⟨#[]⟩, .int .i64 0, .int .i64 0, .int .i64 0, .string ⟨#[]⟩, .int .i64 0, .int .i64 0, .int .i64 0] 124)) = .ok .skip ((W.alloc (.cells #[.int .i64 0, .int .i64 0, .int .i64 0, .int .i64 0, .string ⟨#[]⟩, .int .i64 0, .int .i64 0, .int .i64 0, .string ⟨#[]⟩, .int .i64 0, .int .i64 0, .int .i64 0] 124)).setRow W.heap.size #[.int .i64 1, .int .i64 1, .int .i64 draw, .int .i64 a, .string (bs qn), .int .i64 qt, .int .i64 qc, .int .i64 draw, .string (bs ln), .int .i64 qt, .int .i64 qc, .int .i64 now]) := fun W => storeOq_row (row_new _ rfl) rfl rfl (by simp [Value.oneCell'])
  have F9 : ∀ (W : World), W.heap[w8.heap.size]? = some (.cells #[.int .i64 0, .int .i64 0, .int .i64 0, .int .i64 0, .string ⟨#[]⟩, .int .i64 0, .int .i64 0, .int .i64 0, .string ⟨#[]⟩, .int .i64 0, .int .i64 0, .int .i64 0] 124 (0, 0)) → storeOq (.pointer (some ⟨w8.heap.size, 0, none⟩)) (.agg #[.int .i64 1, .int .i64 1, .int .i64 draw, .int .i64 a, .string (bs qn), .int .i64 qt, .int .i64 qc, .int .i64 draw, .string (bs ln), .int .i64 qt, .int .i64 qc, .int .i64 now]) W = .ok .skip (W.setRow w8.heap.size #[.int .i64 1, .int .i64 1, .int .i64 draw, .int .i64 a, .string (bs qn), .int .i64 qt, .int .i64 qc, .int .i64 draw, .string (bs ln), .int .i64 qt, .int .i64 qc, .int .i64 now]) := fun W h => storeOq_row h rfl rfl (by simp [Value.oneCell'])
  go_region_held3 (fun w' => AkX n g m1 m2 gc w.heap.size a 1 (.slice none 0 0) C w')
    (first | assumption | exact AkX.drew (by assumption) | exact AkX.alloc (by assumption) _ | exact AkX.on (by assumption) (by assumption) | exact AkX.on (AkX.drew (by assumption)) (by assumption) | exact AkX.on (AkX.drew (AkX.alloc (by assumption) _)) (by assumption) | exact AkX.on (AkX.alloc (AkX.drew (by assumption)) _) (by assumption) | exact AkX.set' (by assumption) _ _ | exact AkX.set hX9 A8 (Nat.le_refl _) _)
    (first
      | (go_at_call 61; (with_reducible refine (KN.out _).mono ?_); rintro e w9 ⟨rfl, hBx⟩; (first | (have hX9 := AkX.on (AkX.drew A8) hBx) | (have hX9 := AkX.on (AkX.drew (AkX.alloc A8 _)) hBx) | (have hX9 := AkX.on (AkX.alloc (AkX.drew A8) _) hBx)); first | (have hZ : w9.heap[w8.heap.size]? = some (.cells #[.int .i64 0, .int .i64 0, .int .i64 0, .int .i64 0, .string ⟨#[]⟩, .int .i64 0, .int .i64 0, .int .i64 0, .string ⟨#[]⟩, .int .i64 0, .int .i64 0, .int .i64 0] 124 (0, 0)) := late_row hBx) | (have hZ : w9.heap[w8.heap.size]? = some (.cells #[.int .i64 0, .int .i64 0, .int .i64 0, .int .i64 0, .string ⟨#[]⟩, .int .i64 0, .int .i64 0, .int .i64 0, .string ⟨#[]⟩, .int .i64 0, .int .i64 0, .int .i64 0] 124 (0, 0)) := late_row_d hBx) | skip))
  all_goals
    have b89 : Below w8.heap.size w8 w9 := by
      first
        | exact Below.trans (Below.drew (Below.refl _ _)) hBx
        | exact Below.trans (Below.drew (Below.alloc (Below.refl _ _) (Nat.le_refl _) _)) (hBx.mono (by simp))
        | exact Below.trans (Below.alloc (Below.drew (Below.refl _ _)) (Nat.le_refl _) _) (hBx.mono (by simp))
    first
      | (have rO := setRow_heap _ _ _ #[.int .i64 1, .int .i64 1, .int .i64 draw, .int .i64 a, .string (bs qn), .int .i64 qt, .int .i64 qc, .int .i64 draw, .string (bs ln), .int .i64 qt, .int .i64 qc, .int .i64 now] _ _ hZ
         have AA := AkX.set hX9 A8 (Nat.le_refl _) #[.int .i64 1, .int .i64 1, .int .i64 draw, .int .i64 a, .string (bs qn), .int .i64 qt, .int .i64 qc, .int .i64 draw, .string (bs ln), .int .i64 qt, .int .i64 qc, .int .i64 now]
         have MM := Below.setRow b89 (Nat.le_refl _) #[.int .i64 1, .int .i64 1, .int .i64 draw, .int .i64 a, .string (bs qn), .int .i64 qt, .int .i64 qc, .int .i64 draw, .string (bs ln), .int .i64 qt, .int .i64 qc, .int .i64 now]
         have hgo := Nat.le_refl w8.heap.size
         generalize w9.setRow w8.heap.size #[.int .i64 1, .int .i64 1, .int .i64 draw, .int .i64 a, .string (bs qn), .int .i64 qt, .int .i64 qc, .int .i64 draw, .string (bs ln), .int .i64 qt, .int .i64 qc, .int .i64 now] = wa at *
         obtain ⟨go, hgo1⟩ : ∃ go, go = w8.heap.size := ⟨_, rfl⟩
         rw [← hgo1] at rO
         rw [← hgo1]
         replace hgo : w8.heap.size ≤ go := by omega)
      | (have rO := setRow_heap _ _ _ #[.int .i64 1, .int .i64 1, .int .i64 draw, .int .i64 a, .string (bs qn), .int .i64 qt, .int .i64 qc, .int .i64 draw, .string (bs ln), .int .i64 qt, .int .i64 qc, .int .i64 now] _ _ (row_new (w := w9) (.cells #[.int .i64 0, .int .i64 0, .int .i64 0, .int .i64 0, .string ⟨#[]⟩, .int .i64 0, .int .i64 0, .int .i64 0, .string ⟨#[]⟩, .int .i64 0, .int .i64 0, .int .i64 0] 124 (0, 0)) rfl)
         have AA := AkX.set' hX9 (.cells #[.int .i64 0, .int .i64 0, .int .i64 0, .int .i64 0, .string ⟨#[]⟩, .int .i64 0, .int .i64 0, .int .i64 0, .string ⟨#[]⟩, .int .i64 0, .int .i64 0, .int .i64 0] 124) #[.int .i64 1, .int .i64 1, .int .i64 draw, .int .i64 a, .string (bs qn), .int .i64 qt, .int .i64 qc, .int .i64 draw, .string (bs ln), .int .i64 qt, .int .i64 qc, .int .i64 now]
         have MM := Below.setRow (Below.alloc b89 b89.size (.cells #[.int .i64 0, .int .i64 0, .int .i64 0, .int .i64 0, .string ⟨#[]⟩, .int .i64 0, .int .i64 0, .int .i64 0, .string ⟨#[]⟩, .int .i64 0, .int .i64 0, .int .i64 0] 124)) b89.size #[.int .i64 1, .int .i64 1, .int .i64 draw, .int .i64 a, .string (bs qn), .int .i64 qt, .int .i64 qc, .int .i64 draw, .string (bs ln), .int .i64 qt, .int .i64 qc, .int .i64 now]
         have hgo := b89.size
         generalize (w9.alloc (.cells #[.int .i64 0, .int .i64 0, .int .i64 0, .int .i64 0, .string ⟨#[]⟩, .int .i64 0, .int .i64 0, .int .i64 0, .string ⟨#[]⟩, .int .i64 0, .int .i64 0, .int .i64 0] 124)).setRow w9.heap.size #[.int .i64 1, .int .i64 1, .int .i64 draw, .int .i64 a, .string (bs qn), .int .i64 qt, .int .i64 qc, .int .i64 draw, .string (bs ln), .int .i64 qt, .int .i64 qc, .int .i64 now] = wa at *
         obtain ⟨go, hgo1⟩ : ∃ go, go = w9.heap.size := ⟨_, rfl⟩
         rw [← hgo1] at rO
         rw [← hgo1]
         replace hgo : w8.heap.size ≤ go := by omega)
    have hl8 := A8.lt
    have hla := (Array.getElem?_eq_some_iff.1 rO).1
    obtain ⟨wb, hwb⟩ : ∃ wb, wb = (wa.alloc (.cells #[.int .i64 1, .int .i64 1, .int .i64 draw, .int .i64 a, .string (bs qn), .int .i64 qt, .int .i64 qc, .int .i64 draw, .string (bs ln), .int .i64 qt, .int .i64 qc, .int .i64 now] 124)).drew := ⟨_, rfl⟩
    have bab : Below wa.heap.size wa wb := by rw [hwb]; exact Below.drew (Below.alloc (Below.refl _ _) (Nat.le_refl _) _)
    have rb : wb.heap[wa.heap.size]? = some (.cells #[.int .i64 1, .int .i64 1, .int .i64 draw, .int .i64 a, .string (bs qn), .int .i64 qt, .int .i64 qc, .int .i64 draw, .string (bs ln), .int .i64 qt, .int .i64 qc, .int .i64 now] 124 (0, 0)) := by rw [hwb]; exact row_drew (row_new _ rfl)
    have AB := AA.on bab
    have rOb : wb.heap[go]? = some (.cells #[.int .i64 1, .int .i64 1, .int .i64 draw, .int .i64 a, .string (bs qn), .int .i64 qt, .int .i64 qc, .int .i64 draw, .string (bs ln), .int .i64 qt, .int .i64 qc, .int .i64 now] 124 (0, 0)) := (bab.block go hla).trans rO
    obtain ⟨v', wc, run1, o1, bbc⟩ := run_app_o wb 117 wa.heap.size 1 (#[.int .i64 1, .int .i64 1, .int .i64 draw, .int .i64 a, .string (bs qn), .int .i64 qt, .int .i64 qc, .int .i64 draw, .string (bs ln), .int .i64 qt, .int .i64 qc, .int .i64 now]).toList rfl (by simp [Value.oneCell']) (fun j u hu => by rw [cell_of_row _ _ (0 + j) _ _ _ rb]; simpa using hu)
    obtain ⟨vb, cap, hv'⟩ : ∃ b cap, v' = .slice (some ⟨b, 0, none⟩) 1 cap := by
      rcases o1.2 with ⟨_, e⟩ | ⟨b, cap, cur, e, _⟩
      · simp at e
      · exact ⟨b, cap, e⟩
    rw [hv'] at run1
    have AC := AB.on bbc
    have rOc : wc.heap[go]? = some (.cells #[.int .i64 1, .int .i64 1, .int .i64 draw, .int .i64 a, .string (bs qn), .int .i64 qt, .int .i64 qc, .int .i64 draw, .string (bs ln), .int .i64 qt, .int .i64 qc, .int .i64 now] 124 (0, 0)) := (bbc.block go (by have := bab.size; omega)).trans rOb
    have k3a : wa.drew.cell? ⟨gc, 3, none⟩ = some (.slice none 0 0) := AA.drew.c3
    have k3b := AB.c3
    have k3c := AC.c3
    have z3c : wc.frozen? ⟨gc, 3, none⟩ = false := by obtain ⟨_, hc⟩ := AC.c; exact frozen_of_row _ _ _ _ _ hc
    have y1 : loadOq (.pointer (some ⟨go, 0, none⟩)) wa.drew = .ok (.value (.agg #[.int .i64 1, .int .i64 1, .int .i64 draw, .int .i64 a, .string (bs qn), .int .i64 qt, .int .i64 qc, .int .i64 draw, .string (bs ln), .int .i64 qt, .int .i64 qc, .int .i64 now])) wa.drew := loadOq_row (row_drew rO) hIo
    have y2 : loadOq (.pointer (some ⟨go, 0, none⟩)) wb = .ok (.value (.agg #[.int .i64 1, .int .i64 1, .int .i64 draw, .int .i64 a, .string (bs qn), .int .i64 qt, .int .i64 qc, .int .i64 draw, .string (bs ln), .int .i64 qt, .int .i64 qc, .int .i64 now])) wb := loadOq_row rOb hIo
    obtain ⟨wd, hwd⟩ : ∃ wd, wd = wc.setCell ⟨gc, 3, none⟩ (.slice (some ⟨vb, 0, none⟩) 1 cap) := ⟨_, rfl⟩
    have hne : go ≠ gc := by omega
    have y3 : loadOq (.pointer (some ⟨go, 0, none⟩)) wd = .ok (.value (.agg #[.int .i64 1, .int .i64 1, .int .i64 draw, .int .i64 a, .string (bs qn), .int .i64 qt, .int .i64 qc, .int .i64 draw, .string (bs ln), .int .i64 qt, .int .i64 qc, .int .i64 now])) wd := loadOq_row (by rw [hwd]; exact row_other _ rOc hne) hIo
    have od : wd.heap[w.heap.size + 1]? = some (.cells #[.int .i64 0, .int .i64 0, .int .i64 0, .int .i64 0, .string ⟨#[]⟩, .int .i64 0, .int .i64 0] 51 (0, 0)) := by rw [hwd]; exact (Below.heap_setCell _ _ _ _ (by show w.heap.size + 1 ≠ gc; omega)).trans AC.o
    have Md : Mod (fun k => k = g ∨ k = gc ∨ k = w.heap.size + 1) w7 wd := (((HM8.out.then MM).then bab).then bbc).trans (S' := fun k => k = gc) (by rw [hwd]; exact ⟨rfl, rfl, rfl, by simp, fun i _ hn => Below.heap_setCell _ _ _ _ hn⟩) (fun i e => .inl (.inr (.inl e)))
    have HMd := Lib.hid Md
    have HOd := Lib.hid od
    have HWD := Lib.hid hwd
    clear F5 F6 F7 F8 F9 KN hBx hX9 A8 b89 rO AA MM hgo hgo1 hl8 hla bab rb AB rOb o1 bbc hv' AC rOc hne od Md hwd
    subst hwb
    go_wp2_with fail
    go_region
    all_goals
      rw [← HWD.out]
      go_wp2_with fail
      refine (KC.out _).mono ?_
      rintro e we ⟨rfl, be⟩
      have oe := (be.block _ (Array.getElem?_eq_some_iff.1 HOd.out).1).trans HOd.out
      have RF := setRow_heap _ _ _ #[.int .i64 1, .int .i64 1, .int .i64 draw, .int .i64 a, .string (bs qn), .int .i64 qt, .int .i64 qc] _ _ oe
      have Mf : Mod (fun k => k = g ∨ k = gc ∨ k = w.heap.size + 1) w7 (we.setRow (w.heap.size + 1) #[.int .i64 1, .int .i64 1, .int .i64 draw, .int .i64 a, .string (bs qn), .int .i64 qt, .int .i64 qc]) := (HMd.out.then be).trans (S' := fun k => k = w.heap.size + 1) ⟨rfl, rfl, rfl, by rw [size_setRow]; exact Nat.le_refl _, fun i _ hn => setRow_other _ _ _ _ hn⟩ (fun i e => .inl (.inr (.inr e)))
      have NF := HN7.out.mod Mf (fun k hk e => by have := HFT7.out k hk; omega)
      have MF : Mod (fun i => SP n m m1 m2 i ∨ i = g) w (we.setRow (w.heap.size + 1) #[.int .i64 1, .int .i64 1, .int .i64 draw, .int .i64 a, .string (bs qn), .int .i64 qt, .int .i64 qc]) := (HM57.out.wide (S' := fun i => SP n m m1 m2 i ∨ i = g) (fun i e => .inl e)).trans Mf (fun i e => by
        rcases e with e | e | e
        · exact .inl (.inr e)
        · exact .inr (by omega)
        · exact .inr (by omega))
      have HNF := Lib.hid NF
      have HMF := Lib.hid MF
      clear NF MF Mf be
      go_wp2_with (first
        | (refine wpList_store_row rfl 51 (.tmp 10) (.tmp 94) rfl (w.heap.size + 1) #[.int .i64 1, .int .i64 1, .int .i64 draw, .int .i64 a, .string (bs qn), .int .i64 qt, .int .i64 qc] rfl rfl 51 _ oe hIa rfl (by simp [Value.oneCell']) ?_)
        | fail)
      refine bodyPost_ret (v := .tuple #[.agg #[.int .i64 1, .int .i64 1, .int .i64 draw, .int .i64 a, .string (bs qn), .int .i64 qt, .int .i64 qc], .int .i64 0]) (results_ask rfl rfl RF rfl) rfl ?_
      exact ⟨rfl, ⟨_, fun i h => h, HMF.out⟩, gx, v7, by rw [HXQ.out]; exact HNF.out, fun k hk => by
        rw [HXQ.out] at hk
        have := HFT7.out k hk
        omega⟩
end Go.Proofs.YtknpkifhkefikaaDoor
