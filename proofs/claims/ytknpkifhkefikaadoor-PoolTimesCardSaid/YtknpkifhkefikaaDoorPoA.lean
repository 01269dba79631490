/-
  The landed pool: a question alone as a message; a ticket; a question's copy; an open question.
-/
import Derived.Test.YtknpkifhkefikaaDoorWh
import Derived.Deep.RegionLaw
import Derived.Deep.RegionHeld3
import Derived.Test.YtknpkifhkefikaaDoorGa
import Derived.Deep.MidRow
namespace Go.Proofs.YtknpkifhkefikaaDoor
open Go.RowKit Go.Maps
set_option linter.unusedVariables false
set_option maxRecDepth 100000

def qMsg (id : Int) (q : Qu) : Msg := ⟨⟨id, false, 0, false, false, false, false, 0⟩, [q], [], [], []⟩
def qMV (g : Nat) : MV := ⟨some ⟨g, 0, none⟩, none, none, none, 1, 0, 0, 0⟩
/-- Asked as cells. -/
def asL (tk cn id ad : Int) (q : Qu) : List Value := [.int .i64 tk, .int .i64 cn, .int .i64 id, .int .i64 ad, .string (bs q.n), .int .i64 q.t, .int .i64 q.c]
/-- A ticket as cells. -/
def tiL (id : Int) (q : Qu) : List Value := [.int .i64 id, .string (bs (lower q.n)), .int .i64 q.t, .int .i64 q.c]
/-- An open question as cells. -/
def oqL (tk cn id ad : Int) (q : Qu) (now : Int) : List Value := asL tk cn id ad q ++ (tiL id q ++ [.int .i64 now])
theorem info_ti : (Tryd.prog.info? 122).map (·.size) = some 4 := by kernel_rfl
theorem info_as : (Tryd.prog.info? 51).map (·.size) = some 7 := by kernel_rfl
theorem info_oq : (Tryd.prog.info? 124).map (·.size) = some 12 := by kernel_rfl
theorem as_one (tk cn id ad : Int) (q : Qu) : (asL tk cn id ad q).toArray.all (·.oneCell') = true := by simp [asL, Value.oneCell']
theorem ti_one (id : Int) (q : Qu) : (tiL id q).toArray.all (·.oneCell') = true := by simp [tiL, Value.oneCell']
theorem oq_one (tk cn id ad : Int) (q : Qu) (now : Int) : (oqL tk cn id ad q now).toArray.all (·.oneCell') = true := by simp [oqL, asL, tiL, Value.oneCell']
set_option maxHeartbeats 1000000 in
theorem message_any (id : Int) (q : Qu) (w : World) : Calls Tryd.prog 57 #[.int .i64 id, .agg (quC q)] w fun e w' => ∃ g, e = .returned (.agg (msL (qMsg id q) (qMV g)).toArray) ∧ Ms w' (qMsg id q) (qMV g) ∧ Below w.heap.size w w' := by
  obtain ⟨n, t, c⟩ := q
  simp only [quC, quL]
  have rF : (((w.alloc (.cells #[.string (bs n), .int .i64 t, .int .i64 c] 44)).alloc (.cells (msL (qMsg id ⟨n, t, c⟩) (qMV (w.heap.size + 1 + 1))).toArray 27)).alloc (.cells #[.string (bs n), .int .i64 t, .int .i64 c] 44)).heap[w.heap.size + 1]? = some (.cells (msL (qMsg id ⟨n, t, c⟩) (qMV (w.heap.size + 1 + 1))).toArray 27 (0, 0)) := row_old _ (row_new _ (by simp))
  have rQ : (((w.alloc (.cells #[.string (bs n), .int .i64 t, .int .i64 c] 44)).alloc (.cells (msL (qMsg id ⟨n, t, c⟩) (qMV (w.heap.size + 1 + 1))).toArray 27)).alloc (.cells #[.string (bs n), .int .i64 t, .int .i64 c] 44)).heap[w.heap.size + 1 + 1]? = some (.cells #[.string (bs n), .int .i64 t, .int .i64 c] 44 (0, 0)) := row_new _ (by simp)
  have bF : Below w.heap.size w (((w.alloc (.cells #[.string (bs n), .int .i64 t, .int .i64 c] 44)).alloc (.cells (msL (qMsg id ⟨n, t, c⟩) (qMV (w.heap.size + 1 + 1))).toArray 27)).alloc (.cells #[.string (bs n), .int .i64 t, .int .i64 c] 44)) := Below.alloc (Below.alloc (Below.alloc (Below.refl _ _) (Nat.le_refl _) _) (by simp) _) (by simp; omega) _
  go_enter Tryd.func57, Tryd.ntmps57
  go_wp2_with fail
  refine bodyPost_ret (v := .agg (msL (qMsg id ⟨n, t, c⟩) (qMV (w.heap.size + 1 + 1))).toArray) (results_cell_row (fn := Tryd.f57) (p := 4) (ty := 27) (by kernel_rfl) _ _ (w.heap.size + 1) 27 _ (0, 0) _ rfl rF Tryd.underlying27 rfl info_ms) rfl ?_
  refine ⟨_, rfl, ⟨fun _ => ⟨_, 0, rfl, fun j h => ?_⟩, fun h => absurd h (by simp [qMsg]), fun h => absurd h (by simp [qMsg]), fun h => absurd h (by simp [qMsg]), ⟨by simp [qMsg, qMV], by simp [qMV]⟩, ⟨by simp [qMsg], by simp [qMV]⟩, ⟨by simp [qMsg], by simp [qMV]⟩, ⟨by simp [qMsg], by simp [qMV]⟩⟩, bF⟩
  have hj : j = 0 := by simp [qMsg] at h; omega
  subst hj
  intro k v hv
  have := cell_of_row _ _ (0 + 0 * 3 + k) _ _ _ rQ
  refine this.trans ?_
  simpa [qMsg, quL] using hv
set_option maxHeartbeats 1000000 in
theorem ticketOf_any (id : Int) (q : Qu) (w : World) : Calls Tryd.prog 103 #[.int .i64 id, .agg (quC q)] w fun e w' => e = .returned (.agg (tiL id q).toArray) ∧ Below w.heap.size w w' := by
  obtain ⟨n, t, c⟩ := q
  simp only [quC, quL, tiL]
  have L := Lib.hid (fun W => Lower_any n W)
  have hIt := info_ti
  have hIq := info_qu
  generalize lower n = ln at L ⊢
  go_enter Tryd.func103, Tryd.ntmps103
  go_wp2_with fail
  refine (L.out _).mono ?_
  clear L
  rintro e w2 ⟨rfl, b2⟩
  have s2 : w.heap.size + 2 ≤ w2.heap.size := by have := b2.size; simpa using this
  have r0 := (b2.block w.heap.size (by simp; omega)).trans (row_old _ (row_new _ rfl))
  have r1 := (b2.block (w.heap.size + 1) (by simp)).trans (row_new _ (by simp))
  have bb : Below w.heap.size w w2 := Below.trans (Below.alloc (Below.alloc (Below.refl _ _) (Nat.le_refl _) _) (by simp) _) (b2.mono (by simp; omega))
  have c0 := (cell_of_row _ _ 0 _ _ _ r0).trans rfl
  have z0 := frozen_of_row _ _ 0 _ _ r0
  obtain ⟨W1, hW1⟩ : ∃ W1, W1 = w2.setCell ⟨w.heap.size, 0, none⟩ (.string (bs ln)) := ⟨_, rfl⟩
  have R0 : W1.heap[w.heap.size]? = some (.cells (#[.string (bs ln), .int .i64 t, .int .i64 c] : Array Value) 44 (0, 0)) := by rw [hW1]; exact row_set _ r0
  have R1 := row_other (.string (bs ln)) (i := 0) (g := w.heap.size) r1 (by omega)
  rw [← hW1] at R1
  have b1 : Below w.heap.size w W1 := by rw [hW1]; exact Below.setCell bb (Nat.le_refl _) _
  have RF := setRow_heap _ _ _ (#[.int .i64 id, .string (bs ln), .int .i64 t, .int .i64 c] : Array Value) _ _ R1
  have bF : Below w.heap.size w (W1.setRow (w.heap.size + 1) #[.int .i64 id, .string (bs ln), .int .i64 t, .int .i64 c]) := Below.setRow b1 (by omega) _
  have HW1 := Lib.hid hW1
  have HR0 := Lib.hid R0
  have HR1 := Lib.hid R1
  clear hW1 R0 R1 r0 r1 b2 bb s2 b1
  go_wp2_with (first
    | (refine wpList_load_row rfl 44 (.tmp 3) rfl w.heap.size rfl 44 #[.string (bs ln), .int .i64 t, .int .i64 c] (0, 0) _ (by rw [← HW1.out]; exact HR0.out) Tryd.underlying44 rfl hIq ?_; rw [← HW1.out])
    | (refine wpList_store_row rfl 122 (.tmp 4) (.tmp 11) rfl (w.heap.size + 1) #[.int .i64 id, .string (bs ln), .int .i64 t, .int .i64 c] rfl rfl 122 _ HR1.out hIt rfl (by simp [Value.oneCell']) ?_)
    | fail)
  refine bodyPost_ret (v := .agg #[.int .i64 id, .string (bs ln), .int .i64 t, .int .i64 c]) (results_cell_row (fn := Tryd.f103) (p := 4) (ty := 122) (by kernel_rfl) _ _ (w.heap.size + 1) 122 _ (0, 0) _ rfl RF Tryd.underlying122 rfl hIt) rfl ?_
  exact ⟨rfl, bF⟩
set_option maxHeartbeats 1000000 in
theorem copyO_any (tk cn id ad : Int) (q : Qu) (now : Int) (w : World) (hq : q.n.length ≤ 255) : Calls Tryd.prog 62 #[.agg (oqL tk cn id ad q now).toArray] w fun e w' => e = .returned (.agg (asL tk cn id ad q).toArray) ∧ Below w.heap.size w w' := by
  obtain ⟨n, t, c⟩ := q
  simp only [oqL, asL, tiL, List.cons_append, List.nil_append]
  generalize lower n = ln
  have HN := Lib.hid (show n.length ≤ 255 from hq)
  clear hq
  have hIa := info_as
  go_enter Tryd.func62, Tryd.ntmps62
  go_wp2_with fail
  refine (clone_any n _ (by have := HN.out; omega)).mono ?_
  rintro e w2 ⟨rfl, b2⟩
  have s2 : w.heap.size + 3 ≤ w2.heap.size := by have := b2.size; simpa using this
  have r1 := (b2.block (w.heap.size + 1) (by first | (simp; done) | (simp; omega))).trans (row_old _ (row_new _ (by simp)))
  have r2 := (b2.block (w.heap.size + 1 + 1) (by simp)).trans (row_new _ (by simp))
  have bb : Below w.heap.size w w2 := Below.trans (Below.alloc (Below.alloc (Below.alloc (Below.refl _ _) (Nat.le_refl _) _) (by simp) _) (by simp; omega) _) (b2.mono (by simp; omega))
  have c0 := (cell_of_row _ _ 4 _ _ _ r2).trans rfl
  have z0 := frozen_of_row _ _ 4 _ _ r2
  obtain ⟨W1, hW1⟩ : ∃ W1, W1 = w2.setCell ⟨w.heap.size + 1 + 1, 4, none⟩ (.string (bs n)) := ⟨_, rfl⟩
  have R2 : W1.heap[w.heap.size + 1 + 1]? = some (.cells (#[.int .i64 tk, .int .i64 cn, .int .i64 id, .int .i64 ad, .string (bs n), .int .i64 t, .int .i64 c] : Array Value) 51 (0, 0)) := by rw [hW1]; exact row_set _ r2
  have R1 := row_other (w := w2) (.string (bs n)) (i := 4) (g := w.heap.size + 1 + 1) r1 (by omega)
  rw [← hW1] at R1
  have b1 : Below w.heap.size w W1 := by rw [hW1]; exact Below.setCell bb (show w.heap.size ≤ w.heap.size + 1 + 1 by omega) _
  have RF := setRow_heap _ _ _ (#[.int .i64 tk, .int .i64 cn, .int .i64 id, .int .i64 ad, .string (bs n), .int .i64 t, .int .i64 c] : Array Value) _ _ R1
  have bF : Below w.heap.size w (W1.setRow (w.heap.size + 1) #[.int .i64 tk, .int .i64 cn, .int .i64 id, .int .i64 ad, .string (bs n), .int .i64 t, .int .i64 c]) := Below.setRow b1 (by omega) _
  have HW1 := Lib.hid hW1
  have HR2 := Lib.hid R2
  have HR1 := Lib.hid R1
  clear hW1 R2 R1 r1 r2 b2 bb s2 b1
  go_wp2_with (first
    | (refine wpList_load_row rfl 51 (.tmp 3) rfl (w.heap.size + 1 + 1) rfl 51 #[.int .i64 tk, .int .i64 cn, .int .i64 id, .int .i64 ad, .string (bs n), .int .i64 t, .int .i64 c] (0, 0) _ (by rw [← HW1.out]; exact HR2.out) Tryd.underlying51 rfl hIa ?_; rw [← HW1.out])
    | (refine wpList_store_row rfl 51 (.tmp 2) (.tmp 12) rfl (w.heap.size + 1) #[.int .i64 tk, .int .i64 cn, .int .i64 id, .int .i64 ad, .string (bs n), .int .i64 t, .int .i64 c] rfl rfl 51 _ HR1.out hIa rfl (by simp [Value.oneCell']) ?_)
    | fail)
  refine bodyPost_ret (v := .agg #[.int .i64 tk, .int .i64 cn, .int .i64 id, .int .i64 ad, .string (bs n), .int .i64 t, .int .i64 c]) (results_cell_row (fn := Tryd.f62) (p := 2) (ty := 51) (by kernel_rfl) _ _ (w.heap.size + 1) 51 _ (0, 0) _ rfl RF Tryd.underlying51 rfl hIa) rfl ?_
  exact ⟨rfl, bF⟩

/-- Asked loaded whole; an open question stored whole. -/
noncomputable def loadAs (v : Value) (w : World) : Result Next := ((Instr.loadAt 51 v).run Tryd.prog w).andThen fun a w' => .ok (.value a) w'
theorem exec_loadAs (ev : Operand → Value) (d : Option Tmp) (x : Operand) (t : TypeId) (p : String) (f : Array Edge) (gd : Option (Nat × Bool)) (w : World) : (execOp ev { dst := d, op := .load 51 x, type := t, pos := p, after := f, guard := gd }).run Tryd.prog w = loadAs (ev x) w := by
  unfold execOp loadAs
  simp only [Sem.run_bind, Sem.run_pure]
theorem loadAs_row {w1 : World} {g : Nat} {C : Array Value} (h : w1.heap[g]? = some (.cells C 51 (0, 0))) (hC : (Tryd.prog.info? 51).map (·.size) = some C.size) : loadAs (.pointer (some ⟨g, 0, none⟩)) w1 = .ok (.value (.agg C)) w1 := by
  unfold loadAs
  simp only [Instr.loadAt, Instr.sureAddr, Sem.run_bind, Sem.run_pure, Result.andThen_ok, run_loadVar_row w1 g 51 51 C (0, 0) _ h Tryd.underlying51 rfl hC]
noncomputable def storeOq (v u : Value) (w : World) : Result Next := ((Instr.storeAt 124 v u).run Tryd.prog w).andThen fun _ w' => .ok .skip w'
theorem exec_storeOq (ev : Operand → Value) (d : Option Tmp) (x y : Operand) (t : TypeId) (p : String) (f : Array Edge) (gd : Option (Nat × Bool)) (w : World) : (execOp ev { dst := d, op := .store 124 x y, type := t, pos := p, after := f, guard := gd }).run Tryd.prog w = storeOq (ev x) (ev y) w := by
  unfold execOp storeOq
  simp only [Sem.run_bind, Sem.run_pure]
theorem storeOq_row {w1 : World} {g : Nat} {old C : Array Value} (h : w1.heap[g]? = some (.cells old 124 (0, 0))) (ho : old.size = 12) (hC : C.size = 12) (h1 : C.all (·.oneCell') = true) : storeOq (.pointer (some ⟨g, 0, none⟩)) (.agg C) w1 = .ok .skip (w1.setRow g C) := by
  unfold storeOq
  simp only [Instr.storeAt, Instr.sureAddr, Sem.run_bind, Sem.run_pure, Result.andThen_ok, run_storeVar_row w1 g 124 124 old C h (by rw [info_oq, hC]) (by rw [ho, hC]) h1]
attribute [local go_sem ↓] exec_loadAs exec_storeOq exec_loadQu
def oqZ : Array Value := #[.int .i64 0, .int .i64 0, .int .i64 0, .int .i64 0, .string ⟨#[]⟩, .int .i64 0, .int .i64 0, .int .i64 0, .string ⟨#[]⟩, .int .i64 0, .int .i64 0, .int .i64 0]
/-- Asked in its box, the answer's cell behind it, ahead of a world that grows. -/
structure AsX (W : World) (C : Array Value) (wr : World) : Prop where
  r : wr.heap[W.heap.size]? = some (.cells C 51 (0, 0))
  o : wr.heap[W.heap.size + 1]? = some (.cells oqZ 124 (0, 0))
  b : Below W.heap.size W wr
theorem AsX.on {W wr w1 : World} {C : Array Value} (h : AsX W C wr) (k : Below wr.heap.size wr w1) : AsX W C w1 := ⟨(k.block _ (Array.getElem?_eq_some_iff.1 h.r).1).trans h.r, (k.block _ (Array.getElem?_eq_some_iff.1 h.o).1).trans h.o, Below.trans h.b (k.mono h.b.size)⟩
theorem AsX.drew {W wr : World} {C : Array Value} (h : AsX W C wr) : AsX W C wr.drew := ⟨h.r, h.o, Below.drew h.b⟩
theorem AsX.alloc {W wr : World} {C : Array Value} (h : AsX W C wr) (o : Obj) : AsX W C (wr.alloc o) := h.on (Below.alloc (Below.refl _ _) (Nat.le_refl _) _)
theorem AsX.le {W wr : World} {C : Array Value} (h : AsX W C wr) : W.heap.size + 2 ≤ wr.heap.size := by have := (Array.getElem?_eq_some_iff.1 h.o).1; omega
theorem AsX.set {W wr : World} {C : Array Value} (h : AsX W C wr) {g : Nat} (hg : W.heap.size + 2 ≤ g) (x : Array Value) : AsX W C (wr.setRow g x) := ⟨(setRow_other _ _ _ _ (by omega)).trans h.r, (setRow_other _ _ _ _ (by omega)).trans h.o, Below.setRow h.b (by omega) _⟩
theorem AsX.set' {W wr : World} {C : Array Value} (h : AsX W C wr) (o : Obj) (x : Array Value) : AsX W C ((wr.alloc o).setRow wr.heap.size x) := (h.alloc o).set h.le x
theorem late_row {wr w1 : World} {o : Obj} (hB : Below (wr.alloc o).heap.size (wr.alloc o) w1) : w1.heap[wr.heap.size]? = some o := (hB.block _ (by simp)).trans (row_new _ rfl)
theorem late_row_d {wr w1 : World} {o : Obj} (hB : Below (wr.alloc o).drew.heap.size (wr.alloc o).drew w1) : w1.heap[wr.heap.size]? = some o := (hB.block _ (by simp)).trans (row_drew (row_new _ rfl))
/-- An open question in its box, behind the answer's cell. -/
structure NQ (W : World) (g : Nat) (L : Array Value) (wr : World) : Prop where
  r : wr.heap[g]? = some (.cells L 124 (0, 0))
  o : wr.heap[W.heap.size + 1]? = some (.cells oqZ 124 (0, 0))
  b : Below W.heap.size W wr
  le : W.heap.size + 2 ≤ g
theorem nq_A {W wr : World} {C : Array Value} (h : AsX W C wr) (L z : Array Value) : NQ W wr.heap.size L ((wr.alloc (.cells z 124)).setRow wr.heap.size L) := ⟨setRow_heap _ _ _ _ _ _ (row_new _ rfl), (h.set' _ _).o, (h.set' _ _).b, h.le⟩
theorem nq_B {W wr : World} {C : Array Value} {g : Nat} (h : AsX W C wr) {z : Array Value} (hz : wr.heap[g]? = some (.cells z 124 (0, 0))) (hg : W.heap.size + 2 ≤ g) (L : Array Value) : NQ W g L (wr.setRow g L) := ⟨setRow_heap _ _ _ _ _ _ hz, (h.set hg _).o, (h.set hg _).b, hg⟩
theorem NQ.on {W wr w1 : World} {g : Nat} {L : Array Value} (h : NQ W g L wr) (k : Below wr.heap.size wr w1) : NQ W g L w1 := ⟨(k.block _ (Array.getElem?_eq_some_iff.1 h.r).1).trans h.r, (k.block _ (Array.getElem?_eq_some_iff.1 h.o).1).trans h.o, Below.trans h.b (k.mono h.b.size), h.le⟩
set_option maxHeartbeats 2000000 in
theorem newQ_any (tk cn id ad : Int) (q : Qu) (now : Int) (w : World) (hq : q.n.length ≤ 255) : Calls Tryd.prog 61 #[.agg (asL tk cn id ad q).toArray, .int .i64 now] w fun e w' => e = .returned (.agg (oqL tk cn id ad q now).toArray) ∧ Below w.heap.size w w' := by
  obtain ⟨n, t, c⟩ := q
  obtain ⟨C, hC⟩ : ∃ C, C = (asL tk cn id ad ⟨n, t, c⟩).toArray := ⟨_, rfl⟩
  have T := Lib.hid (fun W => ticketOf_any id ⟨n, t, c⟩ W)
  have K := Lib.hid (fun W => copyO_any tk cn id ad ⟨n, t, c⟩ now W hq)
  have hIa := info_as
  have hIo := info_oq
  have hCs : (Tryd.prog.info? 51).map (·.size) = some C.size := by rw [hC]; exact info_as
  have F1 : ∀ W, AsX w C W → loadAs (.pointer (some ⟨w.heap.size, 0, none⟩)) W = .ok (.value (.agg #[.int .i64 tk, .int .i64 cn, .int .i64 id, .int .i64 ad, .string (bs n), .int .i64 t, .int .i64 c])) W := fun W h => by
    rw [loadAs_row h.r hCs, hC]; rfl
  have F2 : ∀ W, AsX w C W → loadQu (.pointer (some ⟨w.heap.size, 4, none⟩)) W = .ok (.value (.agg #[.string (bs n), .int .i64 t, .int .i64 c])) W := fun W h => loadQu_mid (l := quL ⟨n, t, c⟩) (fun j v hv => by
    rw [cell_of_row _ _ (4 + j) _ _ _ h.r, hC]
    match j, hv with
    | 0, hv => exact hv
    | 1, hv => exact hv
    | 2, hv => exact hv
    | j + 3, hv => simp [quL] at hv) info_qu
  have F3 : ∀ W, AsX w C W → W.cell? ⟨w.heap.size, 2, none⟩ = some (.int .i64 id) := fun W h => by
    rw [cell_of_row _ _ 2 _ _ _ h.r, hC]; rfl
  have X0 : AsX w C ((w.alloc (.cells C 51)).alloc (.cells #[.int .i64 0, .int .i64 0, .int .i64 0, .int .i64 0, .string ⟨#[]⟩, .int .i64 0, .int .i64 0, .int .i64 0, .string ⟨#[]⟩, .int .i64 0, .int .i64 0, .int .i64 0] 124)) := ⟨row_old _ (row_new _ rfl), row_new _ (by simp), Below.alloc (Below.alloc (Below.refl _ _) (Nat.le_refl _) _) (by simp) _⟩
  rw [← hC]
  have HC := Lib.hid hC
  clear hC hq hCs
  simp only [quC, quL, tiL] at T
  simp only [asL, oqL, tiL, List.cons_append, List.nil_append] at K ⊢
  generalize lower n = ln at T K ⊢
  have F4 : ∀ (W : World), storeOq (.pointer (some ⟨W.heap.size, 0, none⟩)) (.agg #[.int .i64 tk, .int .i64 cn, .int .i64 id, .int .i64 ad, .string (bs n), .int .i64 t, .int .i64 c, .int .i64 id, .string (bs ln), .int .i64 t, .int .i64 c, .int .i64 now]) (W.alloc (.cells #[.int .i64 0, .int .i64 0, .int .i64 0, .int .i64 0, .string ⟨#[]⟩, .int .i64 0, .int .i64 0, .int .i64 0, .string ⟨#[]⟩, .int .i64 0, .int .i64 0, .int .i64 0] 124)) = .ok .skip ((W.alloc (.cells #[.int .i64 0, .int .i64 0, .int .i64 0, .int .i64 0, .string ⟨#[]⟩, .int .i64 0, .int .i64 0, .int .i64 0, .string ⟨#[]⟩, .int .i64 0, .int .i64 0, .int .i64 0] 124)).setRow W.heap.size #[.int .i64 tk, .int .i64 cn, .int .i64 id, .int .i64 ad, .string (bs n), .int .i64 t, .int .i64 c, .int .i64 id, .string (bs ln), .int .i64 t, .int .i64 c, .int .i64 now]) := fun W => storeOq_row (row_new _ rfl) rfl rfl (by simp [Value.oneCell'])
  obtain ⟨L, hL⟩ : ∃ L : Array Value, L = #[.int .i64 tk, .int .i64 cn, .int .i64 id, .int .i64 ad, .string (bs n), .int .i64 t, .int .i64 c, .int .i64 id, .string (bs ln), .int .i64 t, .int .i64 c, .int .i64 now] := ⟨_, rfl⟩
  go_enter Tryd.func61, Tryd.ntmps61
  go_wp2_with fail
  generalize (w.alloc (.cells C 51)).alloc (.cells #[.int .i64 0, .int .i64 0, .int .i64 0, .int .i64 0, .string ⟨#[]⟩, .int .i64 0, .int .i64 0, .int .i64 0, .string ⟨#[]⟩, .int .i64 0, .int .i64 0, .int .i64 0] 124) = w0 at *
  have F5 : ∀ (W : World), W.heap[w0.heap.size]? = some (.cells #[.int .i64 0, .int .i64 0, .int .i64 0, .int .i64 0, .string ⟨#[]⟩, .int .i64 0, .int .i64 0, .int .i64 0, .string ⟨#[]⟩, .int .i64 0, .int .i64 0, .int .i64 0] 124 (0, 0)) → storeOq (.pointer (some ⟨w0.heap.size, 0, none⟩)) (.agg #[.int .i64 tk, .int .i64 cn, .int .i64 id, .int .i64 ad, .string (bs n), .int .i64 t, .int .i64 c, .int .i64 id, .string (bs ln), .int .i64 t, .int .i64 c, .int .i64 now]) W = .ok .skip (W.setRow w0.heap.size #[.int .i64 tk, .int .i64 cn, .int .i64 id, .int .i64 ad, .string (bs n), .int .i64 t, .int .i64 c, .int .i64 id, .string (bs ln), .int .i64 t, .int .i64 c, .int .i64 now]) := fun W h => storeOq_row h rfl rfl (by simp [Value.oneCell'])
  have hS0 := X0.le
  go_region_held3 (fun w' => AsX w C w')
    (first | assumption | exact AsX.drew (by assumption) | exact AsX.alloc (by assumption) _ | exact AsX.on (by assumption) (by assumption) | exact AsX.on (AsX.drew (by assumption)) (by assumption) | exact AsX.on (AsX.drew (AsX.alloc (by assumption) _)) (by assumption) | exact AsX.on (AsX.alloc (AsX.drew (by assumption)) _) (by assumption) | exact AsX.on (AsX.alloc (by assumption) _) (by assumption) | exact AsX.set' (by assumption) _ _ | exact AsX.set (by assumption) (by assumption) _)
    (first
      | (go_at_call 103; (with_reducible refine (T.out _).mono ?_); rintro e w4 ⟨rfl, hBx⟩; (first | (have hX4 := AsX.on (AsX.drew X0) hBx) | (have hX4 := AsX.on (AsX.drew (AsX.alloc X0 _)) hBx) | (have hX4 := AsX.on (AsX.alloc (AsX.drew X0) _) hBx)); first | (have hZ : w4.heap[w0.heap.size]? = some (.cells #[.int .i64 0, .int .i64 0, .int .i64 0, .int .i64 0, .string ⟨#[]⟩, .int .i64 0, .int .i64 0, .int .i64 0, .string ⟨#[]⟩, .int .i64 0, .int .i64 0, .int .i64 0] 124 (0, 0)) := late_row hBx) | (have hZ : w4.heap[w0.heap.size]? = some (.cells #[.int .i64 0, .int .i64 0, .int .i64 0, .int .i64 0, .string ⟨#[]⟩, .int .i64 0, .int .i64 0, .int .i64 0, .string ⟨#[]⟩, .int .i64 0, .int .i64 0, .int .i64 0] 124 (0, 0)) := late_row_d hBx) | skip))
  all_goals
    first
      | (have N := nq_B hX4 hZ hS0 L
         rw [hL] at N
         generalize w4.setRow w0.heap.size #[.int .i64 tk, .int .i64 cn, .int .i64 id, .int .i64 ad, .string (bs n), .int .i64 t, .int .i64 c, .int .i64 id, .string (bs ln), .int .i64 t, .int .i64 c, .int .i64 now] = W5 at *
         generalize w0.heap.size = g at *)
      | (have N := nq_A hX4 L #[.int .i64 0, .int .i64 0, .int .i64 0, .int .i64 0, .string ⟨#[]⟩, .int .i64 0, .int .i64 0, .int .i64 0, .string ⟨#[]⟩, .int .i64 0, .int .i64 0, .int .i64 0]
         rw [hL] at N
         generalize (w4.alloc (.cells #[.int .i64 0, .int .i64 0, .int .i64 0, .int .i64 0, .string ⟨#[]⟩, .int .i64 0, .int .i64 0, .int .i64 0, .string ⟨#[]⟩, .int .i64 0, .int .i64 0, .int .i64 0] 124)).setRow w4.heap.size #[.int .i64 tk, .int .i64 cn, .int .i64 id, .int .i64 ad, .string (bs n), .int .i64 t, .int .i64 c, .int .i64 id, .string (bs ln), .int .i64 t, .int .i64 c, .int .i64 now] = W5 at *
         generalize w4.heap.size = g at *)
    have N2 := Lib.hid N
    clear hX4 hBx F1 F2 F3 F4 F5 T N X0 hS0
    go_wp2_with (first
      | (refine wpList_load_row rfl 124 (.tmp 5) rfl g rfl 124 #[.int .i64 tk, .int .i64 cn, .int .i64 id, .int .i64 ad, .string (bs n), .int .i64 t, .int .i64 c, .int .i64 id, .string (bs ln), .int .i64 t, .int .i64 c, .int .i64 now] (0, 0) _ N2.out.r Tryd.underlying124 rfl hIo ?_)
      | fail)
    refine (K.out _).mono ?_
    rintro e w6 ⟨rfl, b6⟩
    have N6 := N2.out.on b6
    clear N2 b6
    have h6 : w6.there g 0 7 := fun j hj => ⟨by rw [cell_of_row _ _ (0 + j) _ _ _ N6.r]; simp; omega, frozen_of_row _ _ _ _ _ N6.r⟩
    obtain ⟨W7, hW7⟩ : ∃ W7, W7 = w6.setCells g 0 [.int .i64 tk, .int .i64 cn, .int .i64 id, .int .i64 ad, .string (bs n), .int .i64 t, .int .i64 c] := ⟨_, rfl⟩
    have r7 : W7.heap[g]? = some (.cells #[.int .i64 tk, .int .i64 cn, .int .i64 id, .int .i64 ad, .string (bs n), .int .i64 t, .int .i64 c, .int .i64 id, .string (bs ln), .int .i64 t, .int .i64 c, .int .i64 now] 124 (0, 0)) := by
      rw [hW7]; simp only [World.setCells]
      exact row_set _ (row_set _ (row_set _ (row_set _ (row_set _ (row_set _ (row_set _ N6.r))))))
    have o7 : W7.heap[w.heap.size + 1]? = some (.cells oqZ 124 (0, 0)) := by
      rw [hW7]; exact ((grownBy_setCells g _ 0 w6).block _ (Array.getElem?_eq_some_iff.1 N6.o).1 (fun e => by injection e with e; have := N6.le; omega)).trans N6.o
    have b7 : Below w.heap.size w W7 := by rw [hW7]; exact N6.b.grown (grownBy_setCells g _ 0 w6) N6.b.size (fun k hk => by injection hk with hk; have := N6.le; omega)
    have RF := setRow_heap _ _ _ (#[.int .i64 tk, .int .i64 cn, .int .i64 id, .int .i64 ad, .string (bs n), .int .i64 t, .int .i64 c, .int .i64 id, .string (bs ln), .int .i64 t, .int .i64 c, .int .i64 now] : Array Value) _ _ o7
    have bF : Below w.heap.size w (W7.setRow (w.heap.size + 1) #[.int .i64 tk, .int .i64 cn, .int .i64 id, .int .i64 ad, .string (bs n), .int .i64 t, .int .i64 c, .int .i64 id, .string (bs ln), .int .i64 t, .int .i64 c, .int .i64 now]) := Below.setRow b7 (by omega) _
    have HW7 := Lib.hid hW7
    clear N6 hW7 b7
    go_wp2_with (first
      | (refine wpList_store_mid rfl 51 (.tmp 16) (.tmp 15) rfl g 0 #[.int .i64 tk, .int .i64 cn, .int .i64 id, .int .i64 ad, .string (bs n), .int .i64 t, .int .i64 c] rfl rfl h6 hIa (by simp [Value.oneCell']) ?_; rw [← HW7.out])
      | (refine wpList_load_row rfl 124 (.tmp 5) rfl g rfl 124 #[.int .i64 tk, .int .i64 cn, .int .i64 id, .int .i64 ad, .string (bs n), .int .i64 t, .int .i64 c, .int .i64 id, .string (bs ln), .int .i64 t, .int .i64 c, .int .i64 now] (0, 0) _ r7 Tryd.underlying124 rfl hIo ?_)
      | (refine wpList_store_row rfl 124 (.tmp 4) (.tmp 17) rfl (w.heap.size + 1) #[.int .i64 tk, .int .i64 cn, .int .i64 id, .int .i64 ad, .string (bs n), .int .i64 t, .int .i64 c, .int .i64 id, .string (bs ln), .int .i64 t, .int .i64 c, .int .i64 now] rfl rfl 124 _ o7 hIo rfl (by simp [Value.oneCell']) ?_)
      | fail)
    refine bodyPost_ret (v := .agg #[.int .i64 tk, .int .i64 cn, .int .i64 id, .int .i64 ad, .string (bs n), .int .i64 t, .int .i64 c, .int .i64 id, .string (bs ln), .int .i64 t, .int .i64 c, .int .i64 now]) (results_cell_row (fn := Tryd.f61) (p := 4) (ty := 124) (by kernel_rfl) _ _ (w.heap.size + 1) 124 _ (0, 0) _ rfl RF Tryd.underlying124 rfl hIo) rfl ?_
    exact ⟨rfl, bF⟩
end Go.Proofs.YtknpkifhkefikaaDoor
