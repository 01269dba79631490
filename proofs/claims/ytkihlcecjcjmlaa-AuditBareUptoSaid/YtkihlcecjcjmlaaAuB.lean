/-
  The landed askOf.
-/
import Derived.Test.YtkihlcecjcjmlaaAuA
import Derived.Test.YtkihlcecjcjmlaaQi
namespace Go.Proofs.Ytkihlcecjcjmlaa
open Go.RowKit
set_option linter.unusedVariables false
set_option maxRecDepth 100000

noncomputable def loadQw (v : Value) (w : World) : Result Next := ((Instr.loadAt 35 v).run Try.prog w).andThen fun a w' => .ok (.value a) w'
theorem exec_loadQw (ev : Operand → Value) (d : Option Tmp) (x : Operand) (t : TypeId) (p : String) (f : Array Edge) (gd : Option (Nat × Bool)) (w : World) : (execOp ev { dst := d, op := .load 35 x, type := t, pos := p, after := f, guard := gd }).run Try.prog w = loadQw (ev x) w := by
  unfold execOp loadQw
  simp only [Sem.run_bind, Sem.run_pure]
theorem loadQw_mid {w1 : World} {g o : Nat} {l : List Value} (h : w1.rangeAt g o l) (hC : (Try.prog.info? 35).map (·.size) = some l.length) : loadQw (.pointer (some ⟨g, o, none⟩)) w1 = .ok (.value (.agg l.toArray)) w1 := by
  unfold loadQw
  rw [run_loadAt_mid w1 g o 35 l _ h Try.underlying35 rfl hC]
  rfl
/-- A message's part of an event. -/
def meL (e : Ev) (v : EV) : List Value := (evL e v).drop 3
theorem info_me : (Try.prog.info? 29).map (·.size) = some 12 := by kernel_rfl
theorem ev_cell {w : World} {g : Nat} {e : Ev} {v : EV} (h : w.heap[g]? = some (.cells (evC e v) 31 (0, 0))) :
    w.cell? ⟨g, 0, none⟩ = some (.bool e.rep) ∧ w.cell? ⟨g, 1, none⟩ = some (.int .i64 e.st) ∧ w.cell? ⟨g, 4, none⟩ = some (.bool e.h.r) ∧ w.cell? ⟨g, 9, none⟩ = some (.bool e.h.ra) :=
  ⟨(cell_of_row _ g 0 _ _ _ h).trans rfl, (cell_of_row _ g 1 _ _ _ h).trans rfl, (cell_of_row _ g 4 _ _ _ h).trans rfl, (cell_of_row _ g 9 _ _ _ h).trans rfl⟩
theorem me_cell {w : World} {g : Nat} {e : Ev} {v : EV} (h : w.heap[g]? = some (.cells (meL e v).toArray 29 (0, 0))) :
    w.cell? ⟨g, 0, none⟩ = some (.int .i64 e.h.i) ∧ w.cell? ⟨g, 1, none⟩ = some (.bool e.h.r) ∧ w.cell? ⟨g, 2, none⟩ = some (.int .i64 e.h.o) ∧ w.cell? ⟨g, 5, none⟩ = some (.bool e.h.rd) ∧ w.cell? ⟨g, 6, none⟩ = some (.bool e.h.ra) ∧ w.cell? ⟨g, 8, none⟩ = some (.slice v.aq e.q.length v.cq) :=
  ⟨(cell_of_row _ g 0 _ _ _ h).trans rfl, (cell_of_row _ g 1 _ _ _ h).trans rfl, (cell_of_row _ g 2 _ _ _ h).trans rfl, (cell_of_row _ g 5 _ _ _ h).trans rfl, (cell_of_row _ g 6 _ _ _ h).trans rfl, (cell_of_row _ g 8 _ _ _ h).trans rfl⟩
theorem me_range {w : World} {g : Nat} {e : Ev} {v : EV} (h : w.heap[g]? = some (.cells (evC e v) 31 (0, 0))) : w.rangeAt g 3 (meL e v) := by
  intro j u hj
  rw [meL, List.getElem?_drop] at hj
  rw [cell_of_row _ g (3 + j) _ _ _ h]
  simpa [evC] using hj

def askC (k : Ask) : Array Value := #[.int .i64 k.st, .int .i64 k.i, .int .i64 k.o, .bool k.rd, .string (bs k.n), .int .i64 k.t, .int .i64 k.c]
theorem info_ask : (Try.prog.info? 39).map (·.size) = some 7 := by kernel_rfl
def AskPost (w : World) (e : Ev) (x : Ending) (w' : World) : Prop := Below w.heap.size w w' ∧ ∃ C b, x = .returned (.tuple #[.agg C, .bool b]) ∧ C.size = 7 ∧ C.all (·.oneCell') = true ∧ ((b = false ∧ askE e = none) ∨ ∃ k, b = true ∧ askE e = some k ∧ C = askC k)

theorem results_ask {tmps : Array Value} {W : World} {g : Nat} {cs : Array Value} {b : Bool} (h2 : tmps.getD 2 undef = .pointer (some ⟨g, 0, none⟩)) (h3 : tmps.getD 3 undef = .bool b)
    (r2 : W.heap[g]? = some (.cells cs 39 (0, 0))) (hs : cs.size = 7) :
    (results Try.f9 tmps).run Try.prog W = .ok (.tuple #[.agg cs, .bool b]) W := by
  have q0 : (loadVar 39 ⟨g, 0, none⟩).run Try.prog W = .ok (.agg cs) W := run_loadVar_row W g 39 39 cs (0, 0) _ r2 Try.underlying39 rfl (by rw [hs]; kernel_rfl)
  have h2' : tmps[2]?.getD undef = .pointer (some ⟨g, 0, none⟩) := by simpa using h2
  have h3' : tmps[3]?.getD undef = .bool b := by simpa using h3
  simp [results, Try.results9, asAddr, h2', h3', q0]
theorem cell_in {w w1 : World} {g o : Nat} {v : Value} (hB : Below w.heap.size w w1) (h : w.cell? ⟨g, o, none⟩ = some v) : w1.cell? ⟨g, o, none⟩ = some v := cell_on h hB
theorem getD_both_true {b : Array Bool} {k : Nat} (h : b.getD k false = true) : b.getD k true = true := by
  rcases Nat.lt_or_ge k b.size with h' | h'
  · simp [h'] at h ⊢; exact h
  · simp [Array.getElem?_eq_none h'] at h
theorem slot_of {a : Act} {j : Nat} {v : Value} (h : a.tmps[j]? = some v) : (a.tmps[j]?).getD undef = v := by rw [h]; rfl
def AskK (b1 b4 g o c : Nat) (k : Ask) : Nat → Value → World → Prop
  | 0, v, _ => v = .pointer (some ⟨b1, 1, none⟩)
  | 1, v, _ => v = .int .i64 k.st
  | 2, v, _ => v = .pointer (some ⟨b4, 0, none⟩)
  | 3, v, _ => v = .pointer (some ⟨b4, 0, none⟩)
  | 4, v, _ => v = .int .i64 k.i
  | 5, v, _ => v = .pointer (some ⟨b4, 0, none⟩)
  | 6, v, _ => v = .pointer (some ⟨b4, 2, none⟩)
  | 7, v, _ => v = .int .i64 k.o
  | 8, v, _ => v = .pointer (some ⟨b4, 0, none⟩)
  | 9, v, _ => v = .pointer (some ⟨b4, 5, none⟩)
  | 10, v, _ => v = .bool k.rd
  | 11, v, _ => v = .pointer (some ⟨b4, 8, none⟩)
  | 12, v, _ => v = .slice (some ⟨g, o, none⟩) 1 c
  | 13, v, _ => v = .pointer (some ⟨g, o, none⟩)
  | 14, v, _ => v = .agg #[.string (bs k.n), .int .i64 k.t, .int .i64 k.c]
  | 15, v, _ => v = .agg (askC k)
  | _, _, _ => True
theorem AskK_on {b1 b4 g o c : Nat} {k : Ask} (i : Nat) (v : Value) (w w' : World) (h : AskK b1 b4 g o c k i v w) (hB : Below w.heap.size w w') : AskK b1 b4 g o c k i v w' := by
  match i, h with
  | 0, h => exact h
  | 1, h => exact h
  | 2, h => exact h
  | 3, h => exact h
  | 4, h => exact h
  | 5, h => exact h
  | 6, h => exact h
  | 7, h => exact h
  | 8, h => exact h
  | 9, h => exact h
  | 10, h => exact h
  | 11, h => exact h
  | 12, h => exact h
  | 13, h => exact h
  | 14, h => exact h
  | 15, h => exact h
  | _ + 16, _ => trivial

attribute [local go_sem ↓] exec_loadQw
set_option maxHeartbeats 2000000 in
theorem askOf_any (e : Ev) (v : EV) (w : World) (h : EvAt w e v) : Calls Try.prog 9 #[.agg (evC e v)] w (AskPost w e) := by
  have r1 := row_old (.cells #[.int .i64 0, .int .i64 0, .int .i64 0, .bool false, .string ⟨#[]⟩, .int .i64 0, .int .i64 0] 39 (0, 0)) (row_new (w := w) (k := w.heap.size) (.cells (evC e v) 31 (0, 0)) rfl)
  have r2 := row_new (w := w.alloc (.cells (evC e v) 31 (0, 0))) (k := w.heap.size + 1) (.cells #[.int .i64 0, .int .i64 0, .int .i64 0, .bool false, .string ⟨#[]⟩, .int .i64 0, .int .i64 0] 39 (0, 0)) (by simp)
  have b0 : Below w.heap.size w ((w.alloc (.cells (evC e v) 31 (0, 0))).alloc (.cells #[.int .i64 0, .int .i64 0, .int .i64 0, .bool false, .string ⟨#[]⟩, .int .i64 0, .int .i64 0] 39 (0, 0))) := Below.alloc (Below.alloc (Below.refl _ _) (Nat.le_refl _) _) (by simp) _
  have sz : ((w.alloc (.cells (evC e v) 31 (0, 0))).alloc (.cells #[.int .i64 0, .int .i64 0, .int .i64 0, .bool false, .string ⟨#[]⟩, .int .i64 0, .int .i64 0] 39 (0, 0))).heap.size = w.heap.size + 2 := by simp
  obtain ⟨W0, hW0⟩ : ∃ W0, W0 = (w.alloc (.cells (evC e v) 31 (0, 0))).alloc (.cells #[.int .i64 0, .int .i64 0, .int .i64 0, .bool false, .string ⟨#[]⟩, .int .i64 0, .int .i64 0] 39 (0, 0)) := ⟨_, rfl⟩
  rw [← hW0] at r1 r2 b0 sz
  have mr := me_range r1
  obtain ⟨-, c1, -, -⟩ := ev_cell r1
  -- the message's own box
  have rZ := row_new (w := W0) (k := W0.heap.size) (.cells #[.int .i64 0, .bool false, .int .i64 0, .bool false, .bool false, .bool false, .bool false, .int .i64 0, .slice none 0 0, .slice none 0 0, .slice none 0 0, .slice none 0 0] 29 (0, 0)) rfl
  obtain ⟨M, hM⟩ : ∃ M, M = (meL e v).toArray := ⟨_, rfl⟩
  have r3 := setRow_heap _ _ _ M _ _ rZ
  have b1 : Below W0.heap.size W0 ((W0.alloc (.cells #[.int .i64 0, .bool false, .int .i64 0, .bool false, .bool false, .bool false, .bool false, .int .i64 0, .slice none 0 0, .slice none 0 0, .slice none 0 0, .slice none 0 0] 29 (0, 0))).setRow W0.heap.size M) := Below.setRow (Below.alloc (Below.refl _ _) (Nat.le_refl _) _) (Nat.le_refl _) _
  obtain ⟨W1, hW1⟩ : ∃ W1, W1 = (W0.alloc (.cells #[.int .i64 0, .bool false, .int .i64 0, .bool false, .bool false, .bool false, .bool false, .int .i64 0, .slice none 0 0, .slice none 0 0, .slice none 0 0, .slice none 0 0] 29 (0, 0))).setRow W0.heap.size M := ⟨_, rfl⟩
  rw [← hW1] at r3 b1
  have k2 := (b1.block _ (by omega)).trans r2
  have c1' := cell_on c1 b1
  have hb := Below.trans b0 (b1.mono b0.size)
  have iM : Hid ((Try.prog.info? 29).map (·.size) = some M.size) := Lib.hid (by rw [hM]; exact info_me)
  have iL : Hid ((Try.prog.info? 29).map (·.size) = some (meL e v).length) := Lib.hid info_me
  have oM : Hid (M.all (·.oneCell') = true) := Lib.hid (by rw [hM]; simp [meL, evL, Value.oneCell'])
  have zM : Hid ((#[.int .i64 0, .bool false, .int .i64 0, .bool false, .bool false, .bool false, .bool false, .int .i64 0, .slice none 0 0, .slice none 0 0, .slice none 0 0, .slice none 0 0] : Array Value).size = M.size) := Lib.hid (by rw [hM]; rfl)
  obtain ⟨d0, -, d2, d5, -, d8⟩ := me_cell (w := W1) (g := W0.heap.size) (e := e) (v := v) (by rw [← hM]; exact r3)
  have HE : Hid (EvAt W1 e v) := Lib.hid ((h.on b0).on b1)
  have HW0 := Lib.hid hW0
  have HW1 := Lib.hid hW1
  have HM := Lib.hid hM
  have K2 := Lib.hid k2
  have HB := Lib.hid hb
  have HMR := Lib.hid mr
  have RZ := Lib.hid rZ
  have SZ := Lib.hid sz
  have hz1 : Hid (w.heap.size + 1 < W1.heap.size) := Lib.hid (by have := b1.size; omega)
  have CS := Lib.hid (rfl : evC e v = evC e v)
  obtain ⟨C, hC⟩ : ∃ C, C = evC e v := ⟨_, rfl⟩
  obtain ⟨ml, hml⟩ : ∃ l, l = meL e v := ⟨_, rfl⟩
  rw [← hml] at HMR iL
  have HML : Hid (M = ml.toArray) := Lib.hid (by rw [hM, hml])
  rw [← hC] at HW0 ⊢
  have EN : Hid (e.q.length ≠ 1 → askE e = none) := Lib.hid askE_none
  have ES : Hid (∀ q, e.q = [q] → askE e = some ⟨e.st, e.h.i, e.h.o, e.h.rd, q.n, q.t, q.c⟩) := Lib.hid (fun q hq => askE_some hq)
  obtain ⟨n, hn⟩ : ∃ n, n = e.q.length := ⟨_, rfl⟩
  rw [← hn] at d8 EN
  have HN := Lib.hid hn
  clear h r1 r2 b0 sz mr c1 r3 b1 k2 hb rZ hM hW0 hW1 hC hml hn CS
  by_cases h1 : n = 1
  · have hne : ((n : Int) != 1) = false := by subst h1; rfl
    obtain ⟨q, hq⟩ : ∃ q, e.q = [q] := by
      have h2 := HN.out
      rw [h1] at h2
      match hq : e.q, h2 with
      | [q], _ => exact ⟨q, rfl⟩
    have hk := ES.out q hq
    obtain ⟨k, hkk⟩ : ∃ k : Ask, k = ⟨e.st, e.h.i, e.h.o, e.h.rd, q.n, q.t, q.c⟩ := ⟨_, rfl⟩
    rw [← hkk] at hk
    have k1 : k.st = e.st := by rw [hkk]
    have k3 : k.i = e.h.i := by rw [hkk]
    have k4 : k.o = e.h.o := by rw [hkk]
    have k5 : k.rd = e.h.rd := by rw [hkk]
    obtain ⟨g, o, hA, hc⟩ := HE.out.q (by rw [hq]; simp)
    have hr := hc 0 (by rw [hq]; simp)
    have hr' : W1.rangeAt g o (quL q) := by
      have e1 : e.q[0]'(by rw [hq]; simp) = q := by simp [hq]
      rw [e1] at hr
      simpa using hr
    have hqk : quL q = [.string (bs k.n), .int .i64 k.t, .int .i64 k.c] := by rw [hkk]; rfl
    rw [hqk] at hr'
    have LQ := Lib.hid hr'
    rw [← k1] at c1'
    rw [← k3] at d0
    rw [← k4] at d2
    rw [← k5] at d5
    rw [hA, h1] at d8
    have HK := Lib.hid hk
    have IA : Hid ((Try.prog.info? 39).map (·.size) = some (askC k).size) := Lib.hid info_ask
    have OA : Hid ((askC k).all (·.oneCell') = true) := Lib.hid (by simp [askC, Value.oneCell'])
    have ZA : Hid ((#[.int .i64 0, .int .i64 0, .int .i64 0, .bool false, .string ⟨#[]⟩, .int .i64 0, .int .i64 0] : Array Value).size = (askC k).size) := Lib.hid rfl
    clear hk hkk k1 k3 k4 k5 hA hc hr hr' hqk hq HE ES EN HN
    subst h1
    go_enter Try.func9, Try.ntmps9
    go_wp2_with (first
      | (rw [← HW0.out]; refine wpList_load_mid rfl 29 (.tmp 5) rfl w.heap.size 3 rfl ml _ HMR.out Try.underlying29 rfl iL.out ?_; rw [← HML.out])
      | (refine wpList_store_row rfl 29 (.tmp 4) (.tmp 6) rfl W0.heap.size M rfl rfl 29 _ RZ.out iM.out (by first | exact zM.out | exact zM.out.symm) oM.out ?_; rw [← HW1.out])
      | fail)
    refine wp_region_under 16 (by kernel_rfl) (by kernel_rfl) (by kernel_rfl) rfl (d := (fun i => 12 + i)) (R := AskK w.heap.size W0.heap.size g o v.cq k) (B := W1.heap.size) (Nat.le_refl _) (fun i j hi hj e => by omega) (fun i hi => by simp; omega) AskK_on (fun i hi b a' w' un hr => ?_) (fun V w' hV hB hs => ?_)
    · obtain ⟨_, o, ho, hall⟩ := mem_ready.1 hr
      have t1 : (a'.tmps[1]?).getD undef = .pointer (some ⟨w.heap.size, 0, none⟩) := slot_of ((un.old 1 (fun i _ => by omega)).trans rfl)
      have t4 : (a'.tmps[4]?).getD undef = .pointer (some ⟨W0.heap.size, 0, none⟩) := slot_of ((un.old 4 (fun i _ => by omega)).trans rfl)
      have x1 := cell_in un.bel c1'
      have x2 := cell_in un.bel d0
      have x3 := cell_in un.bel d2
      have x4 := cell_in un.bel d5
      have x5 := cell_in un.bel d8
      match i, hi with
      | 0, _ =>
        obtain rfl := Option.some.inj ho
        refine ⟨_, rfl, rfl, ?_⟩
        clear ho hall hr  un
        unfold Oper.wp
        go_simp
        exact ⟨_, rfl, rfl, Below.refl _ _⟩
      | 1, _ =>
        obtain rfl := Option.some.inj ho
        have h0 := getD_both_true (hall ⟨0, .data⟩ (by simp) rfl)
        obtain ⟨v0, hv0, hr0⟩ := un.got 0 (by simp) h0
        obtain rfl := hr0
        have s0 := slot_of (j := 12) hv0
        refine ⟨_, rfl, rfl, ?_⟩
        clear ho hall hr hv0 un
        unfold Oper.wp
        go_simp
        exact ⟨_, rfl, rfl, Below.refl _ _⟩
      | 2, _ =>
        obtain rfl := Option.some.inj ho
        refine ⟨_, rfl, rfl, ?_⟩
        clear ho hall hr  un
        unfold Oper.wp
        go_simp
        exact ⟨_, rfl, rfl, Below.refl _ _⟩
      | 3, _ =>
        obtain rfl := Option.some.inj ho
        have h2 := getD_both_true (hall ⟨2, .data⟩ (by simp) rfl)
        obtain ⟨v2, hv2, hr2⟩ := un.got 2 (by simp) h2
        obtain rfl := hr2
        have s2 := slot_of (j := 14) hv2
        refine ⟨_, rfl, rfl, ?_⟩
        clear ho hall hr hv2 un
        unfold Oper.wp
        go_simp
        exact ⟨_, rfl, rfl, Below.refl _ _⟩
      | 4, _ =>
        obtain rfl := Option.some.inj ho
        have h3 := getD_both_true (hall ⟨3, .data⟩ (by simp) rfl)
        obtain ⟨v3, hv3, hr3⟩ := un.got 3 (by simp) h3
        obtain rfl := hr3
        have s3 := slot_of (j := 15) hv3
        refine ⟨_, rfl, rfl, ?_⟩
        clear ho hall hr hv3 un
        unfold Oper.wp
        go_simp
        exact ⟨_, rfl, rfl, Below.refl _ _⟩
      | 5, _ =>
        obtain rfl := Option.some.inj ho
        refine ⟨_, rfl, rfl, ?_⟩
        clear ho hall hr  un
        unfold Oper.wp
        go_simp
        exact ⟨_, rfl, rfl, Below.refl _ _⟩
      | 6, _ =>
        obtain rfl := Option.some.inj ho
        have h5 := getD_both_true (hall ⟨5, .data⟩ (by simp) rfl)
        obtain ⟨v5, hv5, hr5⟩ := un.got 5 (by simp) h5
        obtain rfl := hr5
        have s5 := slot_of (j := 17) hv5
        refine ⟨_, rfl, rfl, ?_⟩
        clear ho hall hr hv5 un
        unfold Oper.wp
        go_simp
        exact ⟨_, rfl, rfl, Below.refl _ _⟩
      | 7, _ =>
        obtain rfl := Option.some.inj ho
        have h6 := getD_both_true (hall ⟨6, .data⟩ (by simp) rfl)
        obtain ⟨v6, hv6, hr6⟩ := un.got 6 (by simp) h6
        obtain rfl := hr6
        have s6 := slot_of (j := 18) hv6
        refine ⟨_, rfl, rfl, ?_⟩
        clear ho hall hr hv6 un
        unfold Oper.wp
        go_simp
        exact ⟨_, rfl, rfl, Below.refl _ _⟩
      | 8, _ =>
        obtain rfl := Option.some.inj ho
        refine ⟨_, rfl, rfl, ?_⟩
        clear ho hall hr  un
        unfold Oper.wp
        go_simp
        exact ⟨_, rfl, rfl, Below.refl _ _⟩
      | 9, _ =>
        obtain rfl := Option.some.inj ho
        have h8 := getD_both_true (hall ⟨8, .data⟩ (by simp) rfl)
        obtain ⟨v8, hv8, hr8⟩ := un.got 8 (by simp) h8
        obtain rfl := hr8
        have s8 := slot_of (j := 20) hv8
        refine ⟨_, rfl, rfl, ?_⟩
        clear ho hall hr hv8 un
        unfold Oper.wp
        go_simp
        exact ⟨_, rfl, rfl, Below.refl _ _⟩
      | 10, _ =>
        obtain rfl := Option.some.inj ho
        have h9 := getD_both_true (hall ⟨9, .data⟩ (by simp) rfl)
        obtain ⟨v9, hv9, hr9⟩ := un.got 9 (by simp) h9
        obtain rfl := hr9
        have s9 := slot_of (j := 21) hv9
        refine ⟨_, rfl, rfl, ?_⟩
        clear ho hall hr hv9 un
        unfold Oper.wp
        go_simp
        exact ⟨_, rfl, rfl, Below.refl _ _⟩
      | 11, _ =>
        obtain rfl := Option.some.inj ho
        refine ⟨_, rfl, rfl, ?_⟩
        clear ho hall hr  un
        unfold Oper.wp
        go_simp
        exact ⟨_, rfl, rfl, Below.refl _ _⟩
      | 12, _ =>
        obtain rfl := Option.some.inj ho
        have h11 := getD_both_true (hall ⟨11, .data⟩ (by simp) rfl)
        obtain ⟨v11, hv11, hr11⟩ := un.got 11 (by simp) h11
        obtain rfl := hr11
        have s11 := slot_of (j := 23) hv11
        refine ⟨_, rfl, rfl, ?_⟩
        clear ho hall hr hv11 un
        unfold Oper.wp
        go_simp
        exact ⟨_, rfl, rfl, Below.refl _ _⟩
      | 13, _ =>
        obtain rfl := Option.some.inj ho
        have h12 := getD_both_true (hall ⟨12, .data⟩ (by simp) rfl)
        obtain ⟨v12, hv12, hr12⟩ := un.got 12 (by simp) h12
        obtain rfl := hr12
        have s12 := slot_of (j := 24) hv12
        refine ⟨_, rfl, rfl, ?_⟩
        clear ho hall hr hv12 un
        unfold Oper.wp
        go_simp
        exact ⟨_, rfl, rfl, Below.refl _ _⟩
      | 14, _ =>
        obtain rfl := Option.some.inj ho
        have h13 := getD_both_true (hall ⟨13, .data⟩ (by simp) rfl)
        obtain ⟨v13, hv13, hr13⟩ := un.got 13 (by simp) h13
        obtain rfl := hr13
        have s13 := slot_of (j := 25) hv13
        have yy := range_on LQ.out un.bel
        have y0 : w'.cell? ⟨g, o, none⟩ = some (.string (bs k.n)) := yy 0 _ rfl
        have y1 : w'.cell? ⟨g, o + 1, none⟩ = some (.int .i64 k.t) := yy 1 _ rfl
        have y2 : w'.cell? ⟨g, o + 2, none⟩ = some (.int .i64 k.c) := yy 2 _ rfl
        clear yy
        refine ⟨_, rfl, rfl, ?_⟩
        clear ho hall hr hv13 un
        unfold Oper.wp
        go_simp
        exact ⟨_, rfl, rfl, Below.refl _ _⟩
      | 15, _ =>
        obtain rfl := Option.some.inj ho
        have h1 := getD_both_true (hall ⟨1, .data⟩ (by simp) rfl)
        obtain ⟨v1, hv1, hr1⟩ := un.got 1 (by simp) h1
        obtain rfl := hr1
        have s1 := slot_of (j := 13) hv1
        have h4 := getD_both_true (hall ⟨4, .data⟩ (by simp) rfl)
        obtain ⟨v4, hv4, hr4⟩ := un.got 4 (by simp) h4
        obtain rfl := hr4
        have s4 := slot_of (j := 16) hv4
        have h7 := getD_both_true (hall ⟨7, .data⟩ (by simp) rfl)
        obtain ⟨v7, hv7, hr7⟩ := un.got 7 (by simp) h7
        obtain rfl := hr7
        have s7 := slot_of (j := 19) hv7
        have h10 := getD_both_true (hall ⟨10, .data⟩ (by simp) rfl)
        obtain ⟨v10, hv10, hr10⟩ := un.got 10 (by simp) h10
        obtain rfl := hr10
        have s10 := slot_of (j := 22) hv10
        have h14 := getD_both_true (hall ⟨14, .data⟩ (by simp) rfl)
        obtain ⟨v14, hv14, hr14⟩ := un.got 14 (by simp) h14
        obtain rfl := hr14
        have s14 := slot_of (j := 26) hv14
        refine ⟨_, rfl, rfl, ?_⟩
        clear ho hall hr hv1 hv4 hv7 hv10 hv14 un
        unfold Oper.wp
        go_simp
        exact ⟨_, rfl, rfl, Below.refl _ _⟩
    · have e2 : V 15 = .agg (askC k) := hV 15 (by omega)
      have hk2 := (hB.block _ (by have := hz1.out; omega)).trans K2.out
      have B6 := Lib.hid (Below.setRow (Below.trans HB.out (hB.mono (by have := hz1.out; omega))) (show w.heap.size ≤ w.heap.size + 1 by omega) (askC k))
      have R6 := Lib.hid (setRow_heap _ _ _ (askC k) _ _ hk2)
      have HK2 := Lib.hid hk2
      simp only [putAll, Act.put, e2, Nat.reduceAdd, List.setIfInBounds_toArray, List.set_cons_succ, List.set_cons_zero, List.drop_succ_cons, List.drop_zero]
      generalize V 0 = u0, V 1 = u1, V 2 = u2, V 3 = u3, V 4 = u4, V 5 = u5, V 6 = u6, V 7 = u7, V 8 = u8, V 9 = u9, V 10 = u10, V 11 = u11, V 12 = u12, V 13 = u13, V 14 = u14
      clear hk2 hV hB hs e2 LQ
      obtain ⟨D, hD⟩ : ∃ D, D = askC k := ⟨_, rfl⟩
      rw [← hD] at B6 R6 IA OA ZA ⊢
      have HD := Lib.hid hD
      clear hD
      go_wp2_with (first
        | (refine wpList_store_row rfl 39 (.tmp 2) (.tmp 27) rfl (w.heap.size + 1) D rfl rfl 39 _ HK2.out IA.out (by first | exact ZA.out | exact ZA.out.symm) OA.out ?_)
        | fail)
      exact bodyPost_ret (results_ask rfl rfl R6.out (by rw [HD.out]; rfl)) rfl ⟨B6.out, _, true, rfl, by rw [HD.out]; rfl, OA.out, .inr ⟨k, rfl, HK.out, HD.out⟩⟩
  · have hne : ((n : Int) != 1) = true := by rw [bne_iff_ne]; omega
    have HN1 := Lib.hid (EN.out h1)
    have r5 := setRow_heap _ _ _ (#[.int .i64 0, .int .i64 0, .int .i64 0, .bool false, .string ⟨#[]⟩, .int .i64 0, .int .i64 0] : Array Value) _ _ K2.out
    have b5 : Below w.heap.size w (W1.setRow (w.heap.size + 1) #[.int .i64 0, .int .i64 0, .int .i64 0, .bool false, .string ⟨#[]⟩, .int .i64 0, .int .i64 0]) := Below.setRow HB.out (by omega) _
    have IZ : Hid ((Try.prog.info? 39).map (·.size) = some (#[.int .i64 0, .int .i64 0, .int .i64 0, .bool false, .string ⟨#[]⟩, .int .i64 0, .int .i64 0] : Array Value).size) := Lib.hid info_ask
    have OZ : Hid ((#[.int .i64 0, .int .i64 0, .int .i64 0, .bool false, .string ⟨#[]⟩, .int .i64 0, .int .i64 0] : Array Value).all (·.oneCell') = true) := Lib.hid (by simp [Value.oneCell'])
    have R5 := Lib.hid r5
    have B5 := Lib.hid b5
    clear r5 b5
    go_enter Try.func9, Try.ntmps9
    go_wp2_with (first
      | (rw [← HW0.out]; refine wpList_load_mid rfl 29 (.tmp 5) rfl w.heap.size 3 rfl ml _ HMR.out Try.underlying29 rfl iL.out ?_; rw [← HML.out])
      | (refine wpList_store_row rfl 29 (.tmp 4) (.tmp 6) rfl W0.heap.size M rfl rfl 29 _ RZ.out iM.out (by first | exact zM.out | exact zM.out.symm) oM.out ?_; rw [← HW1.out])
      | (refine wpList_store_row rfl 39 (.tmp 2) (.tmp 11) rfl (w.heap.size + 1) #[.int .i64 0, .int .i64 0, .int .i64 0, .bool false, .string ⟨#[]⟩, .int .i64 0, .int .i64 0] rfl rfl 39 _ K2.out IZ.out rfl OZ.out ?_)
      | fail)
    exact bodyPost_ret (results_ask rfl rfl R5.out rfl) rfl ⟨B5.out, _, false, rfl, rfl, OZ.out, .inl ⟨rfl, HN1.out⟩⟩
end Go.Proofs.Ytkihlcecjcjmlaa
