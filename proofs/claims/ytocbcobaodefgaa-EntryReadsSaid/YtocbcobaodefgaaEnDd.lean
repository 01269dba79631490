/-
  The landed entry: Decode.
-/
import Derived.Test.YtocbcobaodefgaaEnDc
namespace Go.Proofs.Ytocbcobaodefgaa
open Go.RowKit
set_option linter.unusedVariables false
set_option maxRecDepth 100000

theorem results_dec {c : Value} {tmps : Array Value} {W : World} {g : Nat} {cs : Array Value} (h2 : tmps.getD 2 undef = .pointer (some ⟨g, 0, none⟩)) (h3 : tmps.getD 3 undef = c)
    (r2 : W.heap[g]? = some (.cells cs 28 (0, 0))) (hs : cs.size = 9) :
    (results Try.f11 tmps).run Try.prog W = .ok (.tuple #[.agg cs, c]) W := by
  have q0 : (loadVar 28 ⟨g, 0, none⟩).run Try.prog W = .ok (.agg cs) W := run_loadVar_row W g 28 28 cs (0, 0) _ r2 Try.underlying28 rfl (by rw [hs]; exact info_en)
  subst h3
  have h2' : tmps[2]?.getD undef = .pointer (some ⟨g, 0, none⟩) := by simpa using h2
  simp [results, Try.results11, asAddr, h2', q0]
noncomputable def loadEn (v : Value) (w : World) : Result Next := ((Instr.loadAt 28 v).run Try.prog w).andThen fun a w' => .ok (.value a) w'
theorem exec_loadEn (ev : Operand → Value) (d : Option Tmp) (x : Operand) (t : TypeId) (p : String) (f : Array Edge) (gd : Option (Nat × Bool)) (w : World) : (execOp ev { dst := d, op := .load 28 x, type := t, pos := p, after := f, guard := gd }).run Try.prog w = loadEn (ev x) w := by
  unfold execOp loadEn
  simp only [Sem.run_bind, Sem.run_pure]
theorem loadEn_row {w1 : World} {g : Nat} {C : Array Value} (h : w1.heap[g]? = some (.cells C 28 (0, 0))) (hC : (Try.prog.info? 28).map (·.size) = some C.size) : loadEn (.pointer (some ⟨g, 0, none⟩)) w1 = .ok (.value (.agg C)) w1 := by
  unfold loadEn
  simp only [Instr.loadAt, Instr.sureAddr, Sem.run_bind, Sem.run_pure, Result.andThen_ok, run_loadVar_row w1 g 28 28 C (0, 0) _ h Try.underlying28 rfl hC]
attribute [local go_sem ↓] exec_loadEn
def DecP (M : Mach) (w : World) (b : Bs) (e : Ending) (w' : World) : Prop :=
  Below w.heap.size w w' ∧ ((noR M b = true ∧ e = .returned (.tuple #[.agg #[.bool false, .string ⟨#[]⟩, .int .i64 0, .int .i64 0, .int .i64 0, .int .i64 0, .int .i64 0, .string ⟨#[]⟩, .slice none 0 0], .int .i64 80])) ∨
    (noR M b = false ∧ ∃ A c, e = .returned (.tuple #[.agg (enC (decide (doesN M b = 1)) (entR M b) A c), .int .i64 0]) ∧ Byss w' A (entR M b).ds ∧ (entR M b).ds.length ≤ c ∧ c ≤ 9223372036854775807 ∧ (A = none → c = 0)))
theorem lop_bd : ∀ (n : Nat) (r : Rst) (ds : List Bs), (∀ x ∈ (lop ML n r ds).1, x ∈ ds ∨ x.length ≤ 65535) ∧ (lop ML n r ds).1.length ≤ ds.length + n
  | 0, r, ds => ⟨fun x hx => .inl hx, Nat.le_refl _⟩
  | n + 1, r, ds => by
    rw [lop]
    split
    · exact ⟨fun x hx => .inl hx, by simp⟩
    · obtain ⟨h1, h2⟩ := lop_bd n (prtR ML r 2) (ds ++ [prt ML r 2])
      refine ⟨fun x hx => ?_, by simp at h2; omega⟩
      rcases h1 x hx with h | h
      · rcases List.mem_append.1 h with h | h
        · exact .inl h
        · rw [List.mem_singleton.1 h]
          exact .inr (ML_prt r 2 (by omega))
      · exact .inr h
theorem sized_of {nm z : Bs} {t c rk kd ex : Int} {ds : List Bs} (h1 : nm.length ≤ 65535) (h2 : z.length ≤ 65535) (h3 : ∀ x ∈ ds, x.length ≤ 65535) (h4 : ds.length ≤ 65535) : Sized ⟨nm, t, c, rk, kd, ex, z, ds⟩ :=
  ⟨by show nm.length ≤ _; omega, by show z.length ≤ _; omega, fun x hx => by have := h3 x hx; omega, by show ds.length ≤ _; omega⟩
theorem sized_key (b : Bs) : Sized (keyR ML b) := by
  unfold keyR
  exact sized_of (ML_prt _ 1 (by omega)) (by simp) (fun x hx => by cases hx) (by simp)
theorem last_bd (b : Bs) : (∀ x ∈ (lastL ML b).1, x.length ≤ 65535) ∧ (lastL ML b).1.length ≤ 65535 := by
  unfold lastL
  have h5 := num_bd (rH ML b) 2 (by omega)
  generalize num ML (rH ML b) 2 = n at *
  generalize rI ML b = r at *
  obtain ⟨h3, h4⟩ := lop_bd n r []
  refine ⟨fun x hx => ?_, by rw [List.length_nil] at h4; omega⟩
  rcases h3 x hx with h | h
  · cases h
  · exact h
theorem sized_set (b : Bs) : Sized (setR ML b) := by
  unfold setR
  exact sized_of (ML_prt _ 1 (by omega)) (ML_prt _ 1 (by omega)) (last_bd b).1 (last_bd b).2
theorem tail_set (b : Bs) : tailR (rD ML b) (prt ML (rA ML b) 1) (num ML (rB ML b) 2) (num ML (rC ML b) 2) = setR ML b := by simp only [tailR, setR, lastL, rI, rH, rG, rF, rE]
theorem tail_end (b : Bs) : tailZ (rD ML b) = (lastL ML b).2 := by simp only [tailZ, lastL, rI, rH, rG, rF, rE]

set_option maxHeartbeats 8000000 in
set_option maxRecDepth 100000 in
theorem Dec_any (A : Option Addr) (b : Bs) (c : Nat) (w : World) (hb : Sl w A c b) : Calls Try.prog 11 #[.slice A b.length c] w (DecP ML w b) := by
  have rP := row_new (w := w) (k := w.heap.size) (.cells #[.bool false, .string ⟨#[]⟩, .int .i64 0, .int .i64 0, .int .i64 0, .int .i64 0, .int .i64 0, .string ⟨#[]⟩, .slice none 0 0] 28 (0, 0)) rfl
  have rZ := row_new (w := w.alloc (.cells #[.bool false, .string ⟨#[]⟩, .int .i64 0, .int .i64 0, .int .i64 0, .int .i64 0, .int .i64 0, .string ⟨#[]⟩, .slice none 0 0] 28)) (k := w.heap.size + 1) (.cells #[.slice none 0 0, .bool false] 61 (0, 0)) (by simp)
  have rG := setRow_heap _ _ _ #[.slice A b.length c, .bool false] _ _ rZ
  have bZ : Below w.heap.size w (((w.alloc (.cells #[.bool false, .string ⟨#[]⟩, .int .i64 0, .int .i64 0, .int .i64 0, .int .i64 0, .int .i64 0, .string ⟨#[]⟩, .slice none 0 0] 28)).alloc (.cells #[.slice none 0 0, .bool false] 61)).setRow (w.heap.size + 1) #[.slice A b.length c, .bool false]) := Below.setRow (Below.alloc (Below.alloc (Below.refl _ _) (Nat.le_refl _) _) (by simp) _) (by omega) _
  have qZ : Below (w.heap.size + 1) (w.alloc (.cells #[.bool false, .string ⟨#[]⟩, .int .i64 0, .int .i64 0, .int .i64 0, .int .i64 0, .int .i64 0, .string ⟨#[]⟩, .slice none 0 0] 28)) (((w.alloc (.cells #[.bool false, .string ⟨#[]⟩, .int .i64 0, .int .i64 0, .int .i64 0, .int .i64 0, .int .i64 0, .string ⟨#[]⟩, .slice none 0 0] 28)).alloc (.cells #[.slice none 0 0, .bool false] 61)).setRow (w.heap.size + 1) #[.slice A b.length c, .bool false]) := Below.setRow (Below.alloc (Below.refl _ _) (by simp) _) (Nat.le_refl _) _
  have P1 := (qZ.block _ (by omega)).trans rP
  have IR : Hid ((Try.prog.info? 61).map (·.size) = some (#[.slice A b.length c, .bool false] : Array Value).size) := Lib.hid (by kernel_rfl)
  have OR : Hid ((#[.slice A b.length c, .bool false] : Array Value).all (·.oneCell') = true) := Lib.hid (by simp [Value.oneCell'])
  have ZR : Hid ((#[.slice none 0 0, .bool false] : Array Value).size = (#[.slice A b.length c, .bool false] : Array Value).size) := Lib.hid rfl
  obtain ⟨W1, hW1⟩ : ∃ W1, W1 = ((w.alloc (.cells #[.bool false, .string ⟨#[]⟩, .int .i64 0, .int .i64 0, .int .i64 0, .int .i64 0, .int .i64 0, .string ⟨#[]⟩, .slice none 0 0] 28)).alloc (.cells #[.slice none 0 0, .bool false] 61)).setRow (w.heap.size + 1) #[.slice A b.length c, .bool false] := ⟨_, rfl⟩
  rw [← hW1] at rG bZ P1
  have HW1 := Lib.hid hW1
  have h1 : RDx w (w.heap.size + 1) 61 W1 ⟨b, false⟩ := ⟨A, c, rG, hb, bZ, by omega⟩
  have N1 := Lib.hid (number_small w (w.heap.size + 1) W1 ⟨b, false⟩ 1 h1 (by omega))
  have eA : num ML ⟨b, false⟩ 1 = doesN ML b := rfl
  have eB : ML.R ⟨b, false⟩ 1 = rA ML b := rfl
  rw [eA, eB] at N1
  have N2 := Lib.hid (fun W (h : RDx w (w.heap.size + 1) 61 W (rA ML b)) => part_any w (w.heap.size + 1) W (rA ML b) 1 h (by omega))
  have N3 := Lib.hid (fun W (h : RDx w (w.heap.size + 1) 61 W (rB ML b)) => number_small w (w.heap.size + 1) W (rB ML b) 2 h (by omega))
  have N4 := Lib.hid (fun W (h : RDx w (w.heap.size + 1) 61 W (rC ML b)) => number_small w (w.heap.size + 1) W (rC ML b) 2 h (by omega))
  have eC : prtR ML (rA ML b) 1 = rB ML b := rfl
  have eD : ML.R (rB ML b) 2 = rC ML b := rfl
  have eE : ML.R (rC ML b) 2 = rD ML b := rfl
  rw [eC] at N2
  rw [eD] at N3
  rw [eE] at N4
  have N5 := Lib.hid (fun W q (h : RDx w (w.heap.size + 1) 61 W (rD ML b)) (h2 : q ≠ w.heap.size + 1) (h3 : w.heap.size ≤ q) hr => rest_any w (w.heap.size + 1) q W (rD ML b) (prt ML (rA ML b) 1) (num ML (rB ML b) 2 : Nat) (num ML (rC ML b) 2 : Nat) h h2 h3 hr)
  rw [tail_set, tail_end] at N5
  have K1 := Lib.hid (fun A c W (hW : Byss W A (keyR ML b).ds) => can8_any true (keyR ML b) A c W hW (sized_key b))
  have K2 := Lib.hid (fun d A c W (hW : Byss W A (setR ML b).ds) => can8_any d (setR ML b) A c W hW (sized_set b))
  have eK : keyR ML b = ⟨prt ML (rA ML b) 1, (num ML (rB ML b) 2 : Nat), (num ML (rC ML b) 2 : Nat), 0, 0, 0, [], []⟩ := rfl
  have HN1 : Hid (doesN ML b = 1 → noR ML b = ((rD ML b).sh || (decide (0 < (rD ML b).l.length) || !canE true (keyR ML b)))) := Lib.hid (fun h => by unfold noR entR endR; rw [h]; simp)
  have HN2 : Hid (doesN ML b ≠ 1 → noR ML b = (decide (1 < doesN ML b) || ((lastL ML b).2.sh || (decide (0 < (lastL ML b).2.l.length) || !canE false (setR ML b))))) := Lib.hid (fun h => by unfold noR entR endR; rw [if_neg h, if_neg h, decide_eq_false h])
  have HE1 : Hid (doesN ML b = 1 → entR ML b = keyR ML b) := Lib.hid (fun h => by unfold entR; rw [if_pos h])
  have HE2 : Hid (doesN ML b ≠ 1 → entR ML b = setR ML b) := Lib.hid (fun h => by unfold entR; rw [if_neg h])
  have HD : Hid (∀ e w', DecP ML w b e w' ↔ (Below w.heap.size w w' ∧ ((noR ML b = true ∧ e = .returned (.tuple #[.agg #[.bool false, .string ⟨#[]⟩, .int .i64 0, .int .i64 0, .int .i64 0, .int .i64 0, .int .i64 0, .string ⟨#[]⟩, .slice none 0 0], .int .i64 80])) ∨ (noR ML b = false ∧ ∃ A c, e = .returned (.tuple #[.agg (enC (decide (doesN ML b = 1)) (entR ML b) A c), .int .i64 0]) ∧ Byss w' A (entR ML b).ds ∧ (entR ML b).ds.length ≤ c ∧ c ≤ 9223372036854775807 ∧ (A = none → c = 0))))) := Lib.hid (fun _ _ => Iff.rfl)
  obtain ⟨dn, hdn⟩ : ∃ n, n = doesN ML b := ⟨_, rfl⟩
  rw [← hdn] at N1 HN1 HN2 HE1 HE2 HD
  have hdb : dn < 65536 := by rw [hdn]; exact num_bd ⟨b, false⟩ 1 (by omega)
  clear hdn
  clear eA eB eC eD eE
  generalize lastL ML b = LL at *
  generalize rA ML b = ra at *
  generalize rB ML b = rb at *
  generalize rC ML b = rc at *
  generalize rD ML b = rd at *
  generalize prt ML ra 1 = nm at *
  generalize num ML rb 2 = tn at *
  generalize num ML rc 2 = cn at *
  generalize keyR ML b = sk at *
  generalize setR ML b = ss at *
  generalize entR ML b = se at *
  generalize noR ML b = NO at *
  generalize DecP ML w b = QQ at *
  have P1H := Lib.hid P1
  clear rP qZ bZ hW1 h1 P1 rG hb
  go_enter Try.func11, Try.ntmps11
  go_wp2_with (first
    | (refine wpList_store_row rfl 61 (.tmp 4) (.tmp 8) rfl (w.heap.size + 1) #[.slice A b.length c, .bool false] rfl rfl 61 _ rZ IR.out (by first | exact ZR.out | exact ZR.out.symm) OR.out ?_; rw [← HW1.out])
    | fail)
  refine N1.out.mono ?_
  rintro e w2 ⟨rfl, h2, g2⟩
  have P2 := Lib.hid ((g2.block w.heap.size (Array.getElem?_eq_some_iff.1 P1H.out).1 (by simp)).trans P1H.out)
  have p2 := (Array.getElem?_eq_some_iff.1 P2.out).1
  have gl2 : w.heap.size + 1 < w2.heap.size := by obtain ⟨_, _, h⟩ := h2; exact (Array.getElem?_eq_some_iff.1 h.row).1
  clear N1 rZ IR OR ZR HW1 P1H g2
  by_cases hd1 : dn = 1
  · have hd1' : (dn : Int) = 1 := by omega
    have rE := row_new (w := w2) (k := w2.heap.size) (.cells #[.bool false, .string ⟨#[]⟩, .int .i64 0, .int .i64 0, .int .i64 0, .int .i64 0, .int .i64 0, .string ⟨#[]⟩, .slice none 0 0] 28 (0, 0)) rfl
    have rG := setRow_heap _ _ _ #[.bool true, .string ⟨#[]⟩, .int .i64 0, .int .i64 0, .int .i64 0, .int .i64 0, .int .i64 0, .string ⟨#[]⟩, .slice none 0 0] _ _ rE
    have b3 : Below w2.heap.size w2 ((w2.alloc (.cells #[.bool false, .string ⟨#[]⟩, .int .i64 0, .int .i64 0, .int .i64 0, .int .i64 0, .int .i64 0, .string ⟨#[]⟩, .slice none 0 0] 28)).setRow w2.heap.size #[.bool true, .string ⟨#[]⟩, .int .i64 0, .int .i64 0, .int .i64 0, .int .i64 0, .int .i64 0, .string ⟨#[]⟩, .slice none 0 0]) := Below.setRow (Below.alloc (Below.refl _ _) (Nat.le_refl _) _) (Nat.le_refl _) _
    have IE : Hid ((Try.prog.info? 28).map (·.size) = some (#[.bool true, .string ⟨#[]⟩, .int .i64 0, .int .i64 0, .int .i64 0, .int .i64 0, .int .i64 0, .string ⟨#[]⟩, .slice none 0 0] : Array Value).size) := Lib.hid info_en
    have OE : Hid ((#[.bool true, .string ⟨#[]⟩, .int .i64 0, .int .i64 0, .int .i64 0, .int .i64 0, .int .i64 0, .string ⟨#[]⟩, .slice none 0 0] : Array Value).all (·.oneCell') = true) := Lib.hid (by simp [Value.oneCell'])
    have h3 := Lib.hid (h2.on b3)
    have P3 := Lib.hid ((b3.block w.heap.size p2).trans P2.out)
    obtain ⟨W3, hW3⟩ : ∃ W3, W3 = (w2.alloc (.cells #[.bool false, .string ⟨#[]⟩, .int .i64 0, .int .i64 0, .int .i64 0, .int .i64 0, .int .i64 0, .string ⟨#[]⟩, .slice none 0 0] 28)).setRow w2.heap.size #[.bool true, .string ⟨#[]⟩, .int .i64 0, .int .i64 0, .int .i64 0, .int .i64 0, .int .i64 0, .string ⟨#[]⟩, .slice none 0 0] := ⟨_, rfl⟩
    rw [← hW3] at rG h3 P3
    have HW3 := Lib.hid hW3
    have hqg : w2.heap.size ≠ w.heap.size + 1 := by omega
    have hq0 : w.heap.size ≤ w2.heap.size := by omega
    have hpq : w.heap.size ≠ w2.heap.size := by omega
    have R3 := Lib.hid rG
    clear h2 b3 P2 hW3 rG
    go_wp2_with (first
      | (refine wpList_store_row rfl 28 (.tmp 6) (.tmp 12) rfl w2.heap.size #[.bool true, .string ⟨#[]⟩, .int .i64 0, .int .i64 0, .int .i64 0, .int .i64 0, .int .i64 0, .string ⟨#[]⟩, .slice none 0 0] rfl rfl 28 _ rE IE.out rfl OE.out ?_; rw [← HW3.out])
      | fail)
    refine (N2.out _ h3.out).mono ?_
    rintro e w4 ⟨A5, c5, rfl, hs5, hx, gx⟩
    have r1 := (gx.block w2.heap.size (Array.getElem?_eq_some_iff.1 R3.out).1 (fun e => by injection e with e; exact hqg e)).trans R3.out
    have cv := string_bys A5 nm c5 w4 (hs5.bys.on hx.bel)
    obtain ⟨gs, r2, fz⟩ := set_row (i := 1) (.string (bs nm)) r1
    have there : w4.cell? ⟨w2.heap.size, 1, none⟩ = some (.string ⟨#[]⟩) := (cell_of_row _ _ 1 _ _ _ r1).trans rfl
    have pb := (gx.block w.heap.size (Array.getElem?_eq_some_iff.1 P3.out).1 (by simp)).trans P3.out
    have h4 := Lib.hid (hx.other gs hq0 hqg)
    have P4 := Lib.hid ((gs.block w.heap.size (Array.getElem?_eq_some_iff.1 pb).1 (fun e => by injection e with e; exact hpq e)).trans pb)
    have R4 := Lib.hid r2
    clear hx gx r1 gs r2 pb h3 P3 R3 hs5 IE OE HW3 rE
    go_wp2_with fail
    refine (N3.out _ h4.out).mono ?_
    rintro e w5 ⟨rfl, hx, gx⟩
    have r1 := (gx.block w2.heap.size (Array.getElem?_eq_some_iff.1 R4.out).1 (fun e => by injection e with e; exact hqg e)).trans R4.out
    obtain ⟨gs, r2, fz⟩ := set_row (i := 2) (.int .i64 (tn : Nat)) r1
    have there : w5.cell? ⟨w2.heap.size, 2, none⟩ = some (.int .i64 0) := (cell_of_row _ _ 2 _ _ _ r1).trans rfl
    have pb := (gx.block w.heap.size (Array.getElem?_eq_some_iff.1 P4.out).1 (by simp)).trans P4.out
    have h5 := Lib.hid (hx.other gs hq0 hqg)
    have P5 := Lib.hid ((gs.block w.heap.size (Array.getElem?_eq_some_iff.1 pb).1 (fun e => by injection e with e; exact hpq e)).trans pb)
    have R5 := Lib.hid r2
    clear hx gx r1 gs r2 pb h4 P4 R4
    go_wp2_with fail
    refine (N4.out _ h5.out).mono ?_
    rintro e w6 ⟨rfl, hx, gx⟩
    have r1 := (gx.block w2.heap.size (Array.getElem?_eq_some_iff.1 R5.out).1 (fun e => by injection e with e; exact hqg e)).trans R5.out
    obtain ⟨gs, r2, fz⟩ := set_row (i := 3) (.int .i64 (cn : Nat)) r1
    have there : w6.cell? ⟨w2.heap.size, 3, none⟩ = some (.int .i64 0) := (cell_of_row _ _ 3 _ _ _ r1).trans rfl
    have pb := (gx.block w.heap.size (Array.getElem?_eq_some_iff.1 P5.out).1 (by simp)).trans P5.out
    have h6 := Lib.hid (hx.other gs hq0 hqg)
    have P6 := Lib.hid ((gs.block w.heap.size (Array.getElem?_eq_some_iff.1 pb).1 (fun e => by injection e with e; exact hpq e)).trans pb)
    have R6 := Lib.hid r2
    clear hx gx r1 gs r2 pb h5 P5 R5
    obtain ⟨D, hD⟩ : ∃ D, D = enC true sk none 0 := ⟨_, rfl⟩
    have HDD := Lib.hid hD
    have R9 : Hid ((w6.setCell ⟨w2.heap.size, 3, none⟩ (.int .i64 (cn : Nat))).heap[w2.heap.size]? = some (.cells D 28 (0, 0))) := Lib.hid (by rw [hD, eK]; exact R6.out)
    have q0 : (w6.setCell ⟨w2.heap.size, 3, none⟩ (.int .i64 (cn : Nat))).cell? ⟨w2.heap.size, 0, none⟩ = some (.bool true) := by have := R9.out; rw [hD] at this; exact (en_cell this).1
    have hnil : sk.ds = [] := by rw [eK]
    have BY : Hid (∀ W, Byss W none sk.ds) := Lib.hid (fun W => by rw [hnil]; exact fun h => absurd h (by simp))
    have hc1 : sk.ds.length ≤ 0 := by rw [hnil]; exact Nat.le_refl _
    have hc2 : (0 : Nat) ≤ 9223372036854775807 := by omega
    clear R6 hD hnil HN2 HE2 K2 N5
    have HNO := Lib.hid (HN1.out hd1)
    have HEE := Lib.hid (HE1.out hd1)
    have HDC : Hid (decide (dn = 1) = true) := Lib.hid (decide_eq_true hd1)
    have KX := Lib.hid (K1.out none 0 (w6.setCell ⟨w2.heap.size, 3, none⟩ (.int .i64 (cn : Nat))) (BY.out _))
    rw [← HDD.out] at KX
    clear HN1 HE1 K1 eK
    obtain ⟨Ag, cg, hg⟩ := h6.out
    have g0 : (w6.setCell ⟨w2.heap.size, 3, none⟩ (.int .i64 (cn : Nat))).cell? ⟨w.heap.size + 1, 0, none⟩ = some (.slice Ag rd.l.length cg) := (cell_of_row _ _ 0 _ _ _ hg.row).trans rfl
    have g1 : (w6.setCell ⟨w2.heap.size, 3, none⟩ (.int .i64 (cn : Nat))).cell? ⟨w.heap.size + 1, 1, none⟩ = some (.bool rd.sh) := (cell_of_row _ _ 1 _ _ _ hg.row).trans rfl
    have bel := hg.bel
    have IZ : Hid ((Try.prog.info? 28).map (·.size) = some (#[.bool false, .string ⟨#[]⟩, .int .i64 0, .int .i64 0, .int .i64 0, .int .i64 0, .int .i64 0, .string ⟨#[]⟩, .slice none 0 0] : Array Value).size) := Lib.hid info_en
    have OZ : Hid ((#[.bool false, .string ⟨#[]⟩, .int .i64 0, .int .i64 0, .int .i64 0, .int .i64 0, .int .i64 0, .string ⟨#[]⟩, .slice none 0 0] : Array Value).all (·.oneCell') = true) := Lib.hid (by simp [Value.oneCell'])
    have ID : Hid ((Try.prog.info? 28).map (·.size) = some D.size) := Lib.hid (by rw [HDD.out]; exact info_en)
    have OD : Hid (D.all (·.oneCell') = true) := Lib.hid (by rw [HDD.out]; exact en_one _ _ _ _)
    have ZD : Hid ((#[.bool false, .string ⟨#[]⟩, .int .i64 0, .int .i64 0, .int .i64 0, .int .i64 0, .int .i64 0, .string ⟨#[]⟩, .slice none 0 0] : Array Value).size = D.size) := Lib.hid (by rw [HDD.out]; rfl)
    have LD := loadEn_row R9.out ID.out
    clear hg h6
    by_cases hgt : (1 : Int) < (dn : Int)
    · exact absurd hgt (by omega)
    · have hgn : ¬ (1 < dn) := by omega
      cases hsh : rd.sh with
      | true =>
        rw [hsh] at g1
        have hNOt : NO = true := by rw [HNO.out, hsh]; rfl
        have rF := setRow_heap _ _ _ #[.bool false, .string ⟨#[]⟩, .int .i64 0, .int .i64 0, .int .i64 0, .int .i64 0, .int .i64 0, .string ⟨#[]⟩, .slice none 0 0] _ _ P6.out
        have hbF := Below.setRow bel (Nat.le_refl w.heap.size) (#[.bool false, .string ⟨#[]⟩, .int .i64 0, .int .i64 0, .int .i64 0, .int .i64 0, .int .i64 0, .string ⟨#[]⟩, .slice none 0 0] : Array Value)
        have HF := Lib.hid ((HD.out (.returned (.tuple #[.agg #[.bool false, .string ⟨#[]⟩, .int .i64 0, .int .i64 0, .int .i64 0, .int .i64 0, .int .i64 0, .string ⟨#[]⟩, .slice none 0 0], .int .i64 80])) ((w6.setCell ⟨w2.heap.size, 3, none⟩ (.int .i64 (cn : Nat))).setRow w.heap.size #[.bool false, .string ⟨#[]⟩, .int .i64 0, .int .i64 0, .int .i64 0, .int .i64 0, .int .i64 0, .string ⟨#[]⟩, .slice none 0 0])).2 ⟨hbF, .inl ⟨hNOt, rfl⟩⟩)
        clear hNOt hbF
        go_wp2_with (first
          | (refine wpList_store_row rfl 28 (.tmp 2) (.tmp 45) rfl w.heap.size #[.bool false, .string ⟨#[]⟩, .int .i64 0, .int .i64 0, .int .i64 0, .int .i64 0, .int .i64 0, .string ⟨#[]⟩, .slice none 0 0] rfl rfl 28 _ P6.out IZ.out rfl OZ.out ?_)
          | fail)
        refine bodyPost_ret ?_ ?_ HF.out
        · exact results_dec rfl rfl rF rfl
        · rfl
      | false =>
        rw [hsh] at g1
        by_cases hl : (0 : Int) < (rd.l.length : Int)
        · have hl2 : 0 < rd.l.length := by omega
          have hNOt : NO = true := by rw [HNO.out, decide_eq_true hl2]; cases rd.sh <;> rfl
          have rF := setRow_heap _ _ _ #[.bool false, .string ⟨#[]⟩, .int .i64 0, .int .i64 0, .int .i64 0, .int .i64 0, .int .i64 0, .string ⟨#[]⟩, .slice none 0 0] _ _ P6.out
          have hbF := Below.setRow bel (Nat.le_refl w.heap.size) (#[.bool false, .string ⟨#[]⟩, .int .i64 0, .int .i64 0, .int .i64 0, .int .i64 0, .int .i64 0, .string ⟨#[]⟩, .slice none 0 0] : Array Value)
          have HF := Lib.hid ((HD.out (.returned (.tuple #[.agg #[.bool false, .string ⟨#[]⟩, .int .i64 0, .int .i64 0, .int .i64 0, .int .i64 0, .int .i64 0, .string ⟨#[]⟩, .slice none 0 0], .int .i64 80])) ((w6.setCell ⟨w2.heap.size, 3, none⟩ (.int .i64 (cn : Nat))).setRow w.heap.size #[.bool false, .string ⟨#[]⟩, .int .i64 0, .int .i64 0, .int .i64 0, .int .i64 0, .int .i64 0, .string ⟨#[]⟩, .slice none 0 0])).2 ⟨hbF, .inl ⟨hNOt, rfl⟩⟩)
          clear hNOt hbF
          go_wp2_with (first
            | (refine wpList_store_row rfl 28 (.tmp 2) (.tmp 45) rfl w.heap.size #[.bool false, .string ⟨#[]⟩, .int .i64 0, .int .i64 0, .int .i64 0, .int .i64 0, .int .i64 0, .string ⟨#[]⟩, .slice none 0 0] rfl rfl 28 _ P6.out IZ.out rfl OZ.out ?_)
            | fail)
          refine bodyPost_ret ?_ ?_ HF.out
          · exact results_dec rfl rfl rF rfl
          · rfl
        · have hl2 : ¬ 0 < rd.l.length := by omega
          have HSH := Lib.hid hsh
          clear hsh
          go_wp2_with fail
          refine KX.out.mono ?_
          rintro e wA ⟨rfl, qA⟩
          have belA := bel.trans (qA.mono bel.size)
          have PA := Lib.hid ((qA.block w.heap.size (Array.getElem?_eq_some_iff.1 P6.out).1).trans P6.out)
          have RA := Lib.hid ((qA.block w2.heap.size (Array.getElem?_eq_some_iff.1 R9.out).1).trans R9.out)
          have LA := loadEn_row RA.out ID.out
          clear LD
          cases hc : canE true sk with
          | false =>
            have hNOt : NO = true := by rw [HNO.out, hc]; cases rd.sh <;> cases decide (0 < rd.l.length) <;> rfl
            have rF := setRow_heap _ _ _ #[.bool false, .string ⟨#[]⟩, .int .i64 0, .int .i64 0, .int .i64 0, .int .i64 0, .int .i64 0, .string ⟨#[]⟩, .slice none 0 0] _ _ PA.out
            have hbF := Below.setRow belA (Nat.le_refl w.heap.size) (#[.bool false, .string ⟨#[]⟩, .int .i64 0, .int .i64 0, .int .i64 0, .int .i64 0, .int .i64 0, .string ⟨#[]⟩, .slice none 0 0] : Array Value)
            have HF := Lib.hid ((HD.out (.returned (.tuple #[.agg #[.bool false, .string ⟨#[]⟩, .int .i64 0, .int .i64 0, .int .i64 0, .int .i64 0, .int .i64 0, .string ⟨#[]⟩, .slice none 0 0], .int .i64 80])) (wA.setRow w.heap.size #[.bool false, .string ⟨#[]⟩, .int .i64 0, .int .i64 0, .int .i64 0, .int .i64 0, .int .i64 0, .string ⟨#[]⟩, .slice none 0 0])).2 ⟨hbF, .inl ⟨hNOt, rfl⟩⟩)
            clear hNOt hbF
            go_wp2_with (first
              | (refine wpList_store_row rfl 28 (.tmp 2) (.tmp 45) rfl w.heap.size #[.bool false, .string ⟨#[]⟩, .int .i64 0, .int .i64 0, .int .i64 0, .int .i64 0, .int .i64 0, .string ⟨#[]⟩, .slice none 0 0] rfl rfl 28 _ PA.out IZ.out rfl OZ.out ?_)
              | fail)
            refine bodyPost_ret ?_ ?_ HF.out
            · exact results_dec rfl rfl rF rfl
            · rfl
          | true =>
            have hNOf : NO = false := by rw [HNO.out, HSH.out, hc, decide_eq_false hl2]; rfl
            have rF := setRow_heap _ _ _ D _ _ PA.out
            have hbF := Below.setRow belA (Nat.le_refl w.heap.size) D
            have hBF : Byss (wA.setRow w.heap.size D) none sk.ds := BY.out _
            have HF := Lib.hid ((HD.out (.returned (.tuple #[.agg D, .int .i64 0])) (wA.setRow w.heap.size D)).2 ⟨hbF, .inr ⟨hNOf, none, 0, by rw [HDD.out, HEE.out, HDC.out], by rw [HEE.out]; exact hBF, by rw [HEE.out]; exact hc1, hc2, fun _ => rfl⟩⟩)
            have hsD : D.size = 9 := by rw [HDD.out]; rfl
            clear hNOf hbF hBF
            go_wp2_with (first
              | (refine wpList_store_row rfl 28 (.tmp 2) (.tmp 46) rfl w.heap.size D rfl rfl 28 _ PA.out ID.out (by first | exact ZD.out | exact ZD.out.symm) OD.out ?_)
              | fail)
            refine bodyPost_ret ?_ ?_ HF.out
            · exact results_dec rfl rfl rF hsD
            · rfl
  · have hd1' : ((dn : Int) == 1) = false := by simp; omega
    have rE := row_new (w := w2) (k := w2.heap.size) (.cells #[.bool false, .string ⟨#[]⟩, .int .i64 0, .int .i64 0, .int .i64 0, .int .i64 0, .int .i64 0, .string ⟨#[]⟩, .slice none 0 0] 28 (0, 0)) rfl
    have rG := setRow_heap _ _ _ #[.bool false, .string ⟨#[]⟩, .int .i64 0, .int .i64 0, .int .i64 0, .int .i64 0, .int .i64 0, .string ⟨#[]⟩, .slice none 0 0] _ _ rE
    have b3 : Below w2.heap.size w2 ((w2.alloc (.cells #[.bool false, .string ⟨#[]⟩, .int .i64 0, .int .i64 0, .int .i64 0, .int .i64 0, .int .i64 0, .string ⟨#[]⟩, .slice none 0 0] 28)).setRow w2.heap.size #[.bool false, .string ⟨#[]⟩, .int .i64 0, .int .i64 0, .int .i64 0, .int .i64 0, .int .i64 0, .string ⟨#[]⟩, .slice none 0 0]) := Below.setRow (Below.alloc (Below.refl _ _) (Nat.le_refl _) _) (Nat.le_refl _) _
    have IE : Hid ((Try.prog.info? 28).map (·.size) = some (#[.bool false, .string ⟨#[]⟩, .int .i64 0, .int .i64 0, .int .i64 0, .int .i64 0, .int .i64 0, .string ⟨#[]⟩, .slice none 0 0] : Array Value).size) := Lib.hid info_en
    have OE : Hid ((#[.bool false, .string ⟨#[]⟩, .int .i64 0, .int .i64 0, .int .i64 0, .int .i64 0, .int .i64 0, .string ⟨#[]⟩, .slice none 0 0] : Array Value).all (·.oneCell') = true) := Lib.hid (by simp [Value.oneCell'])
    have h3 := Lib.hid (h2.on b3)
    have P3 := Lib.hid ((b3.block w.heap.size p2).trans P2.out)
    obtain ⟨W3, hW3⟩ : ∃ W3, W3 = (w2.alloc (.cells #[.bool false, .string ⟨#[]⟩, .int .i64 0, .int .i64 0, .int .i64 0, .int .i64 0, .int .i64 0, .string ⟨#[]⟩, .slice none 0 0] 28)).setRow w2.heap.size #[.bool false, .string ⟨#[]⟩, .int .i64 0, .int .i64 0, .int .i64 0, .int .i64 0, .int .i64 0, .string ⟨#[]⟩, .slice none 0 0] := ⟨_, rfl⟩
    rw [← hW3] at rG h3 P3
    have HW3 := Lib.hid hW3
    have hqg : w2.heap.size ≠ w.heap.size + 1 := by omega
    have hq0 : w.heap.size ≤ w2.heap.size := by omega
    have hpq : w.heap.size ≠ w2.heap.size := by omega
    have R3 := Lib.hid rG
    clear h2 b3 P2 hW3 rG
    go_wp2_with (first
      | (refine wpList_store_row rfl 28 (.tmp 6) (.tmp 12) rfl w2.heap.size #[.bool false, .string ⟨#[]⟩, .int .i64 0, .int .i64 0, .int .i64 0, .int .i64 0, .int .i64 0, .string ⟨#[]⟩, .slice none 0 0] rfl rfl 28 _ rE IE.out rfl OE.out ?_; rw [← HW3.out])
      | fail)
    refine (N2.out _ h3.out).mono ?_
    rintro e w4 ⟨A5, c5, rfl, hs5, hx, gx⟩
    have r1 := (gx.block w2.heap.size (Array.getElem?_eq_some_iff.1 R3.out).1 (fun e => by injection e with e; exact hqg e)).trans R3.out
    have cv := string_bys A5 nm c5 w4 (hs5.bys.on hx.bel)
    obtain ⟨gs, r2, fz⟩ := set_row (i := 1) (.string (bs nm)) r1
    have there : w4.cell? ⟨w2.heap.size, 1, none⟩ = some (.string ⟨#[]⟩) := (cell_of_row _ _ 1 _ _ _ r1).trans rfl
    have pb := (gx.block w.heap.size (Array.getElem?_eq_some_iff.1 P3.out).1 (by simp)).trans P3.out
    have h4 := Lib.hid (hx.other gs hq0 hqg)
    have P4 := Lib.hid ((gs.block w.heap.size (Array.getElem?_eq_some_iff.1 pb).1 (fun e => by injection e with e; exact hpq e)).trans pb)
    have R4 := Lib.hid r2
    clear hx gx r1 gs r2 pb h3 P3 R3 hs5 IE OE HW3 rE
    go_wp2_with fail
    refine (N3.out _ h4.out).mono ?_
    rintro e w5 ⟨rfl, hx, gx⟩
    have r1 := (gx.block w2.heap.size (Array.getElem?_eq_some_iff.1 R4.out).1 (fun e => by injection e with e; exact hqg e)).trans R4.out
    obtain ⟨gs, r2, fz⟩ := set_row (i := 2) (.int .i64 (tn : Nat)) r1
    have there : w5.cell? ⟨w2.heap.size, 2, none⟩ = some (.int .i64 0) := (cell_of_row _ _ 2 _ _ _ r1).trans rfl
    have pb := (gx.block w.heap.size (Array.getElem?_eq_some_iff.1 P4.out).1 (by simp)).trans P4.out
    have h5 := Lib.hid (hx.other gs hq0 hqg)
    have P5 := Lib.hid ((gs.block w.heap.size (Array.getElem?_eq_some_iff.1 pb).1 (fun e => by injection e with e; exact hpq e)).trans pb)
    have R5 := Lib.hid r2
    clear hx gx r1 gs r2 pb h4 P4 R4
    go_wp2_with fail
    refine (N4.out _ h5.out).mono ?_
    rintro e w6 ⟨rfl, hx, gx⟩
    have r1 := (gx.block w2.heap.size (Array.getElem?_eq_some_iff.1 R5.out).1 (fun e => by injection e with e; exact hqg e)).trans R5.out
    obtain ⟨gs, r2, fz⟩ := set_row (i := 3) (.int .i64 (cn : Nat)) r1
    have there : w6.cell? ⟨w2.heap.size, 3, none⟩ = some (.int .i64 0) := (cell_of_row _ _ 3 _ _ _ r1).trans rfl
    have pb := (gx.block w.heap.size (Array.getElem?_eq_some_iff.1 P5.out).1 (by simp)).trans P5.out
    have h6 := Lib.hid (hx.other gs hq0 hqg)
    have P6 := Lib.hid ((gs.block w.heap.size (Array.getElem?_eq_some_iff.1 pb).1 (fun e => by injection e with e; exact hpq e)).trans pb)
    have R6 := Lib.hid r2
    clear hx gx r1 gs r2 pb h5 P5 R5
    have R9 : Hid ((w6.setCell ⟨w2.heap.size, 3, none⟩ (.int .i64 (cn : Nat))).heap[w2.heap.size]? = some (.cells (enC false ⟨nm, tn, cn, 0, 0, 0, [], []⟩ none 0) 28 (0, 0))) := Lib.hid R6.out
    have q0 : (w6.setCell ⟨w2.heap.size, 3, none⟩ (.int .i64 (cn : Nat))).cell? ⟨w2.heap.size, 0, none⟩ = some (.bool false) := (en_cell R9.out).1
    have HNO := Lib.hid (HN2.out hd1)
    have HEE := Lib.hid (HE2.out hd1)
    have HDC : Hid (decide (dn = 1) = false) := Lib.hid (decide_eq_false hd1)
    clear R6 HN1 HN2 HE1 HE2 K1 eK
    have N6 := Lib.hid (N5.out (w6.setCell ⟨w2.heap.size, 3, none⟩ (.int .i64 (cn : Nat))) w2.heap.size h6.out hqg hq0 R9.out)
    have plt := (Array.getElem?_eq_some_iff.1 P6.out).1
    obtain ⟨rz, hrz⟩ : ∃ z, z = LL.2 := ⟨_, rfl⟩
    rw [← hrz] at N6 HNO
    clear R9 h6 hrz N5
    go_wp2_with fail
    refine N6.out.mono ?_
    rintro e w9 ⟨rfl, ⟨A, c, hR9, hfar, hBy, hc1, hc2, hc3⟩, hz9, hK9⟩
    have P9 := Lib.hid ((hK9.blk w.heap.size plt (by omega) hpq).trans P6.out)
    obtain ⟨D, hD⟩ : ∃ D, D = enC false ss A c := ⟨_, rfl⟩
    have HDD := Lib.hid hD
    rw [← hD] at hR9
    have R9 := Lib.hid hR9
    have h9 := Lib.hid hz9
    have HBY := Lib.hid hBy
    have HFAR := Lib.hid hfar
    have HC3 := Lib.hid hc3
    have KX := Lib.hid (K2.out false A c w9 hBy)
    rw [← hD] at KX
    have PLT := Lib.hid plt
    clear hD hR9 hz9 hBy hfar hc3 hK9 N6 P6 q0 K2 plt
    obtain ⟨Ag, cg, hg⟩ := h9.out
    have g0 : w9.cell? ⟨w.heap.size + 1, 0, none⟩ = some (.slice Ag rz.l.length cg) := (cell_of_row _ _ 0 _ _ _ hg.row).trans rfl
    have g1 : w9.cell? ⟨w.heap.size + 1, 1, none⟩ = some (.bool rz.sh) := (cell_of_row _ _ 1 _ _ _ hg.row).trans rfl
    have bel := hg.bel
    have IZ : Hid ((Try.prog.info? 28).map (·.size) = some (#[.bool false, .string ⟨#[]⟩, .int .i64 0, .int .i64 0, .int .i64 0, .int .i64 0, .int .i64 0, .string ⟨#[]⟩, .slice none 0 0] : Array Value).size) := Lib.hid info_en
    have OZ : Hid ((#[.bool false, .string ⟨#[]⟩, .int .i64 0, .int .i64 0, .int .i64 0, .int .i64 0, .int .i64 0, .string ⟨#[]⟩, .slice none 0 0] : Array Value).all (·.oneCell') = true) := Lib.hid (by simp [Value.oneCell'])
    have ID : Hid ((Try.prog.info? 28).map (·.size) = some D.size) := Lib.hid (by rw [HDD.out]; exact info_en)
    have OD : Hid (D.all (·.oneCell') = true) := Lib.hid (by rw [HDD.out]; exact en_one _ _ _ _)
    have ZD : Hid ((#[.bool false, .string ⟨#[]⟩, .int .i64 0, .int .i64 0, .int .i64 0, .int .i64 0, .int .i64 0, .string ⟨#[]⟩, .slice none 0 0] : Array Value).size = D.size) := Lib.hid (by rw [HDD.out]; rfl)
    have LD := loadEn_row R9.out ID.out
    clear hg h9
    by_cases hgt : (1 : Int) < (dn : Int)
    · have hNOt : NO = true := by rw [HNO.out, decide_eq_true (show 1 < dn by omega)]; rfl
      have rF := setRow_heap _ _ _ #[.bool false, .string ⟨#[]⟩, .int .i64 0, .int .i64 0, .int .i64 0, .int .i64 0, .int .i64 0, .string ⟨#[]⟩, .slice none 0 0] _ _ P9.out
      have hbF := Below.setRow bel (Nat.le_refl w.heap.size) (#[.bool false, .string ⟨#[]⟩, .int .i64 0, .int .i64 0, .int .i64 0, .int .i64 0, .int .i64 0, .string ⟨#[]⟩, .slice none 0 0] : Array Value)
      have HF := Lib.hid ((HD.out (.returned (.tuple #[.agg #[.bool false, .string ⟨#[]⟩, .int .i64 0, .int .i64 0, .int .i64 0, .int .i64 0, .int .i64 0, .string ⟨#[]⟩, .slice none 0 0], .int .i64 80])) (w9.setRow w.heap.size #[.bool false, .string ⟨#[]⟩, .int .i64 0, .int .i64 0, .int .i64 0, .int .i64 0, .int .i64 0, .string ⟨#[]⟩, .slice none 0 0])).2 ⟨hbF, .inl ⟨hNOt, rfl⟩⟩)
      clear hNOt hbF
      go_wp2_with (first
        | (refine wpList_store_row rfl 28 (.tmp 2) (.tmp 45) rfl w.heap.size #[.bool false, .string ⟨#[]⟩, .int .i64 0, .int .i64 0, .int .i64 0, .int .i64 0, .int .i64 0, .string ⟨#[]⟩, .slice none 0 0] rfl rfl 28 _ P9.out IZ.out rfl OZ.out ?_)
        | fail)
      refine bodyPost_ret ?_ ?_ HF.out
      · exact results_dec rfl rfl rF rfl
      · rfl
    · have hgn : ¬ (1 < dn) := by omega
      cases hsh : rz.sh with
      | true =>
        rw [hsh] at g1
        have hNOt : NO = true := by rw [HNO.out, hsh]; cases decide (1 < dn) <;> rfl
        have rF := setRow_heap _ _ _ #[.bool false, .string ⟨#[]⟩, .int .i64 0, .int .i64 0, .int .i64 0, .int .i64 0, .int .i64 0, .string ⟨#[]⟩, .slice none 0 0] _ _ P9.out
        have hbF := Below.setRow bel (Nat.le_refl w.heap.size) (#[.bool false, .string ⟨#[]⟩, .int .i64 0, .int .i64 0, .int .i64 0, .int .i64 0, .int .i64 0, .string ⟨#[]⟩, .slice none 0 0] : Array Value)
        have HF := Lib.hid ((HD.out (.returned (.tuple #[.agg #[.bool false, .string ⟨#[]⟩, .int .i64 0, .int .i64 0, .int .i64 0, .int .i64 0, .int .i64 0, .string ⟨#[]⟩, .slice none 0 0], .int .i64 80])) (w9.setRow w.heap.size #[.bool false, .string ⟨#[]⟩, .int .i64 0, .int .i64 0, .int .i64 0, .int .i64 0, .int .i64 0, .string ⟨#[]⟩, .slice none 0 0])).2 ⟨hbF, .inl ⟨hNOt, rfl⟩⟩)
        clear hNOt hbF
        go_wp2_with (first
          | (refine wpList_store_row rfl 28 (.tmp 2) (.tmp 45) rfl w.heap.size #[.bool false, .string ⟨#[]⟩, .int .i64 0, .int .i64 0, .int .i64 0, .int .i64 0, .int .i64 0, .string ⟨#[]⟩, .slice none 0 0] rfl rfl 28 _ P9.out IZ.out rfl OZ.out ?_)
          | fail)
        refine bodyPost_ret ?_ ?_ HF.out
        · exact results_dec rfl rfl rF rfl
        · rfl
      | false =>
        rw [hsh] at g1
        by_cases hl : (0 : Int) < (rz.l.length : Int)
        · have hl2 : 0 < rz.l.length := by omega
          have hNOt : NO = true := by rw [HNO.out, decide_eq_true hl2]; cases decide (1 < dn) <;> cases rz.sh <;> rfl
          have rF := setRow_heap _ _ _ #[.bool false, .string ⟨#[]⟩, .int .i64 0, .int .i64 0, .int .i64 0, .int .i64 0, .int .i64 0, .string ⟨#[]⟩, .slice none 0 0] _ _ P9.out
          have hbF := Below.setRow bel (Nat.le_refl w.heap.size) (#[.bool false, .string ⟨#[]⟩, .int .i64 0, .int .i64 0, .int .i64 0, .int .i64 0, .int .i64 0, .string ⟨#[]⟩, .slice none 0 0] : Array Value)
          have HF := Lib.hid ((HD.out (.returned (.tuple #[.agg #[.bool false, .string ⟨#[]⟩, .int .i64 0, .int .i64 0, .int .i64 0, .int .i64 0, .int .i64 0, .string ⟨#[]⟩, .slice none 0 0], .int .i64 80])) (w9.setRow w.heap.size #[.bool false, .string ⟨#[]⟩, .int .i64 0, .int .i64 0, .int .i64 0, .int .i64 0, .int .i64 0, .string ⟨#[]⟩, .slice none 0 0])).2 ⟨hbF, .inl ⟨hNOt, rfl⟩⟩)
          clear hNOt hbF
          go_wp2_with (first
            | (refine wpList_store_row rfl 28 (.tmp 2) (.tmp 45) rfl w.heap.size #[.bool false, .string ⟨#[]⟩, .int .i64 0, .int .i64 0, .int .i64 0, .int .i64 0, .int .i64 0, .string ⟨#[]⟩, .slice none 0 0] rfl rfl 28 _ P9.out IZ.out rfl OZ.out ?_)
            | fail)
          refine bodyPost_ret ?_ ?_ HF.out
          · exact results_dec rfl rfl rF rfl
          · rfl
        · have hl2 : ¬ 0 < rz.l.length := by omega
          have HSH := Lib.hid hsh
          clear hsh
          go_wp2_with fail
          refine KX.out.mono ?_
          rintro e wA ⟨rfl, qA⟩
          have belA := bel.trans (qA.mono bel.size)
          have PA := Lib.hid ((qA.block w.heap.size (Array.getElem?_eq_some_iff.1 P9.out).1).trans P9.out)
          have RA := Lib.hid ((qA.block w2.heap.size (Array.getElem?_eq_some_iff.1 R9.out).1).trans R9.out)
          have LA := loadEn_row RA.out ID.out
          clear LD
          cases hc : canE false ss with
          | false =>
            have hNOt : NO = true := by rw [HNO.out, hc]; cases decide (1 < dn) <;> cases rz.sh <;> cases decide (0 < rz.l.length) <;> rfl
            have rF := setRow_heap _ _ _ #[.bool false, .string ⟨#[]⟩, .int .i64 0, .int .i64 0, .int .i64 0, .int .i64 0, .int .i64 0, .string ⟨#[]⟩, .slice none 0 0] _ _ PA.out
            have hbF := Below.setRow belA (Nat.le_refl w.heap.size) (#[.bool false, .string ⟨#[]⟩, .int .i64 0, .int .i64 0, .int .i64 0, .int .i64 0, .int .i64 0, .string ⟨#[]⟩, .slice none 0 0] : Array Value)
            have HF := Lib.hid ((HD.out (.returned (.tuple #[.agg #[.bool false, .string ⟨#[]⟩, .int .i64 0, .int .i64 0, .int .i64 0, .int .i64 0, .int .i64 0, .string ⟨#[]⟩, .slice none 0 0], .int .i64 80])) (wA.setRow w.heap.size #[.bool false, .string ⟨#[]⟩, .int .i64 0, .int .i64 0, .int .i64 0, .int .i64 0, .int .i64 0, .string ⟨#[]⟩, .slice none 0 0])).2 ⟨hbF, .inl ⟨hNOt, rfl⟩⟩)
            clear hNOt hbF
            go_wp2_with (first
              | (refine wpList_store_row rfl 28 (.tmp 2) (.tmp 45) rfl w.heap.size #[.bool false, .string ⟨#[]⟩, .int .i64 0, .int .i64 0, .int .i64 0, .int .i64 0, .int .i64 0, .string ⟨#[]⟩, .slice none 0 0] rfl rfl 28 _ PA.out IZ.out rfl OZ.out ?_)
              | fail)
            refine bodyPost_ret ?_ ?_ HF.out
            · exact results_dec rfl rfl rF rfl
            · rfl
          | true =>
            have hNOf : NO = false := by rw [HNO.out, HSH.out, hc, decide_eq_false hl2, decide_eq_false hgn]; rfl
            have rF := setRow_heap _ _ _ D _ _ PA.out
            have hbF := Below.setRow belA (Nat.le_refl w.heap.size) D
            have hBF : Byss (wA.setRow w.heap.size D) A ss.ds := HFAR.out w.heap.size _ PLT.out (grown_trans (grown_of_below qA _) (grownBy_setRow D) (fun k hk => .inl hk))
            have HF := Lib.hid ((HD.out (.returned (.tuple #[.agg D, .int .i64 0])) (wA.setRow w.heap.size D)).2 ⟨hbF, .inr ⟨hNOf, A, c, by rw [HDD.out, HEE.out, HDC.out], by rw [HEE.out]; exact hBF, by rw [HEE.out]; exact hc1, hc2, HC3.out⟩⟩)
            have hsD : D.size = 9 := by rw [HDD.out]; rfl
            clear hNOf hbF hBF
            go_wp2_with (first
              | (refine wpList_store_row rfl 28 (.tmp 2) (.tmp 46) rfl w.heap.size D rfl rfl 28 _ PA.out ID.out (by first | exact ZD.out | exact ZD.out.symm) OD.out ?_)
              | fail)
            refine bodyPost_ret ?_ ?_ HF.out
            · exact results_dec rfl rfl rF hsD
            · rfl
end Go.Proofs.Ytocbcobaodefgaa
