/-
  The walk of RdataBack.
-/
import Derived.Test.YtbcgpdoljcokgaaRcH
namespace Go.Proofs.Ytbcgpdoljcokgaa
open Go.RowKit
set_option linter.unusedVariables false

theorem fit_out {n : Int} (h : fit n = true) : n = (n.toNat : Int) ∧ n.toNat < 4294967296 := by
  simp [fit] at h; omega
theorem canD_of_soa {l : Bs} {s : Soa} (h : soa l = some s) : canD 6 l = true := by
  have hl := soa_len h
  rw [canD_in (by omega)]; simp [h]
theorem canD_no_soa {l : Bs} (h : soa l = none) : canD 6 l = false := by
  by_cases hf : (6 : Int) < 0 ∨ 65535 < (6 : Int) ∨ 65535 < l.length
  · exact canD_far hf
  · rw [canD_in hf]; simp [h]
theorem makes_soa {m r : Bs} {a b c d e : Int} (h : makes m r [a, b, c, d, e] = true) : ∃ s, soa (m ++ r ++ putL [a, b, c, d, e]) = some s ∧ soaC (some s) = soa7 m r a b c d e := by
  unfold makes at h
  simp only [Bool.and_eq_true, List.all_cons, List.all_nil] at h
  obtain ⟨hm, hr, ha, hb, hc, hd, he, _⟩ := h
  obtain ⟨ea, la⟩ := fit_out ha
  obtain ⟨eb, lb⟩ := fit_out hb
  obtain ⟨ec, lc⟩ := fit_out hc
  obtain ⟨ed, ld⟩ := fit_out hd
  obtain ⟨ee, le⟩ := fit_out he
  rw [ea, eb, ec, ed, ee]
  generalize a.toNat = a' at *
  generalize b.toNat = b' at *
  generalize c.toNat = c' at *
  generalize d.toNat = d' at *
  generalize e.toNat = e' at *
  exact ⟨_, soa_there hm hr la lb lc ld le, rfl⟩
theorem soa_makes {l : Bs} {s : Soa} (h : soa l = some s) : mkB s.m s.r [(s.a : Int), s.b, s.c, s.d, s.e] = l ∧ mkE s.m s.r [(s.a : Int), s.b, s.c, s.d, s.e] = 0 := by
  obtain ⟨h1, h2, ha, hb, hc, hd, he, hl⟩ := soa_back h
  have hm : makes s.m s.r [(s.a : Int), s.b, s.c, s.d, s.e] = true := by
    unfold makes
    simp [h1, h2, fit_nat ha, fit_nat hb, fit_nat hc, fit_nat hd, fit_nat he]
  unfold mkB mkE
  rw [hm, if_pos rfl, if_pos rfl]
  exact ⟨hl.symm, rfl⟩

/-- An SOA loaded whole; two SOAs held against each other: the walk does not open them. -/
noncomputable def loadSoa (v : Value) (w : World) : Result Next := ((Instr.loadAt 30 v).run Try.prog w).andThen fun a w' => .ok (.value a) w'
theorem exec_loadSoa (ev : Operand → Value) (d : Option Tmp) (x : Operand) (t : TypeId) (p : String) (f : Array Edge) (gd : Option (Nat × Bool)) (w : World) : (execOp ev { dst := d, op := .load 30 x, type := t, pos := p, after := f, guard := gd }).run Try.prog w = loadSoa (ev x) w := by
  unfold execOp loadSoa
  simp only [Sem.run_bind, Sem.run_pure]
theorem loadSoa_row {w1 : World} {g : Nat} {C : Array Value} (h : w1.heap[g]? = some (.cells C 30 (0, 0))) (hC : (Try.prog.info? 30).map (·.size) = some C.size) : loadSoa (.pointer (some ⟨g, 0, none⟩)) w1 = .ok (.value (.agg C)) w1 := by
  unfold loadSoa
  simp only [Instr.loadAt, Instr.sureAddr, Sem.run_bind, Sem.run_pure, Result.andThen_ok, run_loadVar_row w1 g 30 30 C (0, 0) _ h Try.underlying30 rfl hC]
noncomputable def neqSoa (v u : Value) (w : World) : Result Next := ((do eqGuard .neq 30 (.tmp 0) (.tmp 0) v u; binOp .neq 30 v u : Sem Value).run Try.prog w).andThen fun a w' => .ok (.value a) w'
theorem exec_neqSoa (ev : Operand → Value) (d : Option Tmp) (i j : Tmp) (ty t : TypeId) (p : String) (f : Array Edge) (gd : Option (Nat × Bool)) (w : World) : (execOp ev { dst := d, op := .binOp .neq 30 (.tmp i) (.tmp j) ty, type := t, pos := p, after := f, guard := gd }).run Try.prog w = neqSoa (ev (.tmp i)) (ev (.tmp j)) w := by
  unfold execOp neqSoa
  simp only [Sem.run_bind, Sem.run_pure]
  rfl
theorem neqSoa_same {S : Array Value} (hS : ∀ w, (Op.equalIn 10000 30 (.agg S) (.agg S)).run Try.prog w = .ok true w) (w : World) : neqSoa (.agg S) (.agg S) w = .ok (.value (.bool false)) w := by
  unfold neqSoa
  simp only [Sem.run_bind, neq_guard, run_neq_struct, hS, Result.andThen_ok]
  rfl
attribute [local go_sem ↓] exec_loadSoa exec_neqSoa

set_option maxHeartbeats 4000000 in
set_option maxRecDepth 100000 in
theorem Back_any (m r : Bs) (a b c d e : Int) (A : Option Addr) (l : Bs) (cp : Nat) (w : World) (hS : Bys w A l) (hc : l.length ≤ cp) (hcm : cp ≤ 9223372036854775807) :
    Calls Try.prog 5 #[.agg (soa7 m r a b c d e), .slice A l.length cp] w fun e w' => e = .returned (.bool true) ∧ Below w.heap.size w w' := by
  have D1 := Lib.hid (fun W (hW : Bys W A l) => dSOA_any A l cp W hW hc hcm)
  unfold SoaPost at D1
  have TN : Hid (soa l = none → ∀ W, Bys W A l → Calls Try.prog 11 #[.int .i64 6, .slice A l.length cp] W fun e w' => e = .returned (.bool false) ∧ Below W.heap.size W w') := Lib.hid (fun h W hW => by have := rCanD_any 6 A l cp W hW hc hcm; rw [canD_no_soa h] at this; exact this)
  have TB : Hid (∀ s, soa l = some s → ∀ W, Calls Try.prog 18 #[.agg (soaC (soa l))] W (MakeP W l 0)) := Lib.hid (fun s h W => by
    have := (dMake_any s.m s.r s.a s.b s.c s.d s.e W).mono fun _ _ h => h.to
    rw [(soa_makes h).1, (soa_makes h).2] at this
    rw [h]
    exact this)
  obtain ⟨m1, r1, a1, b1, c1, d1, e1, hq⟩ := soaC_soa7 (soa l)
  have z1 := soa7_size m1 r1 a1 b1 c1 d1 e1
  have o1 := soa7_one m1 r1 a1 b1 c1 d1 e1
  rw [← hq] at z1 o1
  clear hq
  have M1 := Lib.hid (fun W => (dMake_any m r a b c d e W).mono fun _ _ h => h.to)
  have M2 := Lib.hid (fun W => (rMake_any m r a b c d e W).mono fun _ _ h => h.to)
  obtain ⟨P, hP⟩ : ∃ P, P = soa7 m r a b c d e := ⟨_, rfl⟩
  have hP' : P = #[.string (bs m), .string (bs r), .int .i64 a, .int .i64 b, .int .i64 c, .int .i64 d, .int .i64 e] := hP
  have EQ := Lib.hid (fun w => same_soa7 m r a b c d e w)
  rw [← hP'] at M1 M2
  rw [← hP]
  rw [← hP] at EQ
  have z2 := soa7_size m r a b c d e
  have o2 := soa7_one m r a b c d e
  rw [← hP] at z2 o2
  have FE : (mkE m r [a, b, c, d, e] = 0 ∧ Hid (∀ B k W, Bys W B (mkB m r [a, b, c, d, e]) → (mkB m r [a, b, c, d, e]).length ≤ k → k ≤ 9223372036854775807 → Calls Try.prog 16 #[.slice B (mkB m r [a, b, c, d, e]).length k] W fun e w' => e = .returned (.tuple #[.agg P, .bool true]) ∧ Below W.heap.size W w') ∧
      Hid (∀ B k W, Bys W B (mkB m r [a, b, c, d, e]) → (mkB m r [a, b, c, d, e]).length ≤ k → k ≤ 9223372036854775807 → Calls Try.prog 10 #[.int .i64 6, .slice B (mkB m r [a, b, c, d, e]).length k] W fun e w' => e = .returned (.bool true) ∧ Below W.heap.size W w')) ∨ mkE m r [a, b, c, d, e] = 1 := by
    cases hm : makes m r [a, b, c, d, e] with
    | false => right; unfold mkE; rw [hm]; rfl
    | true =>
      left
      obtain ⟨s, hs, hsc⟩ := makes_soa hm
      have hx : mkB m r [a, b, c, d, e] = m ++ r ++ putL [a, b, c, d, e] := by unfold mkB; rw [hm]; rfl
      rw [← hx] at hs
      refine ⟨by unfold mkE; rw [hm]; rfl, Lib.hid fun B k W hW h1 h2 => ?_, Lib.hid fun B k W hW h1 h2 => ?_⟩
      · have := dSOA_any B _ k W hW h1 h2
        unfold SoaPost at this
        rw [hs, hsc, ← hP] at this
        exact this
      · have := dCan_any 6 B _ k W hW h1 h2
        rw [canD_of_soa hs] at this
        exact this
  generalize mkB m r [a, b, c, d, e] = x at *
  generalize mkE m r [a, b, c, d, e] = E at *
  obtain ⟨S, hSS⟩ : ∃ S, S = soaC (soa l) := ⟨_, rfl⟩
  rw [← hSS] at D1 TB z1 o1
  have X := Lib.hid (fun B D n d W (hW : Bys W B l) (hX : Bys W D l) => by have := EqualB_any B D l l l.length l.length n d W hW hX rfl rfl; rw [show (l == l) = true by simp] at this; exact this)
  have I1 := Lib.hid (soa_info z1)
  have I2 := Lib.hid (soa_info z2)
  have Z0 : Hid ((#[.string ⟨#[]⟩, .string ⟨#[]⟩, .int .i64 0, .int .i64 0, .int .i64 0, .int .i64 0, .int .i64 0] : Array Value).size = S.size) := Lib.hid (by rw [z1]; rfl)
  have Z2 : Hid ((#[.string ⟨#[]⟩, .string ⟨#[]⟩, .int .i64 0, .int .i64 0, .int .i64 0, .int .i64 0, .int .i64 0] : Array Value).size = P.size) := Lib.hid (by rw [z2]; rfl)
  have O1 := Lib.hid o1
  have O2 := Lib.hid o2
  have OK : Hid ((soa l = none ∧ (soa l).isSome = false) ∨ ∃ s, soa l = some s ∧ (soa l).isSome = true) := Lib.hid (by cases soa l <;> simp)
  obtain ⟨ok, hok⟩ : ∃ ok, ok = (soa l).isSome := ⟨_, rfl⟩
  rw [← hok] at D1 OK
  clear hP hP' z1 z2 o1 o2 hSS hok
  rcases FE with ⟨rfl, F1, F2⟩ | rfl
  all_goals
    go_enter Try.func5, Try.ntmps5
    have r2 := row_new (w := w) (k := w.heap.size) (.cells P 30 (0, 0)) rfl
    have b0 : Below w.heap.size w (w.alloc (.cells P 30)) := Below.alloc (Below.refl _ _) (Nat.le_refl _) _
    have L2 := loadSoa_row r2 I2.out
    go_wp2_with fail
    clear L2
    have s0 := b0.size
    have lt2 := heap_lt3 r2
    generalize w.alloc (.cells P 30) = w0 at *
    refine (M1.out _).mono ?_
    rintro e w1 ⟨B1, d1, rfl, hB1, h1, h2, q1⟩
    replace r2 := (q1.block _ lt2).trans r2
    replace lt2 := heap_lt3 r2
    obtain ⟨b1, s1⟩ := Below.next b0 s0 q1
    clear q1 b0 s0 M1
    have L2 := loadSoa_row r2 I2.out
    go_wp2_with fail
    clear L2
    refine (M2.out _).mono ?_
    rintro e w2 ⟨B2, d2, rfl, _, _, _, q2⟩
    replace r2 := (q2.block _ lt2).trans r2
    replace lt2 := heap_lt3 r2
    replace hB1 := hB1.on q2
    obtain ⟨b2, s2⟩ := Below.next b1 s1 q2
    clear q2 b1 s1 M2
    go_wp2_with fail
  refine (F1.out B1 d1 _ hB1 h1 h2).mono ?_
  rintro e w3 ⟨rfl, q3⟩
  replace r2 := (q3.block _ lt2).trans r2
  replace lt2 := heap_lt3 r2
  replace hB1 := hB1.on q3
  obtain ⟨b3, s3⟩ := Below.next b2 s2 q3
  clear q3 b2 s2 F1
  have r9 := row_new (w := w3) (k := w3.heap.size) (.cells #[.string ⟨#[]⟩, .string ⟨#[]⟩, .int .i64 0, .int .i64 0, .int .i64 0, .int .i64 0, .int .i64 0] 30 (0, 0)) rfl
  have rZ := r9
  have q4 : Below w3.heap.size w3 ((w3.alloc (.cells #[.string ⟨#[]⟩, .string ⟨#[]⟩, .int .i64 0, .int .i64 0, .int .i64 0, .int .i64 0, .int .i64 0] 30)).setRow w3.heap.size P) := Below.setRow (Below.alloc (Below.refl _ _) (Nat.le_refl _) _) (Nat.le_refl _) _
  replace r9 := setRow_heap _ _ _ P _ _ r9
  replace r2 := (q4.block _ lt2).trans r2
  replace hB1 := hB1.on q4
  obtain ⟨b4, s4⟩ := Below.next b3 s3 q4
  clear q4 b3 s3
  have L2 := loadSoa_row r2 I2.out
  have L9 := loadSoa_row r9 I2.out
  have NE := fun w => neqSoa_same EQ.out w
  go_wp2_with (first
    | (refine wpList_store_row rfl 30 (.tmp 9) (.tmp 32) rfl w3.heap.size P rfl rfl 30 _ rZ I2.out (by first | exact Z2.out | exact Z2.out.symm) O2.out ?_)
    | fail)
  clear L2 L9 NE
  generalize (w3.alloc (.cells #[.string ⟨#[]⟩, .string ⟨#[]⟩, .int .i64 0, .int .i64 0, .int .i64 0, .int .i64 0, .int .i64 0] 30)).setRow w3.heap.size P = w4 at *
  refine (F2.out B1 d1 _ hB1 h1 h2).mono ?_
  rintro e w5 ⟨rfl, q5⟩
  obtain ⟨b2, s2⟩ := Below.next b4 s4 q5
  clear q5 b4 s4 F2 hB1 r9 rZ r2 lt2
  go_wp2_with fail
  all_goals
    refine (D1.out _ (hS.on b2)).mono ?_
    rintro e w6 ⟨rfl, q6⟩
    obtain ⟨b6, s6⟩ := Below.next b2 s2 q6
    clear q6 b2 s2 D1
    have r5 := row_new (w := w6) (k := w6.heap.size) (.cells #[.string ⟨#[]⟩, .string ⟨#[]⟩, .int .i64 0, .int .i64 0, .int .i64 0, .int .i64 0, .int .i64 0] 30 (0, 0)) rfl
    have rY := r5
    replace r5 := setRow_heap _ _ _ S _ _ r5
    have b7 : Below w.heap.size w ((w6.alloc (.cells #[.string ⟨#[]⟩, .string ⟨#[]⟩, .int .i64 0, .int .i64 0, .int .i64 0, .int .i64 0, .int .i64 0] 30)).setRow w6.heap.size S) := Below.setRow (Below.alloc b6 s6 _) s6 _
    have s7 := b7.size
    rcases OK.out with ⟨hn, rfl⟩ | ⟨s, hn, rfl⟩
    · have TN2 := Lib.hid (TN.out hn)
      clear TN hn OK TB
      go_wp2_with (first
        | (refine wpList_store_row rfl 30 (.tmp 11) (.tmp 49) rfl w6.heap.size S rfl rfl 30 _ rY I1.out (by first | exact Z0.out | exact Z0.out.symm) O1.out ?_)
        | fail)
      refine (TN2.out _ (hS.on b7)).mono ?_
      rintro e w8 ⟨rfl, q8⟩
      obtain ⟨b8, s8⟩ := Below.next b7 s7 q8
      clear q8 b7 s7
      go_wp2_with fail
      refine awakeD.mono ?_
      rintro e w9 ⟨rfl, q9⟩
      obtain ⟨b9, s9⟩ := Below.next b8 s8 q9
      go_wp2_with fail
      go_ret
      exact ⟨rfl, b9⟩
    · have TB2 := Lib.hid (TB.out s hn)
      have L11 := loadSoa_row r5 I1.out
      clear TN hn OK TB
      go_wp2_with (first
        | (refine wpList_store_row rfl 30 (.tmp 11) (.tmp 49) rfl w6.heap.size S rfl rfl 30 _ rY I1.out (by first | exact Z0.out | exact Z0.out.symm) O1.out ?_)
        | fail)
      refine (TB2.out _).mono ?_
      rintro e w8 ⟨B8, d8, rfl, hB8, _, _, q8⟩
      obtain ⟨b8, s8⟩ := Below.next b7 s7 q8
      clear q8 b7 s7
      go_wp2_with fail
      refine (X.out B8 A _ _ _ hB8 (hS.on b8)).mono ?_
      rintro e w9 ⟨rfl, rfl⟩
      go_wp2_with fail
      go_ret
      exact ⟨rfl, b8⟩
end Go.Proofs.Ytbcgpdoljcokgaa
