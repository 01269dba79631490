/-
  The walks of RdataSOAs and RdataBack: '==' on an SOA.
-/
import Derived.Test.YtbcgpdoljcokgaaRcE
import Derived.Test.YtbcgpdoljcokgaaRcF
import Derived.Laws.StructEq
namespace Go.Proofs.Ytbcgpdoljcokgaa
open Go.RowKit
set_option linter.unusedVariables false

def soa7 (m r : Bs) (a b c d e : Int) : Array Value := #[.string (bs m), .string (bs r), .int .i64 a, .int .i64 b, .int .i64 c, .int .i64 d, .int .i64 e]
theorem same_soa7 (m r : Bs) (a b c d e : Int) (w : World) : (Op.equalIn 10000 30 (.agg (soa7 m r a b c d e)) (.agg (soa7 m r a b c d e))).run Try.prog w = .ok true w := by
  rw [show (10000 : Nat) = 9999 + 1 from rfl, run_equalIn_struct (P := Try.prog) (w := w) 9999 _ _ _ (by kernel_rfl) (by kernel_rfl)]
  have p0 : (part 9 (soa7 m r a b c d e) 0).run Try.prog w = .ok (.string (bs m)) w := by kernel_rfl
  have p1 : (part 9 (soa7 m r a b c d e) 1).run Try.prog w = .ok (.string (bs r)) w := by kernel_rfl
  have p2 : (part 3 (soa7 m r a b c d e) 2).run Try.prog w = .ok (.int .i64 a) w := by kernel_rfl
  have p3 : (part 3 (soa7 m r a b c d e) 3).run Try.prog w = .ok (.int .i64 b) w := by kernel_rfl
  have p4 : (part 3 (soa7 m r a b c d e) 4).run Try.prog w = .ok (.int .i64 c) w := by kernel_rfl
  have p5 : (part 3 (soa7 m r a b c d e) 5).run Try.prog w = .ok (.int .i64 d) w := by kernel_rfl
  have p6 : (part 3 (soa7 m r a b c d e) 6).run Try.prog w = .ok (.int .i64 e) w := by kernel_rfl
  have q (x : Int) : (Op.equalIn 9999 3 (.int .i64 x) (.int .i64 x)).run Try.prog w = .ok true w := by
    rw [show (9999 : Nat) = 9998 + 1 from rfl, run_equalIn_int w 9998 3 .i64 .i64 x x Try.underlying3]; simp
  have qs (x : Bs) : (Op.equalIn 9999 9 (.string (bs x)) (.string (bs x))).run Try.prog w = .ok true w := by
    rw [show (9999 : Nat) = 9998 + 1 from rfl, run_equalIn_string w 9998 9 _ _ Try.underlying9]; simp
  unfold Program.fieldsOf
  rw [Try.underlying30]
  simp [Op.eqFields, p0, p1, p2, p3, p4, p5, p6, q, qs]
theorem eql_guard (S : Array Value) (x y : Operand) (w : World) : (eqGuard .eql 30 x y (.agg S) (.agg S)).run Try.prog w = .ok () w := run_eqGuard_agg w .eql 30 x y S S (by kernel_rfl)
theorem neq_guard (S S' : Array Value) (x y : Operand) (w : World) : (eqGuard .neq 30 x y (.agg S) (.agg S')).run Try.prog w = .ok () w := run_eqGuard_agg w .neq 30 x y S S' (by kernel_rfl)
/-- '==' on two SOAs that are one. -/
theorem wpList_same_soa {ops : Array Oper} {rest : List Oper} {o : Oper} {a : Act} {w : World} {Q : Exit → Act → World → Prop} (hgd : o.guard = none) (x y : Operand) (ty : TypeId)
    (ho : o.op = .binOp .eql 30 x y ty) (S : Array Value) (hx : a.eval x = .agg S) (hy : a.eval y = .agg S) (hS : ∀ w, (Op.equalIn 10000 30 (.agg S) (.agg S)).run Try.prog w = .ok true w)
    (h : wpList Try.prog ops Q rest (a.put o.dst (.bool true)) w) : wpList Try.prog ops Q (o :: rest) a w :=
  wpList_plain hgd fun K hK => by
    unfold Oper.wp execOp
    simp only [ho, hx, hy, Sem.run_bind, eql_guard, run_eql_struct, hS, Result.andThen_ok, Sem.run_pure]
    exact hK _ _ h
/-- '!=' on two SOAs that are one. -/
theorem wpList_differ_soa {ops : Array Oper} {rest : List Oper} {o : Oper} {a : Act} {w : World} {Q : Exit → Act → World → Prop} (hgd : o.guard = none) (x y : Operand) (ty : TypeId)
    (ho : o.op = .binOp .neq 30 x y ty) (S : Array Value) (hx : a.eval x = .agg S) (hy : a.eval y = .agg S) (hS : ∀ w, (Op.equalIn 10000 30 (.agg S) (.agg S)).run Try.prog w = .ok true w)
    (h : wpList Try.prog ops Q rest (a.put o.dst (.bool false)) w) : wpList Try.prog ops Q (o :: rest) a w :=
  wpList_plain hgd fun K hK => by
    unfold Oper.wp execOp
    simp only [ho, hx, hy, Sem.run_bind, neq_guard, run_neq_struct, hS, Result.andThen_ok, Sem.run_pure]
    exact hK _ _ h
theorem soa7_size (m r : Bs) (a b c d e : Int) : (soa7 m r a b c d e).size = 7 := rfl
theorem soa7_one (m r : Bs) (a b c d e : Int) : (soa7 m r a b c d e).all (·.oneCell') = true := by simp [soa7, Value.oneCell']
theorem soaC_soa7 (o : Option Soa) : ∃ m r a b c d e, soaC o = soa7 m r a b c d e := by
  cases o with
  | none => exact ⟨[], [], 0, 0, 0, 0, 0, rfl⟩
  | some s => exact ⟨s.m, s.r, s.a, s.b, s.c, s.d, s.e, rfl⟩

/-- What Make answers: bytes, and a number. -/
def MakeP (w : World) (x : Bs) (E : Int) (e : Ending) (w' : World) : Prop :=
  ∃ B d, e = .returned (.tuple #[.slice B x.length d, .int .i64 E]) ∧ Bys w' B x ∧ x.length ≤ d ∧ d ≤ 9223372036854775807 ∧ Below w.heap.size w w'
def mkB (m r : Bs) (V : List Int) : Bs := if makes m r V then m ++ r ++ putL V else []
def mkE (m r : Bs) (V : List Int) : Int := if makes m r V then 0 else 1
theorem MakePost.to {w : World} {m r : Bs} {V : List Int} {e : Ending} {w' : World} (h : MakePost w m r V e w') : MakeP w (mkB m r V) (mkE m r V) e w' := by
  obtain ⟨hb, ⟨hm, rfl⟩ | ⟨hm, v, rfl, hown⟩⟩ := h
  · unfold mkB mkE
    rw [hm]
    exact ⟨none, 0, rfl, fun h => absurd h (by simp), by simp, by omega, hb⟩
  · unfold mkB mkE
    rw [hm]
    obtain ⟨B, d, rfl, hB, hd, hdm⟩ := hown.bys
    exact ⟨B, d, rfl, hB, hd, by unfold maxLen at hdm; omega, hb⟩

set_option maxHeartbeats 4000000 in
set_option maxRecDepth 100000 in
theorem SOAs_any (m r : Bs) (a b c d e : Int) (A : Option Addr) (l : Bs) (cp : Nat) (w : World) (hS : Bys w A l) (hc : l.length ≤ cp) (hcm : cp ≤ 9223372036854775807) :
    Calls Try.prog 4 #[.agg (soa7 m r a b c d e), .slice A l.length cp] w fun e w' => e = .returned (.bool true) ∧ Below w.heap.size w w' := by
  have D1 := Lib.hid (fun W (hW : Bys W A l) => dSOA_any A l cp W hW hc hcm)
  have D2 := Lib.hid (fun W (hW : Bys W A l) => rSOA_any A l cp W hW hc hcm)
  unfold SoaPost at D1 D2
  obtain ⟨m1, r1, a1, b1, c1, d1, e1, hq⟩ := soaC_soa7 (soa l)
  rw [hq] at D1 D2
  have EQ := Lib.hid (fun w => same_soa7 m1 r1 a1 b1 c1 d1 e1 w)
  have z1 := soa7_size m1 r1 a1 b1 c1 d1 e1
  have o1 := soa7_one m1 r1 a1 b1 c1 d1 e1
  generalize soa7 m1 r1 a1 b1 c1 d1 e1 = S at *
  generalize (soa l).isSome = ok at *
  have M1 := Lib.hid (fun W => (dMake_any m r a b c d e W).mono fun _ _ h => h.to)
  have M2 := Lib.hid (fun W => (rMake_any m r a b c d e W).mono fun _ _ h => h.to)
  obtain ⟨P, hP⟩ : ∃ P, P = soa7 m r a b c d e := ⟨_, rfl⟩
  have hP' : P = #[.string (bs m), .string (bs r), .int .i64 a, .int .i64 b, .int .i64 c, .int .i64 d, .int .i64 e] := hP
  rw [← hP'] at M1 M2
  rw [← hP]
  have z2 := soa7_size m r a b c d e
  rw [← hP] at z2
  generalize mkB m r [a, b, c, d, e] = x at *
  generalize mkE m r [a, b, c, d, e] = E at *
  have X := Lib.hid (fun B D n d W (hW : Bys W B x) (hX : Bys W D x) => by have := EqualB_any B D x x x.length x.length n d W hW hX rfl rfl; rw [show (x == x) = true by simp] at this; exact this)
  have t1 : (ok == ok) = true := by simp
  have t2 : (E == E) = true := by simp
  have I1 := Lib.hid (soa_info z1)
  have I2 := Lib.hid (soa_info z2)
  have Z1 := Lib.hid z1
  have Z0 : Hid ((#[.string ⟨#[]⟩, .string ⟨#[]⟩, .int .i64 0, .int .i64 0, .int .i64 0, .int .i64 0, .int .i64 0] : Array Value).size = S.size) := Lib.hid (by rw [z1]; rfl)
  have O1 := Lib.hid o1
  clear hq hP hP' z1 z2 o1
  go_enter Try.func4, Try.ntmps4
  go_wp2_with fail
  have r2 := row_new (w := w) (k := w.heap.size) (.cells P 30 (0, 0)) rfl
  have b0 : Below w.heap.size w (w.alloc (.cells P 30)) := Below.alloc (Below.refl _ _) (Nat.le_refl _) _
  have s0 := b0.size
  have lt2 := heap_lt3 r2
  generalize w.alloc (.cells P 30) = w0 at *
  refine (D1.out _ (hS.on b0)).mono ?_
  rintro e w1 ⟨rfl, q1⟩
  replace r2 := (q1.block _ lt2).trans r2
  replace lt2 := heap_lt3 r2
  obtain ⟨b1, s1⟩ := Below.next b0 s0 q1
  clear q1 b0 s0 D1
  have r5 := row_new (w := w1) (k := w1.heap.size) (.cells #[.string ⟨#[]⟩, .string ⟨#[]⟩, .int .i64 0, .int .i64 0, .int .i64 0, .int .i64 0, .int .i64 0] 30 (0, 0)) rfl
  go_wp2_with (first
    | (refine wpList_store_row rfl 30 (.tmp 5) (.tmp 16) rfl w1.heap.size S rfl rfl 30 _ r5 I1.out (by first | exact Z0.out | exact Z0.out.symm) O1.out ?_)
    | fail)
  replace r5 := setRow_heap _ _ _ S _ _ r5
  have b2 : Below w.heap.size w ((w1.alloc (.cells #[.string ⟨#[]⟩, .string ⟨#[]⟩, .int .i64 0, .int .i64 0, .int .i64 0, .int .i64 0, .int .i64 0] 30)).setRow w1.heap.size S) := Below.setRow (Below.alloc b1 s1 _) s1 _
  replace r2 : ((w1.alloc (.cells #[.string ⟨#[]⟩, .string ⟨#[]⟩, .int .i64 0, .int .i64 0, .int .i64 0, .int .i64 0, .int .i64 0] 30)).setRow w1.heap.size S).heap[w.heap.size]? = some (.cells P 30 (0, 0)) := (setRow_other _ _ _ _ (by omega)).trans (row_old _ r2)
  have s2 := b2.size
  replace lt2 := heap_lt3 r2
  have lt5 := heap_lt3 r5
  generalize (w1.alloc (.cells #[.string ⟨#[]⟩, .string ⟨#[]⟩, .int .i64 0, .int .i64 0, .int .i64 0, .int .i64 0, .int .i64 0] 30)).setRow w1.heap.size S = w2 at *
  clear b1
  generalize w1.heap.size = g5 at *
  refine (D2.out _ (hS.on b2)).mono ?_
  rintro e w3 ⟨rfl, q3⟩
  replace r2 := (q3.block _ lt2).trans r2
  replace r5 := (q3.block _ lt5).trans r5
  replace lt2 := heap_lt3 r2
  replace lt5 := heap_lt3 r5
  obtain ⟨b3, s3⟩ := Below.next b2 s2 q3
  clear q3 b2 s2 D2 s1
  have r7 := row_new (w := w3) (k := w3.heap.size) (.cells #[.string ⟨#[]⟩, .string ⟨#[]⟩, .int .i64 0, .int .i64 0, .int .i64 0, .int .i64 0, .int .i64 0] 30 (0, 0)) rfl
  replace r7 := setRow_heap _ _ _ S _ _ r7
  have b4 : Below w.heap.size w ((w3.alloc (.cells #[.string ⟨#[]⟩, .string ⟨#[]⟩, .int .i64 0, .int .i64 0, .int .i64 0, .int .i64 0, .int .i64 0] 30)).setRow w3.heap.size S) := Below.setRow (Below.alloc b3 s3 _) s3 _
  replace r2 : ((w3.alloc (.cells #[.string ⟨#[]⟩, .string ⟨#[]⟩, .int .i64 0, .int .i64 0, .int .i64 0, .int .i64 0, .int .i64 0] 30)).setRow w3.heap.size S).heap[w.heap.size]? = some (.cells P 30 (0, 0)) := (setRow_other _ _ _ _ (by omega)).trans (row_old _ r2)
  replace r5 : ((w3.alloc (.cells #[.string ⟨#[]⟩, .string ⟨#[]⟩, .int .i64 0, .int .i64 0, .int .i64 0, .int .i64 0, .int .i64 0] 30)).setRow w3.heap.size S).heap[g5]? = some (.cells S 30 (0, 0)) := (setRow_other _ _ _ _ (by omega)).trans (row_old _ r5)
  go_wp2_with (first
    | (refine wpList_store_row rfl 30 (.tmp 7) (.tmp 21) rfl w3.heap.size S rfl rfl 30 _ (row_new (w := w3) (k := w3.heap.size) (.cells #[.string ⟨#[]⟩, .string ⟨#[]⟩, .int .i64 0, .int .i64 0, .int .i64 0, .int .i64 0, .int .i64 0] 30 (0, 0)) rfl) I1.out (by first | exact Z0.out | exact Z0.out.symm) O1.out ?_)
    | (refine wpList_load_row rfl 30 (.tmp 2) rfl w.heap.size rfl 30 P (0, 0) _ r2 Try.underlying30 rfl I2.out ?_)
    | fail)
  have s4 := b4.size
  generalize (w3.alloc (.cells #[.string ⟨#[]⟩, .string ⟨#[]⟩, .int .i64 0, .int .i64 0, .int .i64 0, .int .i64 0, .int .i64 0] 30)).setRow w3.heap.size S = w4 at *
  replace lt2 := heap_lt3 r2
  replace lt5 := heap_lt3 r5
  have lt7 := heap_lt3 r7
  clear b3 s3
  generalize w3.heap.size = g7 at *
  refine (M1.out _).mono ?_
  rintro e w5 ⟨B1, d1, rfl, hB1, _, _, q5⟩
  replace r2 := (q5.block _ lt2).trans r2
  replace r5 := (q5.block _ lt5).trans r5
  replace r7 := (q5.block _ lt7).trans r7
  replace lt5 := heap_lt3 r5
  replace lt7 := heap_lt3 r7
  obtain ⟨b5, s5⟩ := Below.next b4 s4 q5
  clear q5 b4 s4 M1
  go_wp2_with (first
    | (refine wpList_load_row rfl 30 (.tmp 2) rfl w.heap.size rfl 30 P (0, 0) _ r2 Try.underlying30 rfl I2.out ?_)
    | fail)
  refine (M2.out _).mono ?_
  rintro e w6 ⟨B2, d2, rfl, hB2, _, _, q6⟩
  have hB1 := hB1.on q6
  replace r5 := (q6.block _ lt5).trans r5
  replace r7 := (q6.block _ lt7).trans r7
  obtain ⟨b6, s6⟩ := Below.next b5 s5 q6
  clear q6 b5 s5 M2
  go_wp2_with (first
    | (refine wpList_load_row rfl 30 (.tmp 5) rfl g5 rfl 30 S (0, 0) _ r5 Try.underlying30 rfl I1.out ?_)
    | (refine wpList_load_row rfl 30 (.tmp 7) rfl g7 rfl 30 S (0, 0) _ r7 Try.underlying30 rfl I1.out ?_)
    | (refine wpList_same_soa rfl (.tmp 33) (.tmp 34) _ rfl S rfl rfl EQ.out ?_)
    | fail)
  refine (X.out B1 B2 _ _ _ hB1 hB2).mono ?_
  rintro e w7 ⟨rfl, rfl⟩
  go_wp2_with fail
  refine awakeD.mono ?_
  rintro e w8 ⟨rfl, q8⟩
  obtain ⟨b8, s8⟩ := Below.next b6 s6 q8
  go_wp2_with fail
  go_ret
  exact ⟨rfl, b8⟩
end Go.Proofs.Ytbcgpdoljcokgaa
