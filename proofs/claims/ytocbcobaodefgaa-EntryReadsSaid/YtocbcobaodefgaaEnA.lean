/-
  Sets: as plain values, and in memory.
-/
import Derived.Test.YtocbcobaodefgaaRdE
import Derived.Test.YtocbcobaodefgaaQc
import Derived.Deep.MidRow
namespace Go.Proofs.Ytocbcobaodefgaa
open Go.RowKit
set_option linter.unusedVariables false
set_option maxRecDepth 100000

/-- Slices of bytes in memory, one behind the other. -/
def Byss (w : World) (A : Option Addr) (L : List Bs) : Prop := 0 < L.length → ∃ g off, A = some ⟨g, off, none⟩ ∧ ∀ j (h : j < L.length), ∃ a c, w.cell? ⟨g, off + j, none⟩ = some (.slice a (L[j]).length c) ∧ Bys w a L[j] ∧ (L[j]).length ≤ c ∧ c ≤ 9223372036854775807 ∧ (a = none → c = 0)
theorem Byss.on {w w1 : World} {A : Option Addr} {L : List Bs} (h : Byss w A L) (hB : Below w.heap.size w w1) : Byss w1 A L := fun hn => by
  obtain ⟨g, off, hA, hc⟩ := h hn
  refine ⟨g, off, hA, fun j hj => ?_⟩
  obtain ⟨a, c, h1, h2, h3⟩ := hc j hj
  have hlt := World.block_lt_of_cell? w _ h1
  exact ⟨a, c, (World.cell?_of_block (hB.block g hlt)).trans h1, h2.on hB, h3⟩

theorem info_sl : (Try.prog.info? 22).map (fun i => (i.zero, i.size, i.bytes)) = some (some (.slice none 0 0), 1, 24) := by kernel_rfl
theorem size_sl (w : World) : (sizeOf 22).run Try.prog w = .ok 1 w := by
  obtain ⟨i0, hi, hz0, hz1, hz2⟩ := info_parts info_sl
  simp [sizeOf, typeInfo, hi, hz1]
theorem elem_slices : Try.prog.elem 24 = 22 := by kernel_rfl
/-- 'l[:k]' of slices. -/
theorem slice_preS (A : Option Addr) (n c k : Nat) (i : Int) (hk : k ≤ n) (hc : n ≤ c) (hi : i = k) : ∀ w : World, (Instr.slice 24 (.slice A n c) none (some (.int .i64 i)) none).run Try.prog w = .ok (.slice A k c) w := by
  intro w
  subst hi
  rw [run_slice_h w 24 A n c (by rw [elem_slices]; exact Try.underlying24) _ _ (by omega) (by omega), elem_slices, size_sl]
  simp only [Result.andThen_ok, sliced]
  by_cases h : c = 0
  · subst h; simp
  · simp only [Nat.sub_zero, if_neg h, Int.toNat_natCast]
    cases A with
    | none => simp
    | some a => simp [Addr.add]


structure St where
  n : Bs
  t : Int
  c : Int
  rk : Int
  kd : Int
  ex : Int
  z : Bs
  ds : List Bs
def sameS (a b : St) : Bool := a.n == b.n && (a.t == b.t && (a.c == b.c && (a.rk == b.rk && (a.kd == b.kd && (a.ex == b.ex && (a.z == b.z && a.ds == b.ds))))))
theorem sameS_iff {a b : St} : sameS a b = true ↔ a = b := by cases a; cases b; simp [sameS]
theorem sameS_self (a : St) : sameS a a = true := sameS_iff.2 rfl
def stL (s : St) (A : Option Addr) (c : Nat) : List Value := [.string (bs s.n), .int .i64 s.t, .int .i64 s.c, .int .i64 s.rk, .int .i64 s.kd, .int .i64 s.ex, .string (bs s.z), .slice A s.ds.length c]
def stC (s : St) (A : Option Addr) (c : Nat) : Array Value := (stL s A c).toArray
theorem st_one (s : St) (A : Option Addr) (c : Nat) : (stC s A c).all (·.oneCell') = true := by simp [stC, stL, Value.oneCell']
theorem st_size (s : St) (A : Option Addr) (c : Nat) : (stC s A c).size = 8 := rfl
theorem info_st : (Try.prog.info? 26).map (·.size) = some 8 := by kernel_rfl
def stZ : Array Value := #[.string ⟨#[]⟩, .int .i64 0, .int .i64 0, .int .i64 0, .int .i64 0, .int .i64 0, .string ⟨#[]⟩, .slice none 0 0]
theorem stZ_lit : stZ = #[.string ⟨#[]⟩, .int .i64 0, .int .i64 0, .int .i64 0, .int .i64 0, .int .i64 0, .string ⟨#[]⟩, .slice none 0 0] := rfl
theorem st_cell {w : World} {g : Nat} {s : St} {A : Option Addr} {c : Nat} (h : w.heap[g]? = some (.cells (stC s A c) 26 (0, 0))) :
    w.cell? ⟨g, 0, none⟩ = some (.string (bs s.n)) ∧ w.cell? ⟨g, 1, none⟩ = some (.int .i64 s.t) ∧ w.cell? ⟨g, 2, none⟩ = some (.int .i64 s.c) ∧ w.cell? ⟨g, 3, none⟩ = some (.int .i64 s.rk) ∧ w.cell? ⟨g, 4, none⟩ = some (.int .i64 s.kd) ∧ w.cell? ⟨g, 5, none⟩ = some (.int .i64 s.ex) ∧ w.cell? ⟨g, 6, none⟩ = some (.string (bs s.z)) ∧ w.cell? ⟨g, 7, none⟩ = some (.slice A s.ds.length c) :=
  ⟨(cell_of_row _ g 0 _ _ _ h).trans rfl, (cell_of_row _ g 1 _ _ _ h).trans rfl, (cell_of_row _ g 2 _ _ _ h).trans rfl, (cell_of_row _ g 3 _ _ _ h).trans rfl, (cell_of_row _ g 4 _ _ _ h).trans rfl, (cell_of_row _ g 5 _ _ _ h).trans rfl, (cell_of_row _ g 6 _ _ _ h).trans rfl, (cell_of_row _ g 7 _ _ _ h).trans rfl⟩
theorem cell_on {w w1 : World} {g o : Nat} {v : Value} (h : w.cell? ⟨g, o, none⟩ = some v) (hB : Below w.heap.size w w1) : w1.cell? ⟨g, o, none⟩ = some v :=
  (World.cell?_of_block (hB.block g (World.block_lt_of_cell? w _ h))).trans h
theorem range_on {w w1 : World} {g o : Nat} {cs : List Value} (h : w.rangeAt g o cs) (hB : Below w.heap.size w w1) : w1.rangeAt g o cs := fun j v hv => cell_on (h j v hv) hB
theorem run_enter {f : FuncId} {fn : Func} (hf : Try.prog.funcs[f]? = some fn) (hname : (fn.name == "runtime.NumGoroutine") = false) (hb : fn.body.isNone = false) (args : Array Value) (w : World) : (callFunc f args).run Try.prog w = .ok (.enter f args) w := by
  have h1 : fn.name ≠ "runtime.NumGoroutine" := by simpa using hname
  simp [callFunc, hf, h1]
  intro h
  rw [h] at hb
  cases hb
end Go.Proofs.Ytocbcobaodefgaa
