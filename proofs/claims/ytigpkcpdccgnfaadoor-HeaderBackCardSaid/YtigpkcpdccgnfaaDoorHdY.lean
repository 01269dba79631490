/-
  '==' on the counts: an array is what it is.
-/
import Derived.Test.YtigpkcpdccgnfaaDoorHdA
import Derived.ChangeKeysEq
namespace Go.Proofs.YtigpkcpdccgnfaaDoor
open Go.RowKit

theorem info_i64 : (Tryd.prog.info? 3).map (fun i => (i.zero, i.size, i.bytes)) = some (some (.int .i64 0), 1, 8) := by kernel_rfl
theorem ctElem : Tryd.prog.cellsOf 3 = 1 := by kernel_rfl

theorem eq_ct (n0 n1 n2 n3 : Int) (w : World) : (Op.equalIn 10000 24 (ctV n0 n1 n2 n3) (ctV n0 n1 n2 n3)).run Tryd.prog w = .ok true w := by
  obtain ⟨i0, hi, hz0, hz1, hz2⟩ := info_parts info_i64
  rw [show (10000 : Nat) = 9999 + 1 from rfl, run_equalIn_array (P := Tryd.prog) (w := w) 9999 _ _ Tryd.underlying24 hi, ctElem]
  have r4 : List.range 4 = [0, 1, 2, 3] := rfl
  rw [r4]
  have p0 : (part 3 #[.int .i64 n0, .int .i64 n1, .int .i64 n2, .int .i64 n3] 0).run Tryd.prog w = .ok (.int .i64 n0) w := by kernel_rfl
  have p1 : (part 3 #[.int .i64 n0, .int .i64 n1, .int .i64 n2, .int .i64 n3] 1).run Tryd.prog w = .ok (.int .i64 n1) w := by kernel_rfl
  have p2 : (part 3 #[.int .i64 n0, .int .i64 n1, .int .i64 n2, .int .i64 n3] 2).run Tryd.prog w = .ok (.int .i64 n2) w := by kernel_rfl
  have p3 : (part 3 #[.int .i64 n0, .int .i64 n1, .int .i64 n2, .int .i64 n3] 3).run Tryd.prog w = .ok (.int .i64 n3) w := by kernel_rfl
  have q (a : Int) : (Op.equalIn 9999 3 (.int .i64 a) (.int .i64 a)).run Tryd.prog w = .ok true w := by
    rw [show (9999 : Nat) = 9998 + 1 from rfl, run_equalIn_int w 9998 3 .i64 .i64 a a Tryd.underlying3]; simp
  simp [Op.eqItems, p0, p1, p2, p3, q]

theorem eql_ct (n0 n1 n2 n3 : Int) (w : World) : (binOp .eql 24 (ctV n0 n1 n2 n3) (ctV n0 n1 n2 n3)).run Tryd.prog w = .ok (.bool true) w := by
  rw [run_eql_struct, eq_ct]; rfl

end Go.Proofs.YtigpkcpdccgnfaaDoor
