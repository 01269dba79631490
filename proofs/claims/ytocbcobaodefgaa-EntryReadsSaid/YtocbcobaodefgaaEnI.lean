/-
  The landed entry: whether an entry can be.
-/
import Derived.Test.YtocbcobaodefgaaEnH
import Derived.Test.YtocbcobaodefgaaEnS
namespace Go.Proofs.Ytocbcobaodefgaa
open Go.RowKit
set_option linter.unusedVariables false
set_option maxRecDepth 100000
attribute [local go_sem ↓] exec_loadSt

/-- An entry's cells; the key of a set. -/
def enL (d : Bool) (s : St) (A : Option Addr) (c : Nat) : List Value := .bool d :: stL s A c
def enC (d : Bool) (s : St) (A : Option Addr) (c : Nat) : Array Value := (enL d s A c).toArray
def keyS (s : St) : St := ⟨s.n, s.t, s.c, 0, 0, 0, [], []⟩
def canE (d : Bool) (s : St) : Bool := if d then canKeyS s && sameS s (keyS s) else canS s
theorem info_en : (Try.prog.info? 28).map (·.size) = some 9 := by kernel_rfl
theorem en_one (d : Bool) (s : St) (A : Option Addr) (c : Nat) : (enC d s A c).all (·.oneCell') = true := by simp [enC, enL, stL, Value.oneCell']
theorem canKey_key (s : St) : canKeyS (keyS s) = canKeyS s := rfl
theorem en_mid {w : World} {g : Nat} {d : Bool} {s : St} {A : Option Addr} {c : Nat} (h : w.heap[g]? = some (.cells (enC d s A c) 28 (0, 0))) : w.rangeAt g 1 (stL s A c) := fun j v hj => by
  rw [cell_of_row _ g (1 + j) _ _ _ h]
  rw [enC, List.getElem?_toArray, enL, show 1 + j = j + 1 by omega, List.getElem?_cons_succ]
  exact hj
theorem en_cell {w : World} {g : Nat} {d : Bool} {s : St} {A : Option Addr} {c : Nat} (h : w.heap[g]? = some (.cells (enC d s A c) 28 (0, 0))) :
    w.cell? ⟨g, 0, none⟩ = some (.bool d) ∧ w.cell? ⟨g, 1, none⟩ = some (.string (bs s.n)) ∧ w.cell? ⟨g, 2, none⟩ = some (.int .i64 s.t) ∧ w.cell? ⟨g, 3, none⟩ = some (.int .i64 s.c) :=
  ⟨(cell_of_row _ g 0 _ _ _ h).trans rfl, (cell_of_row _ g 1 _ _ _ h).trans rfl, (cell_of_row _ g 2 _ _ _ h).trans rfl, (cell_of_row _ g 3 _ _ _ h).trans rfl⟩
theorem byss_nil (w : World) : Byss w none [] := fun h => absurd h (by simp)

set_option maxHeartbeats 4000000 in
set_option maxRecDepth 100000 in
theorem can8_any (d : Bool) (s : St) (A : Option Addr) (c : Nat) (w : World) (hS : Byss w A s.ds) (hz : Sized s) : Calls Try.prog 39 #[.agg (enC d s A c)] w fun e w' => e = .returned (.bool (canE d s)) ∧ Below w.heap.size w w' := by
  have r1 := row_new (w := w) (k := w.heap.size) (.cells (enC d s A c) 28 (0, 0)) rfl
  have b0 : Below w.heap.size w (w.alloc (.cells (enC d s A c) 28 (0, 0))) := Below.alloc (Below.refl _ _) (Nat.le_refl _) _
  have hS0 := Lib.hid (hS.on b0)
  obtain ⟨c0, c1, c2, c3⟩ := en_cell r1
  have L1 := loadSt_mid (en_mid r1)
  have M1 := Lib.hid (fun (W : World) (h : W.heap[w.heap.size]? = some (.cells (enC d s A c) 28 (0, 0))) => loadSt_mid (en_mid h))
  have lt1 : w.heap.size < (w.alloc (.cells (enC d s A c) 28)).heap.size := by simp
  cases d with
  | false =>
    have E1 := Lib.hid (fun W hW => Can8_any s A c W hW hz)
    have HR : Hid (canE false s = canS s) := Lib.hid rfl
    generalize canE false s = R at *
    generalize canS s = k at *
    generalize enC false s A c = D at *
    generalize stC s A c = C at *
    clear c1 c2 c3 hS hz r1 M1
    go_enter Try.func39, Try.ntmps39
    go_wp2_with fail
    refine (E1.out _ hS0.out).mono ?_
    rintro e w1 ⟨rfl, q1⟩
    obtain ⟨bb, s1⟩ := Below.next b0 b0.size q1
    go_wp2_with fail
    go_ret
    exact ⟨by rw [HR.out]; rfl, bb⟩
  | true =>
    have E1 := Lib.hid (fun W => canKey_any (keyS s) none 0 W)
    have E2 := Lib.hid (fun W hW => eSame_any s (keyS s) A none c 0 W hW (byss_nil W) (by have := hz.l; omega))
    rw [canKey_key] at E1
    have HR : Hid (canE true s = (canKeyS s && sameS s (keyS s))) := Lib.hid rfl
    generalize canE true s = R at *
    generalize canKeyS s = k1 at *
    generalize sameS s (keyS s) = k2 at *
    obtain ⟨K, hK⟩ : ∃ K, K = stC (keyS s) none 0 := ⟨_, rfl⟩
    rw [← hK] at E1 E2
    have hK2 : K = #[.string (bs s.n), .int .i64 s.t, .int .i64 s.c, .int .i64 0, .int .i64 0, .int .i64 0, .string ⟨#[]⟩, .slice none 0 0] := hK
    have IK : Hid ((Try.prog.info? 26).map (·.size) = some K.size) := Lib.hid (by rw [hK]; exact info_st)
    have OK : Hid (K.all (·.oneCell') = true) := Lib.hid (by rw [hK]; exact st_one _ _ _)
    have ZK : Hid ((#[.string ⟨#[]⟩, .int .i64 0, .int .i64 0, .int .i64 0, .int .i64 0, .int .i64 0, .string ⟨#[]⟩, .slice none 0 0] : Array Value).size = K.size) := Lib.hid (by rw [hK]; rfl)
    generalize s.n = sn at *
    generalize s.t = st at *
    generalize s.c = sc at *
    have HK := Lib.hid hK2
    clear hK hK2 hS hz L1
    generalize enC true s A c = D at *
    generalize stC s A c = C at *
    have rZ := row_new (w := w.alloc (.cells D 28)) (k := w.heap.size + 1) (.cells #[.string ⟨#[]⟩, .int .i64 0, .int .i64 0, .int .i64 0, .int .i64 0, .int .i64 0, .string ⟨#[]⟩, .slice none 0 0] 26 (0, 0)) (by simp)
    have r2 := setRow_heap _ _ _ K _ _ rZ
    have bb : Below w.heap.size w (((w.alloc (.cells D 28)).alloc (.cells #[.string ⟨#[]⟩, .int .i64 0, .int .i64 0, .int .i64 0, .int .i64 0, .int .i64 0, .string ⟨#[]⟩, .slice none 0 0] 26)).setRow (w.heap.size + 1) K) := Below.setRow (Below.alloc b0 (by simp) _) (by omega) _
    have q1 : Below (w.heap.size + 1) (w.alloc (.cells D 28)) (((w.alloc (.cells D 28)).alloc (.cells #[.string ⟨#[]⟩, .int .i64 0, .int .i64 0, .int .i64 0, .int .i64 0, .int .i64 0, .string ⟨#[]⟩, .slice none 0 0] 26)).setRow (w.heap.size + 1) K) := Below.setRow (Below.alloc (Below.refl _ _) (by simp) _) (Nat.le_refl _) _
    have s1 := bb.size
    have sz1 : (((w.alloc (.cells D 28)).alloc (.cells #[.string ⟨#[]⟩, .int .i64 0, .int .i64 0, .int .i64 0, .int .i64 0, .int .i64 0, .string ⟨#[]⟩, .slice none 0 0] 26)).setRow (w.heap.size + 1) K).heap.size = w.heap.size + 2 := by rw [size_setRow]; simp
    have sz0 : (w.alloc (.cells D 28)).heap.size = w.heap.size + 1 := by simp
    have q1 : Below (w.alloc (.cells D 28)).heap.size (w.alloc (.cells D 28)) (((w.alloc (.cells D 28)).alloc (.cells #[.string ⟨#[]⟩, .int .i64 0, .int .i64 0, .int .i64 0, .int .i64 0, .int .i64 0, .string ⟨#[]⟩, .slice none 0 0] 26)).setRow (w.heap.size + 1) K) := by rw [sz0]; exact q1
    replace r1 := (q1.block _ (by omega)).trans r1
    replace hS0 := Lib.hid (hS0.out.on q1)

    obtain ⟨W1, hW1⟩ : ∃ W1, W1 = ((w.alloc (.cells D 28)).alloc (.cells #[.string ⟨#[]⟩, .int .i64 0, .int .i64 0, .int .i64 0, .int .i64 0, .int .i64 0, .string ⟨#[]⟩, .slice none 0 0] 26)).setRow (w.heap.size + 1) K := ⟨_, rfl⟩
    rw [← hW1] at r1 r2 bb s1 sz1 hS0
    have HW1 := Lib.hid hW1
    have R1 := Lib.hid r1
    have R2 := Lib.hid r2
    clear q1 b0 hW1 r1 r2 sz0
    have L2 := loadSt_row R2.out IK.out
    go_enter Try.func39, Try.ntmps39
    go_wp2_with (first
      | (refine wpList_store_row rfl 26 (.tmp 3) (.tmp 19) rfl (w.heap.size + 1) #[.string (bs sn), .int .i64 st, .int .i64 sc, .int .i64 0, .int .i64 0, .int .i64 0, .string ⟨#[]⟩, .slice none 0 0] rfl rfl 26 _ rZ (by rw [← HK.out]; exact IK.out) (by rw [← HK.out]; first | exact ZK.out | exact ZK.out.symm) (by rw [← HK.out]; exact OK.out) ?_; rw [← HK.out, ← HW1.out])
      | fail)
    refine (E1.out _).mono ?_
    rintro e w2 ⟨rfl, q1⟩
    have r1 := (q1.block _ (by omega)).trans R1.out
    have r2 := (q1.block _ (by omega)).trans R2.out
    have lt2 := Nat.lt_of_lt_of_le (show w.heap.size + 1 < W1.heap.size by omega) q1.size
    replace hS0 := Lib.hid (hS0.out.on q1)
    obtain ⟨bb, s1⟩ := Below.next bb s1 q1
    clear q1 E1 L2 R1 R2
    have L1 := M1.out _ r1
    have L2 := loadSt_row r2 IK.out
    cases k1 with
    | false =>
      have HF : Hid (R = false) := Lib.hid (by rw [HR.out]; rfl)
      clear HR
      go_wp2_with fail
      go_ret
      exact ⟨by rw [HF.out]; rfl, bb⟩
    | true =>
    have HF : Hid (R = k2) := Lib.hid (by rw [HR.out]; rfl)
    clear HR
    go_wp2_with fail
    refine (E2.out _ hS0.out).mono ?_
    rintro e w4 ⟨rfl, q1⟩
    obtain ⟨bb, s1⟩ := Below.next bb s1 q1
    go_wp2_with fail
    go_ret
    exact ⟨by rw [HF.out]; rfl, bb⟩
end Go.Proofs.Ytocbcobaodefgaa
