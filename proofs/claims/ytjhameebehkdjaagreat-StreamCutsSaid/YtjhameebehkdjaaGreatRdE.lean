/-
  bytes.Equal, bytes.Clone, slices.Equal of texts, over bytes and strings in memory.
-/
import Derived.Test.YtjhameebehkdjaaGreatQb
import Derived.Test.YtjhameebehkdjaaGreatNmRa
import Derived.Lib.SliceRun
import Derived.BigQuiet
import Derived.Deep.MidRow
namespace Go.Proofs.YtjhameebehkdjaaGreat
open Go.RowKit
set_option linter.unusedVariables false
set_option maxRecDepth 100000

theorem cell_on {w w1 : World} {g o : Nat} {v : Value} (h : w.cell? ⟨g, o, none⟩ = some v) (hB : Below w.heap.size w w1) : w1.cell? ⟨g, o, none⟩ = some v :=
  (World.cell?_of_block (hB.block g (World.block_lt_of_cell? w _ h))).trans h
theorem range_on {w w1 : World} {g o : Nat} {cs : List Value} (h : w.rangeAt g o cs) (hB : Below w.heap.size w w1) : w1.rangeAt g o cs := fun j v hv => cell_on (h j v hv) hB
theorem grown_of_below {w w' : World} (hB : Below w.heap.size w w') (r : Option Nat) : w.grownBy w' r := ⟨hB.os, hB.tape, hB.output, hB.size, fun k hk _ => hB.block k hk⟩
theorem ownsRow_below {w w' : World} {base size n B : Nat} {e : TypeId} {v : Value} {xs : List Value} (h : w.ownsRow base e size v n xs) (hB : Below B w w') (hs : w.heap.size ≤ B) : w'.ownsRow base e size v n xs := by
  refine h.kept (row := none) ⟨hB.os, hB.tape, hB.output, hB.size, fun k hk _ => hB.block k (by omega)⟩ (by cases hv : v.ownBlock <;> simp)
theorem run_enter {f : FuncId} {fn : Func} (hf : Tryz.prog.funcs[f]? = some fn) (hname : (fn.name == "runtime.NumGoroutine") = false) (hb : fn.body.isNone = false) (args : Array Value) (w : World) : (callFunc f args).run Tryz.prog w = .ok (.enter f args) w := by
  have h1 : fn.name ≠ "runtime.NumGoroutine" := by simpa using hname
  simp [callFunc, hf, h1]
  intro h
  rw [h] at hb
  cases hb
theorem Bys.inside {w : World} {A : Option Addr} {l : Bs} (h : Bys w A l) : ∀ p, A = some p → 0 < l.length → p.block < w.heap.size := by
  intro p hp hn
  obtain ⟨g, off, hA, hc⟩ := h hn
  rw [hA] at hp
  injection hp with hp
  subst hp
  exact World.block_lt_of_cell? w _ (hc 0 hn)
theorem bs_beq (a b : Bs) : (bs a == bs b) = (a == b) := by
  show (a.toArray == b.toArray) = (a == b)
  simp

set_option maxHeartbeats 400000 in
theorem EqualB_any (A1 A2 : Option Addr) (l1 l2 : Bs) (n1 n2 c1 c2 : Nat) (w : World) (h1 : Bys w A1 l1) (h2 : Bys w A2 l2) (e1 : n1 = l1.length) (e2 : n2 = l2.length) :
    Calls Tryz.prog 16 #[.slice A1 n1 c1, .slice A2 n2 c2] w fun e w' => e = .returned (.bool (l1 == l2)) ∧ w = w' := by
  have x1 := string_bys A1 l1 c1 w h1
  have x2 := string_bys A2 l2 c2 w h2
  rw [← e1] at x1
  rw [← e2] at x2
  have HB := Lib.hid (bs_beq l1 l2)
  clear e1 e2 h1 h2
  go_enter Tryz.func16, Tryz.ntmps16
  go_wp2_with fail
  go_ret
  exact ⟨by rw [← HB.out]; rfl, rfl⟩


set_option maxHeartbeats 1000000 in
theorem CloneB_any (A : Option Addr) (l : Bs) (n c : Nat) (w : World) (hS : Bys w A l) (hn : n = l.length) (hl : n ≤ 140737488351232) (hin : ∀ p, A = some p → 0 < n → p.block < w.heap.size) :
    Calls Tryz.prog 125 #[.slice A n c] w fun e w' => ∃ v', e = .returned v' ∧ OwnB w' w.heap.size v' l ∧ Below w.heap.size w w' := by
  have q : ∀ (w : World) (a : Option Addr) (n c n' c' : Nat), (binOp .eql 29 (.slice a n c) (.slice none n' c')).run Tryz.prog w = .ok (.bool a.isNone) w := fun w a n c n' c' => Lib.run_eql_slice_nil w _ _ a n c n' c' Tryz.underlying29
  cases A with
  | none =>
    have hl0 : l = [] := by
      rcases l with _ | ⟨b, l⟩
      · rfl
      · obtain ⟨g, off, h, _⟩ := hS (by simp)
        cases h
    subst hl0
    clear hS hin
    go_enter Tryz.func125, Tryz.ntmps125
    go_wp2_with fail
    go_ret
    exact ⟨_, rfl, .inl ⟨rfl, rfl⟩, Below.refl _ _⟩
  | some p =>
    have hcells : ∀ (o : Obj) j u, (l.map byteV)[j]? = some u → (w.alloc o).cell? (p.add j) = some u := by
      intro o j u hj
      rw [List.getElem?_map] at hj
      cases hlj : l[j]? with
      | none => rw [hlj] at hj; cases hj
      | some b =>
        rw [hlj] at hj
        injection hj with hj
        obtain ⟨hjl, hjb⟩ := List.getElem?_eq_some_iff.1 hlj
        obtain ⟨g, off, hp, hcs⟩ := hS (by omega)
        injection hp with hp
        have hg := hin p rfl (by omega)
        subst hp
        have hadd : (⟨g, off, none⟩ : Addr).add j = ⟨g, off + j, none⟩ := by unfold Addr.add; split <;> simp_all
        rw [hadd, Below.cell (p := ⟨g, off + j, none⟩) (B := w.heap.size) ((Below.refl _ w).alloc (Nat.le_refl _) _) hg, hcs j hjl, hjb, ← hj]
        rfl
    have HC := Lib.hid hcells
    clear hcells hS hin
    obtain ⟨xs, hxs⟩ : ∃ xs, l.map byteV = xs := ⟨_, rfl⟩
    rw [hxs] at HC
    have HX := Lib.hid hxs
    clear hxs
    have hxl : xs.length = n * 1 := by rw [← HX.out]; simp; omega
    have h1c : ∀ u ∈ xs, u.oneCell' = true := fun u hu => by
      rw [← HX.out] at hu
      obtain ⟨b, _, rfl⟩ := List.mem_map.1 hu
      rfl
    have H1 := Lib.hid h1c
    have HXL := Lib.hid hxl
    obtain ⟨i0, hi, hz0, hz1, hz2⟩ := info_parts info_u8
    clear hxl h1c hn
    go_enter Tryz.func125, Tryz.ntmps125
    go_wp2_with (at_builtin; refine wpList_append_own _ rfl _ _ 29 rfl w.heap.size 5 i0 (.int .u8 0) 1 1 Tryz.underlying29 hi hz0 hz1 hz2 rfl (by decide) _ _ _ rfl (World.ownsRow_made w #[] 0 (Nat.le_refl _) (Nat.zero_le _) rfl) p n c xs rfl HXL.out (HC.out _) H1.out (by unfold maxLen; omega) (by omega) (by simp) ?_)
    intro v' w1 hown hgrow _
    have ho := OwnB.of (l := l) hown (by rw [HX.out])
    have hb : Below w.heap.size w w1 := ((Below.refl _ w).alloc (Nat.le_refl _) _).grown hgrow (by simp) (by intro k hk; simp [Value.ownBlock] at hk; omega)
    clear hown hgrow
    go_wp2_with fail
    go_ret
    exact ⟨v', rfl, ho, hb⟩
end Go.Proofs.YtjhameebehkdjaaGreat
