/-
  The landed disk's Append, Sync, Read, Synced.
-/
import Derived.Test.YtcnnifogppabdaaFlH
namespace Go.Proofs.Ytcnnifogppabdaa
open Go.RowKit
set_option linter.unusedVariables false
set_option maxRecDepth 100000

set_option maxHeartbeats 2000000 in
theorem Append_any {y : Ly} {D : Dk} (A : Option Addr) (b : Bs) (m c : Nat) (n : Bs) (w : World) (h : DiskU y D (used D.S) w) (hok : D.Ok) (hN : y.N < maxLen) (hm : m = b.length) (hnl : n.length ≤ 140737488355328) (hS : Bys w A b) (hc : b.length ≤ c) (hcm : c ≤ 9223372036854775807) (hA : A = none → c = 0) (hbl : b.length ≤ 140737488351232) (hoff : Off y D.S A b) :
    Calls Try.prog 16 #[.pointer (some ⟨y.p, 0, none⟩), .string (bs n), .slice A m c] w fun e w' => e = .returned (.tuple #[.int .i64 (appendD D n b).1, .int .i64 (appendD D n b).2.1]) ∧ After y D.S (appendD D n b).2.2 w w' := by
  subst hm
  cases hcan : canN n with
  | false =>
    have hr : appendD D n b = (0, 1, D) := by unfold appendD; rw [if_pos hcan]
    have HR := Lib.hid hr
    have C1 := Lib.hid (made_any w h)
    have C2 := Lib.hid (by have := canName_any n w hnl; rw [hcan] at this; exact this)
    have HD := Lib.hid (fun W (hB : Below w.heap.size w W) => h.below hB)
    clear hr h hok hN hnl hS hA hbl hoff hcan
    go_enter Try.func16, Try.ntmps16
    go_wp2_with fail
    with_reducible refine Calls.mono C1.out ?_
    rintro e w1 ⟨rfl, rfl⟩
    go_wp2_with fail
    with_reducible refine Calls.mono C2.out ?_
    rintro e w1 ⟨rfl, hB1⟩
    have HB1 := Lib.hid hB1
    clear hB1
    go_wp2_with fail
    go_ret2
    rw [HR.out]
    exact ⟨rfl, After.same (HD.out _ HB1.out) (Only.of_below HB1.out)⟩
  | true =>
    by_cases hf : D.fuse = 0
    · have hr : appendD D n b = (0, 62, D) := by unfold appendD; rw [if_neg (by rw [hcan]; simp), if_pos hf]
      have HR := Lib.hid hr
      have C1 := Lib.hid (made_any w h)
      have C2 := Lib.hid (by have := canName_any n w hnl; rw [hcan] at this; exact this)
      have C3 := Lib.hid (fun W (hB : Below w.heap.size w W) => by have := burn_any W (h.below hB) hok.fuse; rw [show burnE D.fuse = 62 by rw [hf]; rfl, show burnF D.fuse = D.fuse by rw [hf]; rfl] at this; exact this)
      clear hr h hok hN hnl hS hA hbl hoff hcan hf
      go_enter Try.func16, Try.ntmps16
      go_wp2_with fail
      with_reducible refine Calls.mono C1.out ?_
      rintro e w1 ⟨rfl, rfl⟩
      go_wp2_with fail
      with_reducible refine Calls.mono C2.out ?_
      rintro e w1 ⟨rfl, hB1⟩
      go_wp2_with fail
      with_reducible refine Calls.mono (C3.out _ hB1) ?_
      rintro e w2 ⟨rfl, hD2, ho2⟩
      have HA2 := Lib.hid (After.ahead (After.same (D' := D) hD2 ho2) (Only.of_below hB1))
      clear hD2 ho2 hB1
      go_wp2_with fail
      go_ret2
      rw [HR.out]
      exact ⟨rfl, HA2.out⟩
    · exact append_tail A b c n w h hok hN hS hc hcm hA hbl hcan hf hoff

def syncD (D : Dk) (n : Bs) : Int × Dk :=
  if D.fuse = 0 then (62, D) else match find D.S n with
  | none => (60, { D with fuse := burnt D.fuse })
  | some f => (0, { D with S := upd D.S ⟨n, f.d, f.d.length⟩, fuse := burnt D.fuse })
set_option maxHeartbeats 2000000 in
theorem Sync_any {y : Ly} {D : Dk} (n : Bs) (w : World) (h : DiskU y D (used D.S) w) (hok : D.Ok) (hnl : n.length ≤ 140737488355328) :
    Calls Try.prog 17 #[.pointer (some ⟨y.p, 0, none⟩), .string (bs n)] w fun e w' => e = .returned (.int .i64 (syncD D n).1) ∧ After y D.S (syncD D n).2 w w' := by
  have C1 := Lib.hid (made_any w h)
  by_cases hf : D.fuse = 0
  · have hr : syncD D n = (62, D) := by unfold syncD; rw [if_pos hf]
    have HR := Lib.hid hr
    have C3 := Lib.hid (by have := burn_any w h hok.fuse; rw [show burnE D.fuse = 62 by rw [hf]; rfl, show burnF D.fuse = D.fuse by rw [hf]; rfl] at this; exact this)
    clear hr h hok hnl hf
    go_enter Try.func17, Try.ntmps17
    go_wp2_with fail
    with_reducible refine Calls.mono C1.out ?_
    rintro e w1 ⟨rfl, rfl⟩
    go_wp2_with fail
    with_reducible refine Calls.mono C3.out ?_
    rintro e w2 ⟨rfl, hD2, ho2⟩
    have HA2 := Lib.hid (After.same (D' := D) hD2 ho2)
    clear hD2 ho2
    go_wp2_with fail
    go_ret
    rw [HR.out]
    exact ⟨rfl, HA2.out⟩
  · have C3 := Lib.hid (by have := burn_any w h hok.fuse; rw [show burnE D.fuse = 0 by unfold burnE; rw [if_neg hf], show burnF D.fuse = burnt D.fuse by unfold burnF; rw [if_neg hf]] at this; exact this)
    cases hfd : find D.S n with
    | none =>
      have hr : syncD D n = (60, { D with fuse := burnt D.fuse }) := by unfold syncD; rw [if_neg hf, hfd]
      have HR := Lib.hid hr
      clear hr h hok hf
      go_enter Try.func17, Try.ntmps17
      go_wp2_with fail
      with_reducible refine Calls.mono C1.out ?_
      rintro e w1 ⟨rfl, rfl⟩
      go_wp2_with fail
      with_reducible refine Calls.mono C3.out ?_
      rintro e w2 ⟨rfl, hD2, ho2⟩
      have look := hD2.look n (by unfold maxLen; omega)
      rw [ptrOf_none hfd] at look
      have c0 := hD2.cells.1
      have HA2 := Lib.hid (After.same (D' := { D with fuse := burnt D.fuse }) hD2 ho2)
      clear hD2 ho2 hfd hnl
      go_wp2_with fail
      go_ret
      rw [HR.out]
      exact ⟨rfl, HA2.out⟩
    | some f =>
      obtain ⟨hfS, hfn⟩ := find_some hfd
      obtain rfl : n = f.n := hfn.symm
      have hr : syncD D f.n = (0, { D with S := upd D.S ⟨f.n, f.d, f.d.length⟩, fuse := burnt D.fuse }) := by unfold syncD; rw [if_neg hf, hfd]
      have HR := Lib.hid hr
      have hus : used (upd D.S ⟨f.n, f.d, f.d.length⟩) = used D.S := by
        have := used_upd (x := ⟨f.n, f.d, f.d.length⟩) h.uq hfd
        simp at this
        exact this
      have HUS := Lib.hid hus
      clear hr h hok hf hus hfn
      go_enter Try.func17, Try.ntmps17
      go_wp2_with fail
      with_reducible refine Calls.mono C1.out ?_
      rintro e w1 ⟨rfl, rfl⟩
      go_wp2_with fail
      with_reducible refine Calls.mono C3.out ?_
      rintro e w2 ⟨rfl, hD2, ho2⟩
      have look := hD2.look f.n (by unfold maxLen; omega)
      rw [ptrOf_some hfd] at look
      have c0 := hD2.cells.1
      have hrow := (hD2.file f hfS).2
      obtain ⟨fa, fc, hv, hfl, hfm, hfa⟩ := row_slice hrow
      have fc0 := (hD2.fcells hfS).1
      have fc1 := (hD2.fcells hfS).2
      have z1 := hD2.fthaw hfS 1
      rw [hv] at fc0
      have r1 := (hD2.file f hfS).1
      obtain ⟨hD3, hF3⟩ := hD2.onFile hfS (w' := w2.setCell ⟨y.fb f.n, 1, none⟩ (.int .i64 (f.d.length : Nat))) (v' := y.v f.n) (d' := f.d) (s' := f.d.length)
        (fun k hk h1 h2 => Below.heap_setCell _ _ _ _ h1)
        (row_set _ r1)
        (row_block hrow fun k e => Below.heap_setCell _ _ _ _ (fun e' => hD2.fv hfS hfS (by rw [e, e'])))
        (fun k e => .inl e)
      have hO3 : Only (Foot y D.S) w (w2.setCell ⟨y.fb f.n, 1, none⟩ (.int .i64 (f.d.length : Nat))) := ho2.setCell (.inl (foot_f hfS)) _
      have hsz := ho2.size
      have HA3 : Hid (After y D.S { D with S := upd D.S ⟨f.n, f.d, f.d.length⟩, fuse := burnt D.fuse } w (w2.setCell ⟨y.fb f.n, 1, none⟩ (.int .i64 (f.d.length : Nat)))) := Lib.hid ⟨{ y with v := fun n => if n = f.n then y.v f.n else y.v n }, rfl, by rw [HUS.out]; exact hD3, hO3, fun k hk => by
        rcases hF3 k hk with h | h
        · exact .inl h
        · exact .inr (by omega), Nat.le_succ _⟩
      have hfm2 : fc ≤ 9223372036854775807 := by unfold maxLen at hfm; omega
      clear hD2 ho2 hfd hnl hD3 hF3 hO3 hrow r1 hv hfa hfm hsz
      go_wp2_with fail
      go_ret
      rw [HR.out]
      exact ⟨rfl, HA3.out⟩

/-- What Read hands out: bytes of its own. -/
def ReadP (d : Bs) (W : World) (e : Ending) (w' : World) : Prop := ∃ v, e = .returned (.tuple #[v, .int .i64 0]) ∧ w'.ownsRow W.heap.size 5 1 v d.length (d.map byteV)
set_option maxHeartbeats 2000000 in
theorem Read_yes {y : Ly} {D : Dk} {u : Int} {f : Fil} (n : Bs) (w : World) (h : DiskU y D u w) (hfd : find D.S n = some f) (hd : f.d.length ≤ 1048576) (hnl : n.length ≤ 140737488355328) :
    Calls Try.prog 20 #[.pointer (some ⟨y.p, 0, none⟩), .string (bs n)] w fun e w' => ReadP f.d w e w' ∧ Below w.heap.size w w' := by
  obtain ⟨hfS, hfn⟩ := find_some hfd
  obtain rfl : n = f.n := hfn.symm
  have C1 := Lib.hid (made_any w h)
  have look := h.look f.n (by unfold maxLen; omega)
  rw [ptrOf_some hfd] at look
  have c0 := h.cells.1
  obtain ⟨fa, fc, hv, hfl, hfm, hfa, hB⟩ := row_bys (h.file f hfS).2
  have fc0 := (h.fcells hfS).1
  rw [hv] at fc0
  have K := Lib.hid (CloneW_any fa f.d f.d.length fc w hB rfl (by omega) hB.inside)
  have hfm2 : fc ≤ 9223372036854775807 := by unfold maxLen at hfm; omega
  clear h hfd hnl hv hB hfa hfm hfn hd
  go_enter Try.func20, Try.ntmps20
  go_wp2_with fail
  with_reducible refine Calls.mono C1.out ?_
  rintro e w1 ⟨rfl, rfl⟩
  go_wp2_with fail
  with_reducible refine Calls.mono K.out ?_
  rintro e w2 ⟨v', rfl, ho, hB2, _⟩
  have HO := Lib.hid ho
  clear ho
  go_wp2_with fail
  go_ret2
  exact ⟨⟨v', rfl, HO.out⟩, hB2⟩
set_option maxHeartbeats 2000000 in
theorem Read_no {y : Ly} {D : Dk} {u : Int} (n : Bs) (w : World) (h : DiskU y D u w) (hfd : find D.S n = none) (hnl : n.length ≤ 140737488355328) :
    Calls Try.prog 20 #[.pointer (some ⟨y.p, 0, none⟩), .string (bs n)] w fun e w' => e = .returned (.tuple #[.slice none 0 0, .int .i64 60]) ∧ w = w' := by
  have C1 := Lib.hid (made_any w h)
  have look := h.look n (by unfold maxLen; omega)
  rw [ptrOf_none hfd] at look
  have c0 := h.cells.1
  clear h hfd hnl
  go_enter Try.func20, Try.ntmps20
  go_wp2_with fail
  with_reducible refine Calls.mono C1.out ?_
  rintro e w1 ⟨rfl, rfl⟩
  go_wp2_with fail
  go_ret2
  exact ⟨rfl, rfl⟩
set_option maxHeartbeats 2000000 in
theorem Synced_any {y : Ly} {D : Dk} {u : Int} (n : Bs) (w : World) (h : DiskU y D u w) (hnl : n.length ≤ 140737488355328) :
    Calls Try.prog 22 #[.pointer (some ⟨y.p, 0, none⟩), .string (bs n)] w fun e w' => e = .returned (.int .i64 (match find D.S n with | some f => (f.s : Int) | none => 0)) ∧ w = w' := by
  have C1 := Lib.hid (made_any w h)
  have look := h.look n (by unfold maxLen; omega)
  have c0 := h.cells.1
  cases hfd : find D.S n with
  | none =>
    rw [ptrOf_none hfd] at look
    clear h hfd hnl
    go_enter Try.func22, Try.ntmps22
    go_wp2_with fail
    with_reducible refine Calls.mono C1.out ?_
    rintro e w1 ⟨rfl, rfl⟩
    go_wp2_with fail
    go_ret
    exact ⟨rfl, rfl⟩
  | some f =>
    rw [ptrOf_some hfd] at look
    obtain ⟨hfS, hfn⟩ := find_some hfd
    obtain rfl : n = f.n := hfn.symm
    have fc1 := (h.fcells hfS).2
    clear h hfd hnl hfn
    go_enter Try.func22, Try.ntmps22
    go_wp2_with fail
    with_reducible refine Calls.mono C1.out ?_
    rintro e w1 ⟨rfl, rfl⟩
    go_wp2_with fail
    go_ret
    exact ⟨rfl, rfl⟩
end Go.Proofs.Ytcnnifogppabdaa
