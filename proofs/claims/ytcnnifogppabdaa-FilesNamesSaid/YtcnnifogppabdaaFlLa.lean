/-
  The landed disk's List; slices.Equal on equal texts; Rename, Remove, List over a base.
-/
import Derived.Test.YtcnnifogppabdaaFlV
import Derived.Test.YtcnnifogppabdaaFlP
import Derived.Test.YtcnnifogppabdaaIt
import Derived.BigQuiet
namespace Go.Proofs.Ytcnnifogppabdaa
open Go.RowKit Go.Maps Go.Sort Go.Shelf
set_option linter.unusedVariables false
set_option maxRecDepth 100000

def names (S : List Fil) : List Bs := S.map (·.n)
theorem names_perm {y : Ly} {D : Dk} {u : Int} {w : World} (h : DiskU y D u w) {M : DataW Unit} (hM : w.ownsMap Try.prog 9 ptrE y.m y.N M) (hh : ∀ n : Bs, Maps.has M (.string n) = (find D.S n).isSome) : (names D.S).Perm (strKeys M) ∧ Maps.size M = D.S.length := by
  obtain ⟨es, rfl, hp, _⟩ := hM.entries strKey
  obtain ⟨es', he, hk⟩ := hM.keysOf
  injection he with he
  subst he
  have P1 : (names D.S).Perm (strKeys (.map es)) := by
    refine perm_strKeys hp (fun p hp => ?_) ?_ (fun x => ?_)
    · obtain ⟨v, hv⟩ := hk p hp
      obtain ⟨x, _, hx, _⟩ := Maps.keyOf_str Try.underlying9 hv
      exact ⟨x, hx⟩
    · have := uniq_names.1 h.uq
      exact this
    · have hx := hh x
      rw [hx]
      unfold names
      rw [List.mem_map]
      constructor
      · rintro ⟨f, hf, rfl⟩
        rw [find_mem h.uq hf]; rfl
      · intro e
        obtain ⟨f, hf⟩ := Option.isSome_iff_exists.1 e
        obtain ⟨h1, h2⟩ := find_some hf
        exact ⟨f, h1, h2⟩
  refine ⟨P1, ?_⟩
  have := P1.length_eq
  simp [names, strKeys] at this
  simp [Maps.size, this]
set_option maxHeartbeats 2000000 in
theorem List_any {y : Ly} {D : Dk} {u : Int} (w : World) (h : DiskU y D u w) (hl : D.S.length ≤ 1000000) :
    Calls Try.prog 31 #[.pointer (some ⟨y.p, 0, none⟩)] w fun e w' => ∃ v, e = .returned v ∧ w'.ownsRow w.heap.size 9 1 v D.S.length (((names D.S).mergeSort leB).map encStr) ∧ Below w.heap.size w w' := by
  obtain ⟨M, hM, hat, hh⟩ := h.map
  obtain ⟨P1, hsz⟩ := names_perm h hM hh
  have c0 := h.cells.1
  have C1 := Lib.hid (made_any w h)
  have hmax : Maps.size M ≤ maxLen := by rw [hsz]; unfold maxLen; omega
  have hbytes : Maps.size M * 16 ≤ 140737488355328 := by rw [hsz]; omega
  have C2 := Lib.hid (sortedC w hM hmax hbytes)
  have HP := Lib.hid P1
  clear h hM hat hh P1 hsz hmax hbytes hl
  refine (callsIn_wide (n := 6)).1 ?_
  have hfM : Fence.wide.fn 33 := trivial
  have hfK : Fence.wide.fn 56 := trivial
  have hfS : Fence.wide.fn 55 := trivial
  refine callsIn_of_wp Try.func31 rfl trivial ?_ rfl
  simp only [Try.ntmps31, List.size_toArray, List.length_cons, List.length_nil, Nat.reduceAdd, Nat.reduceSub, Array.replicate_succ, Array.replicate_zero, List.push_toArray, List.append_toArray, List.nil_append, List.cons_append]
  gi_wp2_with (first
    | (gi_at_call 33; refine (callsIn_wide.2 C1.out).mono ?_; rintro e w' ⟨rfl, rfl⟩)
    | (gi_at_call 56; refine (keysC _ _).mono ?_; rintro e w' ⟨rfl, rfl⟩)
    | (gi_at_call 55; refine C2.out.mono ?_; rintro e w' ⟨v, ss, rfl, hS, hrow, hb⟩))
  go_ret
  have hl : ss.length = D.S.length := by
    have := (hS.trans HP.out.symm).length_eq
    simpa [names] using this
  rw [mergeSort_of_perm (hS.trans HP.out.symm), hl] at hrow
  exact ⟨v, rfl, ownsRow_base_a hrow (by simp), ((Below.refl _ w).alloc (Nat.le_refl _) _).trans (hb.mono (by simp))⟩

/-! ### slices.Equal on texts -/
def StrsE (w : World) (A : Option Addr) (L : List Bs) : Prop := 0 < L.length → ∃ g off, A = some ⟨g, off, none⟩ ∧ ∀ j (h : j < L.length), w.cell? ⟨g, off + j, none⟩ = some (.string (bs L[j]))
set_option maxHeartbeats 1000000 in
theorem EqualS_same (A1 A2 : Option Addr) (L : List Bs) (n c1 c2 : Nat) (w : World) (h1 : StrsE w A1 L) (h2 : StrsE w A2 L) (hn : n = L.length) (hm : n ≤ 1000000) :
    Calls Try.prog 30 #[.slice A1 n c1, .slice A2 n c2] w fun e w' => e = .returned (.bool true) ∧ Below w.heap.size w w' := by
  have HN := Lib.hid hn
  clear hn
  go_enter Try.func30, Try.ntmps30
  go_wp2_with fail
  go_loopw [13] (fun v wr => ∃ k : Nat, v = .int .i64 k ∧ k ≤ n ∧ Below w.heap.size w wr) (fun v _ => n - (intOf v).toNat)
  case atStart => exact ⟨0, rfl, by omega, Below.refl _ _⟩
  case round =>
    obtain ⟨k, rfl, hk, hB⟩ := hrel
    by_cases hlt : k < n
    · have hlt' : (k : Int) < (n : Int) := by omega
      have kL : k < L.length := by have := HN.out; omega
      obtain ⟨g1, o1, rfl, hc1⟩ := id h1 (by omega)
      obtain ⟨g2, o2, rfl, hc2⟩ := id h2 (by omega)
      have q1 := hc1 k kL
      have q2 := hc2 k kL
      have p1 : wr.cell? ⟨g1, o1 + k, none⟩ = some (.string (bs L[k])) := (World.cell?_of_block (hB.block g1 (World.block_lt_of_cell? w _ q1))).trans q1
      have p2 : wr.cell? ⟨g2, o2 + k, none⟩ = some (.string (bs L[k])) := (World.cell?_of_block (hB.block g2 (World.block_lt_of_cell? w _ q2))).trans q2
      generalize L[k] = x at *
      clear q1 q2 hc1 hc2 h1 h2
      go_wp2_with fail
      go_quiet (fail)
      go_wp2_with fail
      go_roundw
      case rel => exact ⟨k + 1, by go_num, by omega, below_drewN hB _⟩
      case measure => simp [intOf]; omega
    · obtain rfl : k = n := by omega
      go_wp2_with fail
      go_ret
      exact ⟨rfl, hB⟩

/-! ### over a base -/
theorem used_rid_le {S : List Fil} (hU : Uniq S) (n : Bs) : used (rid S n) ≤ used S := by have := used_rid_int hU n; omega
theorem removeD_ok {D : Dk} (h : D.Ok) (n : Bs) : (removeD D n).2.Ok := by
  unfold removeD
  split
  · exact h
  · rename_i hf
    have hb := burnt_in h.fuse hf
    split
    · exact h.fused _ hb
    · exact ⟨rid_uniq h.u, h.room, Nat.le_trans (used_rid_le h.u n) h.used, fun f hf => h.len f (mem_rid.1 hf).1, h.short, hb⟩
theorem renameD_ok {D : Dk} (h : D.Ok) (n b : Bs) : (renameD D n b).2.Ok := by
  unfold renameD
  split
  · exact h
  split
  · exact h
  · rename_i hf
    have hb := burnt_in h.fuse hf
    split
    · exact h.fused _ hb
    · rename_i f hfd
      have hlen := h.len f (find_some hfd).1
      refine ⟨ins_uniq (rid_uniq (rid_uniq h.u)) (by show find (rid (rid D.S n) b) b = none; rw [find_rid (rid_uniq h.u), if_pos rfl]), h.room, ?_, ?_, h.short, hb⟩
      · show used (ins _ _) ≤ _
        rw [used_ins]
        have h1 := used_rid_le (rid_uniq (n := n) h.u) b
        have h2 := used_rid h.u hfd
        have := h.used
        show used (rid (rid D.S n) b) + f.d.length ≤ _
        omega
      · intro g hg
        have hg : g ∈ ins (rid (rid D.S n) b) ⟨b, f.d, f.s⟩ := hg
        rcases mem_ins.1 hg with rfl | hg
        · exact hlen
        · exact h.len g (mem_rid.1 (mem_rid.1 hg).1).1
section
variable {P B N : Nat} {D : Dk}
theorem Remove_dk (n : Bs) (w : World) (h : DK P B N D w) (hnl : n.length ≤ 140737488355328) :
    Calls Try.prog 25 #[.pointer (some ⟨P, 0, none⟩), .string (bs n)] w fun e w' => e = .returned (.int .i64 (removeD D n).1) ∧ DK P B (N + 1) (removeD D n).2 w' ∧ Below B w w' := by
  obtain ⟨hok, hs, y, rfl, hD, hF, hyN⟩ := h
  refine (Remove_any n w hD hok hnl).mono ?_
  rintro e w' ⟨rfl, hA⟩
  exact ⟨rfl, hA.dk (removeD_ok hok n) rfl hF hs hyN⟩
theorem Rename_dk (n b : Bs) (w : World) (h : DK P B N D w) (hN : N < maxLen) (hnl : n.length ≤ 140737488355328) (hbl : b.length ≤ 140737488355328) :
    Calls Try.prog 26 #[.pointer (some ⟨P, 0, none⟩), .string (bs n), .string (bs b)] w fun e w' => e = .returned (.int .i64 (renameD D n b).1) ∧ DK P B (N + 1) (renameD D n b).2 w' ∧ Below B w w' := by
  obtain ⟨hok, hs, y, rfl, hD, hF, hyN⟩ := h
  refine (Rename_any n b w hD hok (by omega) hnl hbl).mono ?_
  rintro e w' ⟨rfl, hA⟩
  exact ⟨rfl, hA.dk (renameD_ok hok n b) rfl hF hs hyN⟩
theorem List_dk (w : World) (h : DK P B N D w) (hl : D.S.length ≤ 1000000) :
    Calls Try.prog 31 #[.pointer (some ⟨P, 0, none⟩)] w fun e w' => ∃ v, e = .returned v ∧ w'.ownsRow w.heap.size 9 1 v D.S.length (((names D.S).mergeSort leB).map encStr) ∧ Below w.heap.size w w' := by
  obtain ⟨hok, hs, y, rfl, hD, hF, hyN⟩ := h
  exact List_any w hD hl
end
end Go.Proofs.Ytcnnifogppabdaa
