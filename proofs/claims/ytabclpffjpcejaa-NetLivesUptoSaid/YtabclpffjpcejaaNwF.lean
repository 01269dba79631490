/-
  The landed net's Conns; slices.Equal on equal numbers.
-/
import Derived.Test.YtabclpffjpcejaaNwC
import Derived.Test.YtabclpffjpcejaaNt
import Derived.Test.YtabclpffjpcejaaIn
import Derived.Test.YtabclpffjpcejaaIi
import Derived.BigQuiet
namespace Go.Proofs.Ytabclpffjpcejaa
open Go.RowKit Go.Maps Go.Sort Go.Shelf
set_option linter.unusedVariables false
set_option maxRecDepth 100000

def idsN (L : List Cn) : List Int := L.map fun c => (c.id : Int)
def RiseN (L : List Cn) : Prop := (idsN L).Pairwise (· < ·)
theorem mem_idsN {L : List Cn} {a : Int} : a ∈ idsN L ↔ ∃ c ∈ L, (c.id : Int) = a := by unfold idsN; rw [List.mem_map]
theorem sort_rise {l : List Int} (h : l.Pairwise (· < ·)) : l.mergeSort leI = l := by
  have tr : ∀ a b c : Int, leI a b = true → leI b c = true → leI a c = true := fun a b c h1 h2 => by simp only [leI, decide_eq_true_eq] at *; exact Int.le_trans h1 h2
  have to : ∀ a b : Int, (leI a b || leI b a) = true := fun a b => by simp only [leI, Bool.or_eq_true, decide_eq_true_eq]; exact Int.le_total a b
  refine List.Perm.eq_of_pairwise (le := fun a b => leI a b = true) (fun a b _ _ h1 h2 => ?_) (List.pairwise_mergeSort tr to l) (h.imp fun h => ?_) (List.mergeSort_perm l leI)
  · simp only [leI, decide_eq_true_eq] at h1 h2
    exact Int.le_antisymm h1 h2
  · simp only [leI, decide_eq_true_eq]; omega
theorem ids_perm {p m N last : Nat} {L : List Cn} {w : World} (h : NetS p m N last L w) (hr : RiseN L) {M : DataW Unit} (hM : w.ownsMap Try.prog 3 ptrN m N M) (hh : ∀ a : Int, Maps.has M (.int .i64 a) = (fnd L a).isSome) : (idsN L).Perm (intKeys M) ∧ Maps.size M = L.length := by
  obtain ⟨es, rfl, hp, _⟩ := hM.entries nKey
  obtain ⟨es', he, hk⟩ := hM.keysOf
  injection he with he
  subst he
  have P1 : (idsN L).Perm (intKeys (.map es)) := by
    refine perm_intKeys hp (fun p hp => ?_) ?_ (fun x => ?_)
    · obtain ⟨v, hv⟩ := hk p hp
      obtain ⟨x, _, hx, _⟩ := Maps.keyOf_i64 Try.underlying3 hv
      exact ⟨x, hx⟩
    · exact hr.imp fun h => by omega
    · rw [hh x, mem_idsN]
      constructor
      · rintro ⟨c, hc, rfl⟩
        rw [fnd_mem h.uq hc]; rfl
      · intro e
        obtain ⟨c, hc⟩ := Option.isSome_iff_exists.1 e
        obtain ⟨h1, h2⟩ := fnd_some hc
        exact ⟨c, h1, h2⟩
  refine ⟨P1, ?_⟩
  have := P1.length_eq
  simp [idsN, intKeys] at this
  simp [Maps.size, this]
set_option maxHeartbeats 2000000 in
theorem Conns_any {p m N last : Nat} {L : List Cn} (w : World) (h : NetS p m N last L w) (hr : RiseN L) (hl : L.length ≤ 1000000) :
    Calls Try.prog 25 #[.pointer (some ⟨p, 0, none⟩)] w fun e w' => ∃ v, e = .returned v ∧ OwnI w' w.heap.size v (idsN L) ∧ Below w.heap.size w w' := by
  obtain ⟨M, hM, hat, hh⟩ := h.map
  obtain ⟨P1, hsz⟩ := ids_perm h hr hM hh
  have c0 := h.cells.1
  have C1 := Lib.hid (made_n w h)
  have hmax : Maps.size M ≤ maxLen := by rw [hsz]; unfold maxLen; omega
  have hbytes : Maps.size M * 8 ≤ 140737488355328 := by rw [hsz]; omega
  have C2 := Lib.hid (sortedIC w hM hmax hbytes)
  have HP := Lib.hid P1
  have HR := Lib.hid hr
  clear h hM hat hh P1 hsz hmax hbytes hl hr
  refine (callsIn_wide (n := 6)).1 ?_
  have hfM : Fence.wide.fn 37 := trivial
  have hfK : Fence.wide.fn 42 := trivial
  have hfS : Fence.wide.fn 41 := trivial
  refine callsIn_of_wp Try.func25 rfl trivial ?_ rfl
  simp only [Try.ntmps25, List.size_toArray, List.length_cons, List.length_nil, Nat.reduceAdd, Nat.reduceSub, Array.replicate_succ, Array.replicate_zero, List.push_toArray, List.append_toArray, List.nil_append, List.cons_append]
  gi_wp2_with (first
    | (gi_at_call 37; refine (callsIn_wide.2 C1.out).mono ?_; rintro e w' ⟨rfl, hw⟩; subst hw)
    | (gi_at_call 42; refine (keysIC _ _).mono ?_; rintro e w' ⟨rfl, rfl⟩)
    | (gi_at_call 41; refine C2.out.mono ?_; rintro e w' ⟨v, ss, rfl, hS, hrow, hb⟩))
  go_ret
  have hl : ss.length = (idsN L).length := (hS.trans HP.out.symm).length_eq
  have e1 : ss.mergeSort (fun x y => decide (x ≤ y)) = idsN L := (mergeSort_of_perm_i (hS.trans HP.out.symm)).trans (sort_rise HR.out)
  rw [e1, hl] at hrow
  exact ⟨v, rfl, ownsRow_base_a hrow (by simp), ((Below.refl _ _).alloc (Nat.le_refl _) _).trans (hb.mono (by simp))⟩
set_option maxHeartbeats 1000000 in
theorem EqualI_same (A1 A2 : Option Addr) (L : List Int) (n c1 c2 : Nat) (w : World) (h1 : Nts w A1 L) (h2 : Nts w A2 L) (hn : n = L.length) (hm : n ≤ 1000000) :
    Calls Try.prog 24 #[.slice A1 n c1, .slice A2 n c2] w fun e w' => e = .returned (.bool true) ∧ Below w.heap.size w w' := by
  have HN := Lib.hid hn
  clear hn
  go_enter Try.func24, Try.ntmps24
  go_wp2_with fail
  go_loopw [13] (fun v wr => ∃ k : Nat, v = .int .i64 k ∧ k ≤ n ∧ Below w.heap.size w wr) (fun v _ => n - (intOf v).toNat)
  case atStart => exact ⟨0, rfl, by omega, Below.refl _ _⟩
  case round =>
    obtain ⟨k, rfl, hk, hB⟩ := hrel
    by_cases hlt : k < n
    · have hlt' : (k : Int) < (n : Int) := by omega
      have kL : k < L.length := by have := HN.out; omega
      obtain ⟨g1, o1, rfl, hc1⟩ := id h1 (by omega)
      obtain ⟨g2, o2, rfl, hc2⟩ := id h2 (by omega)
      have p1 := cell_on (hc1 k kL) hB
      have p2 := cell_on (hc2 k kL) hB
      generalize L[k] = x at *
      clear hc1 hc2 h1 h2
      go_wp2_with fail
      go_quiet (fail)
      go_wp2_with fail
      go_roundw
      case rel => exact ⟨k + 1, by go_num, by omega, below_drewN hB _⟩
      case measure => simp [intOf]; omega
    · obtain rfl : k = n := by omega
      go_wp2_with fail
      go_ret
      exact ⟨rfl, hB⟩
end Go.Proofs.Ytabclpffjpcejaa
