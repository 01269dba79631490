/-
  The document's Tail, Parent, Within.
-/
import Derived.Test.YtigpkcpdccgnfaaNmRb
import Derived.Test.YtigpkcpdccgnfaaNmF
import Derived.Test.YtigpkcpdccgnfaaNmQ
namespace Go.Proofs.Ytigpkcpdccgnfaa
open Go.RowKit
set_option linter.unusedVariables false

theorem Strs.cut {w : World} {A : Option Addr} {L : List Bs} (h : Strs w A L) {k c : Nat} (hc : L.length ≤ c) : Strs w (if c = k then A else A.map (·.add k)) (L.drop k) := fun hn => by
  rw [List.length_drop] at hn
  obtain ⟨g, off, rfl, hcs⟩ := h (by omega)
  rw [if_neg (by omega)]
  refine ⟨g, off + k, ?_, fun j hj => ?_⟩
  · simp only [Option.map_some]
    unfold Addr.add
    split <;> simp_all
  · rw [List.length_drop] at hj
    have := hcs (k + j) (by omega)
    rw [← Nat.add_assoc] at this
    rw [this, List.getElem_drop]

theorem slice_strs (A : Option Addr) (L : List Bs) (c k : Nat) (w : World) (hS : Strs w A L) (hk : k ≤ L.length) (hc : L.length ≤ c) : ∃ A', (∀ w : World, (Instr.slice 41 (.slice A L.length c) (some (.int .i64 k)) none none).run Try.prog w = .ok (.slice A' (L.drop k).length (c - k)) w) ∧ Strs w A' (L.drop k) := by
  refine ⟨_, fun w => ?_, hS.cut (k := k) hc⟩
  obtain ⟨i0, hi, hz0, hz1, hz2⟩ := info_parts info_str
  have hel : Try.prog.elem 41 = 9 := by kernel_rfl
  rw [run_slice_l w 41 A L.length c (by rw [hel]; exact Try.underlying41) _ _ (by omega) (by omega), hel]
  have hsz : (sizeOf 9).run Try.prog w = .ok 1 w := by simp [sizeOf, typeInfo, hi, hz1]
  rw [hsz]
  simp [sliced]

set_option maxHeartbeats 1000000 in
theorem rTail_any (l : Bs) (k : Int) (w : World) (hk1 : -9223372036854775808 ≤ k) (hk2 : k ≤ 9223372036854775807) :
    Calls Try.prog 28 #[.string (bs l), .int .i64 k] w fun e w' => e = .returned (.string (bs (tail l k))) ∧ Below w.heap.size w w' := by
  have C := Lib.hid (fun W => rCan_any l W)
  cases h : can l
  · rw [tail_no h]
    rw [h] at C
    clear h
    go_enter Try.func28, Try.ntmps28
    go_wp2_with fail
    refine (C.out _).mono ?_
    rintro e w1 ⟨rfl, rfl⟩
    go_wp2_with fail
    go_ret
    exact ⟨rfl, Below.refl _ _⟩
  · have LB := Lib.hid (Labels_any l w)
    have hn := can_count h
    have hL := (can_out h).2.2.2
    have HL := Lib.hid hL
    have ht := tail_of h k
    rw [h] at C
    clear h hL
    generalize labels l = L at *
    generalize tail l k = y at *
    have HT := Lib.hid ht
    clear ht
    go_enter Try.func28, Try.ntmps28
    go_wp2_with fail
    refine (C.out _).mono ?_
    rintro e w1 ⟨rfl, rfl⟩
    go_wp2_with fail
    refine LB.out.mono ?_
    rintro e w1 ⟨A, c, rfl, hS, hc, hB⟩
    have hm : L.length - clamp k L.length ≤ L.length := by omega
    obtain ⟨A', hrun, hS'⟩ := slice_strs A L c (L.length - clamp k L.length) w1 hS hm hc
    have hJ := Join_any A' (c - (L.length - clamp k L.length)) (L.drop (L.length - clamp k L.length)) w1 hS' (fun x hx => (HL.out x (List.mem_of_mem_drop hx)).2) (by simp; omega)
    rw [← HT.out] at hJ
    have J := Lib.hid hJ
    have hcast : ((L.length - clamp k L.length : Nat) : Int) = (L.length : Int) - min (max k 0) (L.length : Int) := by unfold clamp; omega
    rw [hcast] at hrun
    clear hcast hJ hS hS' LB C
    generalize L.drop (L.length - clamp k L.length) = M at *
    generalize c - (L.length - clamp k L.length) = c' at *
    go_wp2_with fail
    refine J.out.mono ?_
    rintro e w2 ⟨rfl, hB2⟩
    have hB3 : Below w.heap.size w w2 := Below.trans hB (hB2.mono hB.size)
    clear J hB2 hB
    go_wp2_with fail
    go_ret
    exact ⟨rfl, hB3⟩

theorem rParent_root (l : Bs) (w : World) (h : labels l = []) : Calls Try.prog 24 #[.string (bs l)] w fun e w' => e = .returned (.tuple #[.string (bs []), .bool false]) ∧ Below w.heap.size w w' := by
  have LB := Lib.hid (Labels_any l w)
  rw [h] at LB
  clear h
  go_enter Try.func24, Try.ntmps24
  go_wp2_with fail
  refine LB.out.mono ?_
  rintro e w1 ⟨A, c, rfl, hS, hc, hB⟩
  go_wp2_with fail
  go_ret2
  exact ⟨rfl, hB⟩

set_option maxHeartbeats 1000000 in
theorem rParent_yes (l : Bs) (n : Nat) (w : World) (h : (labels l).length = n + 1) : Calls Try.prog 24 #[.string (bs l)] w fun e w' => e = .returned (.tuple #[.string (bs (join (labels l).tail)), .bool true]) ∧ Below w.heap.size w w' := by
  have hcan : can l = true := by
    cases hc : can l
    · rw [labels_no hc] at h; simp at h
    · rfl
  have hn := can_count hcan
  have HL := Lib.hid (can_out hcan).2.2.2
  have LB := Lib.hid (Labels_any l w)
  have hne : (((labels l).length : Int) == 0) = false := by simp; intro e; rw [e] at h; simp at h
  have h1 : (1 : Int) ≤ ((labels l).length : Int) := by omega
  clear h hcan
  rw [← List.drop_one]
  generalize labels l = L at *
  obtain ⟨y, hy⟩ : ∃ y, y = join (L.drop 1) := ⟨_, rfl⟩
  rw [← hy]
  go_enter Try.func24, Try.ntmps24
  go_wp2_with fail
  refine LB.out.mono ?_
  rintro e w1 ⟨A, c, rfl, hS, hc, hB⟩
  obtain ⟨A', hrun0, hS'⟩ := slice_strs A L c 1 w1 hS (by omega) hc
  have hrun : ∀ w : World, (Instr.slice 41 (.slice A L.length c) (some (.int .i64 1)) none none).run Try.prog w = .ok (.slice A' (L.drop 1).length (c - 1)) w := hrun0
  clear hrun0
  have hJ := Join_any A' (c - 1) (L.drop 1) w1 hS' (fun x hx => (HL.out x (List.mem_of_mem_drop hx)).2) (by simp; omega)
  rw [← hy] at hJ
  have J := Lib.hid hJ
  clear hJ hS hS' LB hy
  generalize L.drop 1 = M at *
  generalize c - 1 = c' at *
  go_wp2_with fail
  refine J.out.mono ?_
  rintro e w2 ⟨rfl, hB2⟩
  have hB3 : Below w.heap.size w w2 := Below.trans hB (hB2.mono hB.size)
  clear J hB2 hB
  go_wp2_with fail
  go_ret2
  exact ⟨rfl, hB3⟩

theorem within_no_left {l z : Bs} (h : can l = false) : within l z = false := by
  unfold within; rw [tail_no h]; unfold same; rw [can_nil]; rfl
theorem within_no_right {l z : Bs} (h : can z = false) : within l z = false := by
  unfold within same; rw [h]; simp
theorem within_few {l z : Bs} (hl : can l = true) (hz : can z = true) (h : (labels l).length < (labels z).length) : within l z = false := by
  unfold within
  rw [tail_all hl (by omega)]
  unfold same
  rw [hl, hz]
  simp only [Bool.and_self, Bool.true_and, beq_eq_false_iff_ne]
  intro e
  have e := congrArg labels e
  rw [(can_low hl).2, (can_low hz).2] at e
  have := congrArg List.length e
  simp at this
  omega

set_option maxHeartbeats 1000000 in
theorem rWithin_any (l z : Bs) (w : World) : Calls Try.prog 30 #[.string (bs l), .string (bs z)] w fun e w' => e = .returned (.bool (within l z)) ∧ Below w.heap.size w w' := by
  have Cl := Lib.hid (fun W => rCan_any l W)
  have Cz := Lib.hid (fun W => rCan_any z W)
  have Nl := Lib.hid (fun W => rCount_any l W)
  have Nz := Lib.hid (fun W => rCount_any z W)
  cases hl : can l
  · rw [within_no_left hl]
    rw [hl] at Cl
    clear hl
    go_enter Try.func30, Try.ntmps30
    go_wp2_with fail
    refine (Cl.out _).mono ?_
    rintro e w1 ⟨rfl, rfl⟩
    go_wp2_with fail
    go_ret
    exact ⟨rfl, Below.refl _ _⟩
  · cases hz : can z
    · rw [within_no_right hz]
      rw [hl] at Cl
      rw [hz] at Cz
      clear hl hz
      go_enter Try.func30, Try.ntmps30
      go_wp2_with fail
      refine (Cl.out _).mono ?_
      rintro e w1 ⟨rfl, rfl⟩
      go_wp2_with fail
      refine (Cz.out _).mono ?_
      rintro e w1 ⟨rfl, rfl⟩
      go_wp2_with fail
      go_ret
      exact ⟨rfl, Below.refl _ _⟩
    · have hn1 := can_count hl
      have hn2 := can_count hz
      by_cases hfew : (labels l).length < (labels z).length
      · rw [within_few hl hz hfew]
        rw [hl] at Cl
        rw [hz] at Cz
        clear hl hz
        have hge : ¬ ((labels z).length : Int) ≤ ((labels l).length : Int) := by omega
        generalize (labels l).length = a at *
        generalize (labels z).length = b at *
        go_enter Try.func30, Try.ntmps30
        go_wp2_with fail
        refine (Cl.out _).mono ?_
        rintro e w1 ⟨rfl, rfl⟩
        go_wp2_with fail
        refine (Cz.out _).mono ?_
        rintro e w1 ⟨rfl, rfl⟩
        go_wp2_with fail
        refine (Nl.out _).mono ?_
        rintro e w1 ⟨rfl, b1⟩
        have s1 := b1.size
        go_wp2_with fail
        refine (Nz.out _).mono ?_
        rintro e w2 ⟨rfl, b2⟩
        obtain ⟨b2, s2⟩ := Below.next b1 s1 b2
        go_wp2_with fail
        go_ret
        exact ⟨rfl, b2⟩
      · rw [hl] at Cl
        rw [hz] at Cz
        have hge : ((labels z).length : Int) ≤ ((labels l).length : Int) := by omega
        have T := Lib.hid (fun W => rTail_any l ((labels z).length : Int) W (by omega) (by omega))
        have S := Lib.hid (fun W => rSame_any (tail l ((labels z).length : Int)) z W)
        have hw : within l z = same (tail l ((labels z).length : Int)) z := rfl
        rw [hw]
        clear hl hz hw
        generalize tail l ((labels z).length : Int) = t at *
        generalize (labels l).length = a at *
        generalize (labels z).length = b at *
        go_enter Try.func30, Try.ntmps30
        go_wp2_with fail
        refine (Cl.out _).mono ?_
        rintro e w1 ⟨rfl, rfl⟩
        go_wp2_with fail
        refine (Cz.out _).mono ?_
        rintro e w1 ⟨rfl, rfl⟩
        go_wp2_with fail
        refine (Nl.out _).mono ?_
        rintro e w1 ⟨rfl, b1⟩
        have s1 := b1.size
        go_wp2_with fail
        refine (Nz.out _).mono ?_
        rintro e w2 ⟨rfl, b2⟩
        obtain ⟨b2, s2⟩ := Below.next b1 s1 b2
        clear b1 s1
        go_wp2_with fail
        refine (Nz.out _).mono ?_
        rintro e w3 ⟨rfl, b3⟩
        obtain ⟨b3, s3⟩ := Below.next b2 s2 b3
        clear b2 s2
        go_wp2_with fail
        refine (T.out _).mono ?_
        rintro e w4 ⟨rfl, b4⟩
        obtain ⟨b4, s4⟩ := Below.next b3 s3 b4
        clear b3 s3
        go_wp2_with fail
        refine (S.out _).mono ?_
        rintro e w5 ⟨rfl, b5⟩
        obtain ⟨b5, s5⟩ := Below.next b4 s4 b5
        clear b4 s4
        go_wp2_with fail
        go_ret
        exact ⟨rfl, b5⟩
end Go.Proofs.Ytigpkcpdccgnfaa
