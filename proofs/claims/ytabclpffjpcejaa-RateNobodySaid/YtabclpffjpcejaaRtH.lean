/-
  The walk of RateDraws.
-/
import Derived.Test.YtabclpffjpcejaaRtE
import Derived.Test.YtabclpffjpcejaaHdB
namespace Go.Proofs.Ytabclpffjpcejaa
open Go.RowKit Go.Maps
set_option linter.unusedVariables false
set_option maxRecDepth 100000

theorem pick_flat (xs : List Int) (k : Nat) (hk : k < 18446744073709551616) : pickT (fun _ => (0, 0)) xs k = xs.getD (k % xs.length) 0 := by
  have e : alikeT (fun _ => (0, 0)) (0, 0) xs = xs := by unfold alikeT; simp
  have e2 : drawU (k : Int) = k := by unfold drawU; omega
  unfold pickT bestV
  rw [e, e2]
theorem nines (q : Nat) (h : q < 2) : [(9 : Int), 9].getD q 0 = 9 := by
  match q, h with
  | 0, _ => rfl
  | 1, _ => rfl
theorem Nts.take {w : World} {A : Option Addr} {l : List Int} (h : Nts w A l) (k : Nat) : Nts w A (l.take k) := fun hl => by
  rw [List.length_take] at hl
  obtain ⟨g, off, hA, hc⟩ := h (by omega)
  exact ⟨g, off, hA, fun j hj => by rw [List.length_take] at hj; rw [List.getElem_take]; exact hc j (by omega)⟩
set_option maxHeartbeats 4000000 in
theorem RateDraws_any (w : World) (A : Option Addr) (xs : List Int) (n c : Nat) (d : Int) (hn : n = xs.length) (hx : Nts w A xs) (hI : ∀ a ∈ xs, I64 a) (hnc : n ≤ c) (hc : c ≤ 9223372036854775807) (hd : I64 d) :
    Calls Try.prog 10 #[.slice A n c, .int .i64 d] w fun e w' => e = .returned (.bool true) ∧ Below w.heap.size w w' := by
  obtain ⟨ys, hys⟩ : ∃ ys, ys = xs.take 20 := ⟨_, rfl⟩
  obtain ⟨k, hk⟩ : ∃ k, k = min n 20 := ⟨_, rfl⟩
  have hkl : k = ys.length := by rw [hys, List.length_take, hk, hn, Nat.min_comm]
  have hY : Nts w A ys := by rw [hys]; exact hx.take 20
  have hYI : ∀ a ∈ ys, I64 a := fun a ha => hI a (by rw [hys] at ha; exact List.mem_of_mem_take ha)
  have hk20 : k ≤ 20 := by omega
  have hwr : IntKind.u64.wrap d = (drawU d : Int) := by
    unfold drawU
    have : IntKind.u64.wrap d = d % 18446744073709551616 := rfl
    rw [this]; omega
  have hdu : drawU d < 18446744073709551616 := by unfold drawU; omega
  generalize drawU d = du at *
  obtain ⟨dd, hdd⟩ : ∃ dd, dd = du / 256 := ⟨_, rfl⟩
  have hdd2 : dd < 72057594037927936 := by omega
  have NT := Lib.hid (NewT_any w)
  have HKL := Lib.hid hkl
  have HY := Lib.hid hY
  have HYI := Lib.hid hYI
  have HDD := Lib.hid hdd
  clear hys hn hx hI hkl hY hYI hdd
  have hmin : min (n : Int) 20 = (k : Int) := by omega
  have hkc : k ≤ c := by omega
  have hdv : (du : Int) / 256 = (dd : Int) := by rw [HDD.out]; omega
  have hkc2 : (k : Int) ≤ (c : Int) := by omega
  clear hk
  go_enter Try.func10, Try.ntmps10
  go_wp2_with fail
  refine NT.out.mono ?_
  rintro e w1 ⟨rfl, t1, b1⟩
  have HT := Lib.hid t1
  have HB1 := Lib.hid b1
  have HY1 := Lib.hid (HY.out.on b1)
  clear t1 b1 NT
  go_wp2_with fail
  have hdk : ∀ i, i < k → (dd + i) % k < k := fun i hi => Nat.mod_lt _ (by omega)
  have HDK := Lib.hid hdk
  clear hdk hwr hdv hmin
  go_loopw [23] (fun v wr => ∃ i : Nat, v = .int .i64 i ∧ i ≤ k ∧ Below w1.heap.size w1 wr) (fun v _ => k - (intOf v).toNat)
  case atStart => exact ⟨0, rfl, by omega, Below.refl _ _⟩
  case round =>
    obtain ⟨i, rfl, hi, hB⟩ := hrel
    rename_i wr
    by_cases hlt : i < k
    · have hlt' : (i : Int) < (k : Int) := by omega
      have hy2 := HY1.out.on hB
      have BY := Lib.hid (Best_yes wr (HT.out.below hB) A ys k c ((dd + i : Nat) : Int) HKL.out hy2 HYI.out (by omega) (by omega))
      have hp := pick_flat ys (dd + i) (by omega)
      obtain ⟨g, off, rfl, hc2⟩ := hy2 (by have := HKL.out; omega)
      have hq := HDK.out i hlt
      rw [← HKL.out] at hp
      have ck := hc2 ((dd + i) % k) (by have := HKL.out; omega)
      rw [List.getD_eq_getElem?_getD, List.getElem?_eq_getElem (by have := HKL.out; omega), Option.getD_some] at hp
      generalize ys[(dd + i) % k]'(by have := HKL.out; omega) = y at *
      have BY2 := Lib.hid BY.out
      rw [hp] at BY2
      have hcast : (((dd + i : Nat)) : Int) = (dd : Int) + (i : Int) := by omega
      have hrem : ((dd + i : Nat) : Int) % (k : Int) = (((dd + i) % k : Nat) : Int) := rfl
      rw [hcast] at BY2 hrem
      clear BY hp hc2 hy2 hcast
      generalize (dd + i) % k = q at *
      have HBW := Lib.hid hB
      have hs := hB.size
      clear hB
      go_wp2_with fail
      refine BY2.out.mono ?_
      rintro e w2 ⟨rfl, b2⟩
      have hB2 := Below.trans HBW.out (b2.mono hs)
      have ck2 := cell_on ck b2
      clear b2 HBW ck
      go_wp2_with fail
      go_roundw
      case rel => exact ⟨i + 1, by go_num, by omega, hB2⟩
      case measure => simp [intOf]; omega
    · obtain rfl : i = k := by omega
      have HBW := Lib.hid hB
      have hs := hB.size
      have HT2 := Lib.hid (HT.out.below hB)
      clear hB
      have hN9 : Nts (wr.alloc (.cells #[.int .i64 9, .int .i64 9] 3)) (some ⟨wr.heap.size, 0, none⟩) [9, 9] := fun _ => ⟨_, _, rfl, fun j hj => by
        match j, hj with
        | 0, _ => exact (cell_of_row _ _ 0 _ _ _ (row_new _ rfl)).trans rfl
        | 1, _ => exact (cell_of_row _ _ 1 _ _ _ (row_new _ rfl)).trans rfl⟩
      have B9 := Lib.hid (Best_yes _ (HT2.out.below (Below.alloc (Below.refl _ _) (Nat.le_refl _) (.cells #[.int .i64 9, .int .i64 9] 3))) _ [9, 9] 2 2 (dd : Int) rfl hN9 (fun a ha => by simp at ha; subst ha; exact ⟨by omega, by omega⟩) (by omega) (by omega))
      have hp : pickT (fun _ => (0, 0)) [9, 9] (dd : Int) = 9 := by
        rw [pick_flat _ _ (by omega)]
        exact nines _ (Nat.mod_lt _ (by decide))
      rw [hp] at B9
      clear hN9 hp
      go_wp2_with fail
      refine B9.out.mono ?_
      rintro e w2 ⟨rfl, b2⟩
      have hB2 : Below w.heap.size w w2 := by
        refine Below.trans HB1.out ((Below.trans HBW.out ((Below.trans (Below.alloc (Below.refl _ _) (Nat.le_refl _) _) (b2.mono (by simp))).mono hs)).mono HB1.out.size)
      clear b2
      go_wp2_with fail
      go_ret
      exact ⟨rfl, hB2⟩
end Go.Proofs.Ytabclpffjpcejaa
