/-
  The best of some servers; the table's small calls.
-/
import Derived.Test.YtabclpffjpcejaaRtA
import Derived.Test.YtabclpffjpcejaaIn
import Derived.Deep.RegionHeld3
namespace Go.Proofs.Ytabclpffjpcejaa
open Go.RowKit Go.Maps
set_option linter.unusedVariables false
set_option maxRecDepth 100000

def lessT (x y : Nat × Nat) : Bool := decide (cmpT x y < 0)
def bestOf (T : Int → Nat × Nat) : Int → List Int → Int
  | m, [] => m
  | m, a :: r => bestOf T (if lessT (T a) (T m) then a else m) r
def I64 (a : Int) : Prop := -9223372036854775808 ≤ a ∧ a ≤ 9223372036854775807
set_option maxHeartbeats 1000000 in
theorem MinFunc_any {p m N : Nat} {T : Int → Nat × Nat} (w : World) (h : Tab p m N T w) (A : Option Addr) (xs : List Int) (n c : Nat) (hn : n = xs.length) (hx : Nts w A xs) (hI : ∀ a ∈ xs, I64 a) (h0 : 0 < n) (hm : n ≤ 17592186044416) :
    Calls Try.prog 46 #[.slice A n c, .func (.func 47) #[.pointer (some ⟨p, 0, none⟩)] #[]] w fun e w' => e = .returned (.int .i64 (bestOf T (xs.headD 0) xs.tail)) ∧ Below w.heap.size w w' := by
  obtain ⟨g, off, rfl, hc⟩ := hx (by omega)
  have c0 := hc 0 (by omega)
  rw [Nat.add_zero] at c0
  have e0 : xs.headD 0 = xs[0]'(by omega) := by
    match xs, hn, h0 with
    | a :: r, _, _ => rfl
    | [], h1, h2 => simp at h1; omega
  have i0 : I64 (xs[0]'(by omega)) := hI _ (List.getElem_mem _)
  rw [e0]
  generalize xs[0]'(by omega) = x0 at *
  have e1 : bestOf T x0 xs.tail = bestOf T x0 (xs.drop 1) := by simp
  rw [e1]
  have HN := Lib.hid hn
  have HC := Lib.hid hc
  have HI := Lib.hid hI
  have HT := Lib.hid h
  clear hc hn e0 e1 hx hI h
  obtain ⟨z, hz⟩ : ∃ z, z = bestOf T x0 (xs.drop 1) := ⟨_, rfl⟩
  rw [← hz]
  have HZ := Lib.hid hz
  clear hz
  go_enter Try.func46, Try.ntmps46
  go_wp2_with fail
  go_loopw [5, 6] (fun u v wr => ∃ (k : Nat) (y : Int), u = .int .i64 y ∧ v = .int .i64 k ∧ 1 ≤ k ∧ k ≤ n ∧ I64 y ∧ Hid (z = bestOf T y (xs.drop k)) ∧ Below w.heap.size w wr) (fun _ v _ => n - (intOf v).toNat)
  case atStart => exact ⟨1, x0, rfl, rfl, by omega, by omega, i0, HZ, Below.refl _ _⟩
  case round =>
    obtain ⟨k, y, rfl, rfl, hk1, hk2, iy, HB, hB⟩ := hrel
    by_cases hlt : k < n
    · have hlt' : (k : Int) < (n : Int) := by omega
      have hkl : k < xs.length := by have := HN.out; omega
      have ck := cell_on (HC.out k hkl) hB
      have ik : I64 xs[k] := HI.out _ (List.getElem_mem _)
      have hb := HB.out
      rw [List.drop_eq_getElem_cons hkl] at hb
      generalize xs[k] = x at *
      have C := Lib.hid (compare_any _ (HT.out.below hB) x y ik iy)
      unfold bestOf at hb
      by_cases hl : cmpT (T x) (T y) < 0
      · have hl' : lessT (T x) (T y) = true := decide_eq_true hl
        rw [hl', if_pos rfl] at hb
        have HB2 := Lib.hid hb
        have hs := hB.size
        have HBW := Lib.hid hB
        clear hl' hb HB hB
        generalize cmpT (T x) (T y) = q at *
        go_wp2_with fail
        refine C.out.mono ?_
        rintro e w1 ⟨rfl, b1⟩
        have hB1 := Below.trans HBW.out (b1.mono hs)
        have ck1 := cell_on ck b1
        clear b1 HBW
        go_wp2_with fail
        go_roundw
        case rel => exact ⟨k + 1, x, rfl, by go_num, by omega, by omega, ik, HB2, hB1⟩
        case measure => simp [intOf]; omega
      · have hl' : lessT (T x) (T y) = false := decide_eq_false hl
        rw [hl', if_neg (by simp)] at hb
        have HB2 := Lib.hid hb
        have hs := hB.size
        have HBW := Lib.hid hB
        have hq : decide (cmpT (T x) (T y) < 0) = false := decide_eq_false hl
        clear hl' hb HB hB
        generalize cmpT (T x) (T y) = q at *
        go_wp2_with fail
        refine C.out.mono ?_
        rintro e w1 ⟨rfl, b1⟩
        have hB1 := Below.trans HBW.out (b1.mono hs)
        clear b1 HBW
        go_wp2_with fail
        go_roundw
        case rel => exact ⟨k + 1, y, rfl, by go_num, by omega, by omega, iy, HB2, hB1⟩
        case measure => simp [intOf]; omega
    · obtain rfl : k = n := by omega
      have hb := HB.out
      rw [List.drop_eq_nil_of_le (by have := HN.out; omega)] at hb
      have HB2 : Hid (z = y) := Lib.hid hb
      have HBW := Lib.hid hB
      clear hb HB hB
      go_wp2_with fail
      go_ret
      exact ⟨by rw [HB2.out]; rfl, HBW.out⟩

/-- A new table. -/
theorem NewT_any (w : World) : Calls Try.prog 27 #[] w fun e w' => e = .returned (.pointer (some ⟨w.heap.size + 1, 0, none⟩)) ∧ Tab (w.heap.size + 1) w.heap.size 0 (fun _ => (0, 0)) w' ∧ Below w.heap.size w w' := by
  obtain ⟨W, hW⟩ : ∃ W, W = (w.alloc (.map #[] 0)).alloc (.cells #[.map (some w.heap.size)] 77) := ⟨_, rfl⟩
  have hm := World.ownsMap_made w Try.prog 3 cpxE
  have t : Tab (w.heap.size + 1) w.heap.size 0 (fun _ => (0, 0)) W := by
    rw [hW]
    refine ⟨row_new _ (by simp), ⟨_, hm.alloc _, fun a => ?_⟩, fun a => by simp⟩
    simp [DataW.atKey]
  have b : Below w.heap.size w W := by rw [hW]; exact Below.alloc (Below.alloc (Below.refl _ _) (Nat.le_refl _) _) (by simp) _
  have HW := Lib.hid hW
  have hmm := @run_makeMap Try.prog
  clear hm hW
  go_enter Try.func27, Try.ntmps27
  go_wp2_with fail
  rw [← HW.out]
  go_ret
  exact ⟨rfl, t, b⟩
section
variable {p m N : Nat} {T : Int → Nat × Nat}
theorem madeT_any (w : World) (h : Tab p m N T w) : Calls Try.prog 43 #[.pointer (some ⟨p, 0, none⟩)] w fun e w' => e = .returned (.bool true) ∧ w = w' := by
  have c0 := h.cell
  have hm := run_neq_map_nil (P := Try.prog) w 75 3 66 (some m) Try.underlying75
  clear h
  go_enter Try.func43, Try.ntmps43
  go_wp2_with fail
  go_ret
  exact ⟨rfl, rfl⟩
theorem Of_any (w : World) (h : Tab p m N T w) (a : Int) (ha : I64 a) : Calls Try.prog 32 #[.pointer (some ⟨p, 0, none⟩), .int .i64 a] w fun e w' => e = .returned (cV (T a)) ∧ w = w' := by
  have c0 := h.cell
  have l1 := h.look a ha
  have C := Lib.hid (madeT_any w h)
  clear h
  unfold cV at *
  generalize Fl (T a).1 = f1 at *
  generalize Fl (T a).2 = f2 at *
  go_enter Try.func32, Try.ntmps32
  go_wp2_with fail
  refine C.out.mono ?_
  rintro e w1 ⟨rfl, rfl⟩
  go_wp2_with fail
  go_ret
  exact ⟨rfl, rfl⟩
end
end Go.Proofs.Ytabclpffjpcejaa
