/-
  The landed entry: data and SOAs; Can; an entry that can be.
-/
import Derived.Test.YtocbcobaodefgaaEnF
namespace Go.Proofs.Ytocbcobaodefgaa
open Go.RowKit
set_option linter.unusedVariables false
set_option maxRecDepth 100000

set_option maxHeartbeats 1000000 in
theorem areDatas_any (s : St) (A : Option Addr) (c : Nat) (w : World) (hS : Byss w A s.ds) (hm : s.ds.length ≤ 9223372036854775806) : Calls Try.prog 79 #[.agg (stC s A c)] w fun e w' => e = .returned (.bool (dataS s)) ∧ Below w.heap.size w w' := by
  have r1 := row_new (w := w) (k := w.heap.size) (.cells (stC s A c) 26 (0, 0)) rfl
  have b0 : Below w.heap.size w (w.alloc (.cells (stC s A c) 26 (0, 0))) := Below.alloc (Below.refl _ _) (Nat.le_refl _) _
  obtain ⟨c0, c1, c2, c3, c4, c5, c6, c7⟩ := st_cell r1
  have HR : Hid (dataS s = (s.ds.all (canD s.t) && decide (0 < s.ds.length))) := Lib.hid rfl
  have hS0 := Lib.hid (hS.on b0)
  generalize dataS s = R at *
  clear r1 c0 c2 c3 c4 c5 c6 hS
  generalize stC s A c = C at *
  generalize s.t = t at *
  generalize s.ds = L at *
  obtain ⟨n, hn'⟩ : ∃ n, n = L.length := ⟨_, rfl⟩
  rw [← hn'] at c7 hm HR
  have HN := Lib.hid hn'
  have H0 : Hid (L.all (canD t) = (L.drop 0).all (canD t)) := Lib.hid rfl
  clear hn'
  go_enter Try.func79, Try.ntmps79
  go_wp2_with fail
  generalize w.alloc (.cells C 26) = W0 at *
  go_loopw [8] (fun i wr => ∃ k : Nat, i = .int .i64 k ∧ k ≤ n ∧ Below W0.heap.size W0 wr ∧ Hid (L.all (canD t) = (L.drop k).all (canD t))) (fun i _ => n - (intOf i).toNat)
  case atStart => exact ⟨0, rfl, by omega, Below.refl _ _, H0⟩
  case round =>
    obtain ⟨k, rfl, hk, hB, hT⟩ := hrel
    clear H0
    replace c1 := cell_on c1 hB
    replace c7 := cell_on c7 hB
    by_cases hlt : k < n
    · have hlt' : (k : Int) < (n : Int) := by omega
      have kL : k < L.length := by have := HN.out; omega
      obtain ⟨g1, o1, rfl, hc1⟩ := hS0.out (by omega)
      obtain ⟨a1, d1, C1, D1, h1, h2, _⟩ := hc1 k kL
      have C1' := cell_on C1 hB
      have hx := hT.out.trans (all_at kL)
      have E := Lib.hid (dCan_any t a1 L[k] d1 wr (D1.on hB) h1 h2)
      generalize L[k] = x at *
      generalize canD t x = r at *
      have HX := Lib.hid hx
      have bw := Below.trans b0 (hB.mono b0.size)
      clear hc1 C1 D1 h1 h2 hx hT
      go_wp2_with fail
      refine E.out.mono ?_
      rintro e w1 ⟨rfl, b1⟩
      have bb := Below.trans bw (b1.mono bw.size)
      have b2 := Below.trans hB (b1.mono hB.size)
      clear E b1
      cases r with
      | false =>
        have HF : Hid (R = false) := Lib.hid (by rw [HR.out, HX.out]; rfl)
        clear HR HX
        go_wp2_with fail
        go_ret
        exact ⟨by rw [HF.out]; rfl, bb⟩
      | true =>
        have HX2 : Hid (L.all (canD t) = (L.drop (k + 1)).all (canD t)) := Lib.hid (by rw [HX.out]; rfl)
        clear HX
        go_wp2_with fail
        go_roundw
        case rel => exact ⟨k + 1, by go_num, by omega, b2, HX2⟩
        case measure => simp [intOf]; omega
    · have hlt' : ¬ (k : Int) < (n : Int) := by omega
      obtain rfl : k = n := by omega
      have hall : L.all (canD t) = true := by rw [hT.out, List.drop_eq_nil_of_le (by have := HN.out; omega)]; rfl
      rw [hall, Bool.true_and] at HR
      have bw := Below.trans b0 (hB.mono b0.size)
      clear hT hall hS0
      go_wp2_with fail
      go_ret
      exact ⟨by rw [HR.out]; exact ret_bool (by simp), bw⟩

theorem soaS_of {s : St} {x : Bs} (h : s.ds = [x]) : soaS s = (can s.z && canD 6 x) := by simp [soaS, h]
theorem soaS_len {s : St} (h : s.ds.length ≠ 1) : soaS s = false := by simp [soaS, h]
set_option maxHeartbeats 1000000 in
theorem hasSOA_any (s : St) (A : Option Addr) (c : Nat) (w : World) (hS : Byss w A s.ds) (hm : s.ds.length ≤ 9223372036854775806) : Calls Try.prog 80 #[.agg (stC s A c)] w fun e w' => e = .returned (.bool (soaS s)) ∧ Below w.heap.size w w' := by
  have r1 := row_new (w := w) (k := w.heap.size) (.cells (stC s A c) 26 (0, 0)) rfl
  have b0 : Below w.heap.size w (w.alloc (.cells (stC s A c) 26 (0, 0))) := Below.alloc (Below.refl _ _) (Nat.le_refl _) _
  obtain ⟨c0, c1, c2, c3, c4, c5, c6, c7⟩ := st_cell r1
  have hS0 := Lib.hid (hS.on b0)
  have E1 := Lib.hid (fun W => Can_any s.z W)
  have HR : Hid (can s.z = false → soaS s = false) := Lib.hid (fun h => by simp [soaS, h])
  have HL := Lib.hid (@soaS_len s)
  have HO := Lib.hid (fun x h => @soaS_of s x h)
  generalize soaS s = R at *
  clear r1 c0 c1 c2 c3 c4 c5 hS
  generalize stC s A c = C at *
  generalize s.z = z at *
  generalize s.ds = L at *
  go_enter Try.func80, Try.ntmps80
  go_wp2_with fail
  generalize w.alloc (.cells C 26) = W0 at *
  refine (E1.out _).mono ?_
  rintro e w1 ⟨rfl, b1⟩
  replace c7 := cell_on c7 b1
  have bb := Below.trans b0 (b1.mono b0.size)
  have hS1 := Lib.hid (hS0.out.on b1)
  clear b1 b0 E1 hS0 c6
  cases hk : can z with
  | false =>
    have HF := Lib.hid (HR.out hk)
    clear hk HR HL HO
    go_wp2_with fail
    go_ret
    exact ⟨by rw [HF.out]; rfl, bb⟩
  | true =>
    have HK := Lib.hid hk
    clear hk HR
    by_cases hl : L.length = 1
    · match L, hl with
      | [x], _ =>
      obtain ⟨g1, o1, rfl, hc1⟩ := hS1.out (by simp)
      obtain ⟨a1, d1, C1, D1, h1, h2, _⟩ := hc1 0 (by simp)
      simp only [List.getElem_cons_zero] at C1 D1 h1
      have E := Lib.hid (dCan_any 6 a1 x d1 w1 D1 h1 h2)
      have HX := HO.out x rfl
      rw [HK.out, Bool.true_and] at HX
      have HXH := Lib.hid HX
      rw [Nat.add_zero] at C1
      generalize canD 6 x = r at *
      simp only [List.length_cons, List.length_nil] at c7
      clear hc1 D1 h1 h2 HX HO HL hS1 hl hm
      go_wp2_with fail
      refine E.out.mono ?_
      rintro e w2 ⟨rfl, b2⟩
      have bb2 := Below.trans bb (b2.mono bb.size)
      go_wp2_with fail
      go_ret
      exact ⟨by rw [HXH.out]; rfl, bb2⟩
    · have HF := Lib.hid (HL.out hl)
      have hl' : ((L.length : Int) == 1) = false := by rw [beq_eq_false_iff_ne]; omega
      clear HL HO hl hS1
      generalize L.length = n at *
      go_wp2_with fail
      go_ret
      exact ⟨by rw [HF.out]; rfl, bb⟩
end Go.Proofs.Ytocbcobaodefgaa
