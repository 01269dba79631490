/-
  wire: counts, sections, canBegin; header.Encode's bytes.
-/
import Derived.Test.YtknpkifhkefikaaDoorWrH
import Derived.Test.YtknpkifhkefikaaDoorWe
import Derived.Test.YtknpkifhkefikaaDoorWm
import Derived.Test.YtknpkifhkefikaaDoorWh
namespace Go.Proofs.YtknpkifhkefikaaDoor
open Go.RowKit Go.Maps
set_option linter.unusedVariables false
set_option maxRecDepth 100000

theorem box_ms {w : World} {m : Msg} {v : MV} : (w.alloc (.cells (msL m v).toArray 27)).heap[w.heap.size]? = some (.cells (msL m v).toArray 27 (0, 0)) := row_new _ rfl
set_option maxHeartbeats 1000000 in
theorem counts_any (m : Msg) (v : MV) (w : World) : Calls Tryd.prog 29 #[.agg (msL m v).toArray] w fun e w' => e = .returned (ctV m.q.length m.an.length m.au.length m.ad.length) ∧ Below w.heap.size w w' := by
  have r0 := row_old (.cells #[.int .i64 0, .int .i64 0, .int .i64 0, .int .i64 0] 63 (0, 0)) (box_ms (w := w) (m := m) (v := v))
  have r1 := row_new (w := w.alloc (.cells (msL m v).toArray 27 (0, 0))) (k := w.heap.size + 1) (.cells #[.int .i64 0, .int .i64 0, .int .i64 0, .int .i64 0] 63 (0, 0)) (by simp)
  obtain ⟨c8, c9, c10, c11⟩ := ms_cell r0
  obtain ⟨C, hC⟩ : ∃ C, C = (msL m v).toArray := ⟨_, rfl⟩
  rw [← hC] at c8 c9 c10 c11 r0 r1 ⊢
  have B : Below w.heap.size w ((w.alloc (.cells C 27 (0, 0))).alloc (.cells #[.int .i64 0, .int .i64 0, .int .i64 0, .int .i64 0] 63 (0, 0))) := Below.alloc (Below.alloc (Below.refl _ _) (Nat.le_refl _) _) (by simp) _
  clear hC r0
  generalize m.q.length = n0 at *
  generalize m.an.length = n1 at *
  generalize m.au.length = n2 at *
  generalize m.ad.length = n3 at *
  go_enter Tryd.func29, Tryd.ntmps29
  go_wp2_with fail
  refine bodyPost_ret (v := ctV n0 n1 n2 n3) (results_cell_row (fn := Tryd.f29) (p := 2) (ty := 63) (by kernel_rfl) _ _ (w.heap.size + 1) 63 #[.int .i64 n0, .int .i64 n1, .int .i64 n2, .int .i64 n3] (0, 0) _ rfl (row_new _ (by simp)) Tryd.underlying63 rfl (by kernel_rfl)) rfl ?_
  exact ⟨rfl, Below.alloc (Below.alloc (Below.refl _ _) (Nat.le_refl _) _) (by simp) _⟩
set_option maxHeartbeats 1000000 in
theorem sections_any (m : Msg) (v : MV) (w : World) : Calls Tryd.prog 32 #[.agg (msL m v).toArray] w fun e w' => e = .returned (.agg #[.slice v.a1 m.an.length v.c1, .slice v.a2 m.au.length v.c2, .slice v.a3 m.ad.length v.c3]) ∧ Below w.heap.size w w' := by
  have r0 := row_old (.cells #[.slice none 0 0, .slice none 0 0, .slice none 0 0] 69 (0, 0)) (box_ms (w := w) (m := m) (v := v))
  have r1 := row_new (w := w.alloc (.cells (msL m v).toArray 27 (0, 0))) (k := w.heap.size + 1) (.cells #[.slice none 0 0, .slice none 0 0, .slice none 0 0] 69 (0, 0)) (by simp)
  obtain ⟨c8, c9, c10, c11⟩ := ms_cell r0
  obtain ⟨C, hC⟩ : ∃ C, C = (msL m v).toArray := ⟨_, rfl⟩
  rw [← hC] at c8 c9 c10 c11 r0 r1 ⊢
  clear hC r0
  generalize m.an.length = n1 at *
  generalize m.au.length = n2 at *
  generalize m.ad.length = n3 at *
  go_enter Tryd.func32, Tryd.ntmps32
  go_wp2_with fail
  refine bodyPost_ret (v := .agg #[.slice v.a1 n1 v.c1, .slice v.a2 n2 v.c2, .slice v.a3 n3 v.c3]) (results_cell_row (fn := Tryd.f32) (p := 2) (ty := 69) (by kernel_rfl) _ _ (w.heap.size + 1) 69 #[.slice v.a1 n1 v.c1, .slice v.a2 n2 v.c2, .slice v.a3 n3 v.c3] (0, 0) _ rfl (row_new _ (by simp)) Tryd.underlying69 rfl (by kernel_rfl)) rfl ?_
  exact ⟨rfl, Below.alloc (Below.alloc (Below.refl _ _) (Nat.le_refl _) _) (by simp) _⟩
def canB (n : Bs) (t c : Int) : Bool := can n && (decide (0 ≤ t) && (decide (t ≤ 65535) && (decide (0 ≤ c) && decide (c ≤ 65535))))
theorem canB_no {n : Bs} {t c : Int} (h : can n = false ∨ t < 0 ∨ 65535 < t ∨ c < 0 ∨ 65535 < c) : canB n t c = false := by
  unfold canB
  rcases h with h | h | h | h | h
  · rw [h]; rfl
  · rw [decide_eq_false (by omega : ¬ 0 ≤ t), Bool.false_and, Bool.and_false]
  · rw [decide_eq_false (by omega : ¬ t ≤ 65535), Bool.false_and, Bool.and_false, Bool.and_false]
  · rw [decide_eq_false (by omega : ¬ 0 ≤ c), Bool.false_and, Bool.and_false, Bool.and_false, Bool.and_false]
  · rw [decide_eq_false (by omega : ¬ c ≤ 65535), Bool.and_false, Bool.and_false, Bool.and_false, Bool.and_false]
theorem canB_yes {n : Bs} {t c : Int} (h : can n = true) (h1 : 0 ≤ t) (h2 : t ≤ 65535) (h3 : 0 ≤ c) (h4 : c ≤ 65535) : canB n t c = true := by
  unfold canB
  rw [h, decide_eq_true h1, decide_eq_true h2, decide_eq_true h3, decide_eq_true h4]
  rfl
set_option maxHeartbeats 1000000 in
theorem canBegin_any (n : Bs) (t c : Int) (w : World) : Calls Tryd.prog 40 #[.string (bs n), .int .i64 t, .int .i64 c] w fun e w' => e = .returned (.bool (canB n t c)) ∧ Below w.heap.size w w' := by
  have C := Lib.hid (Can_any n w)
  cases hc : can n with
  | false =>
    rw [hc] at C
    have HR := Lib.hid (canB_no (n := n) (t := t) (c := c) (.inl hc))
    clear hc
    go_enter Tryd.func40, Tryd.ntmps40
    go_wp2_with fail
    refine C.out.mono ?_
    rintro e w1 ⟨rfl, b1⟩
    go_wp2_with fail
    go_ret
    exact ⟨by rw [HR.out]; rfl, b1⟩
  | true =>
    rw [hc] at C
    by_cases h1 : 0 ≤ t
    · by_cases h2 : t ≤ 65535
      · by_cases h3 : 0 ≤ c
        · by_cases h4 : c ≤ 65535
          · have HR := Lib.hid (canB_yes hc h1 h2 h3 h4)
            have HE := Lib.hid (decide_eq_true h4)
            clear hc
            go_enter Tryd.func40, Tryd.ntmps40
            go_wp2_with fail
            refine C.out.mono ?_
            rintro e w1 ⟨rfl, b1⟩
            go_wp2_with fail
            go_ret
            exact ⟨by rw [HR.out]; first | rfl | exact congrArg (fun b => Ending.returned (.bool b)) HE.out, b1⟩
          · have HR := Lib.hid (canB_no (n := n) (t := t) (c := c) (.inr (.inr (.inr (.inr (by omega))))))
            have HE := Lib.hid (decide_eq_false h4)
            clear hc
            go_enter Tryd.func40, Tryd.ntmps40
            go_wp2_with fail
            refine C.out.mono ?_
            rintro e w1 ⟨rfl, b1⟩
            go_wp2_with fail
            go_ret
            exact ⟨by rw [HR.out]; first | rfl | exact congrArg (fun b => Ending.returned (.bool b)) HE.out, b1⟩
        · have HR := Lib.hid (canB_no (n := n) (t := t) (c := c) (.inr (.inr (.inr (.inl (by omega))))))
          clear hc
          go_enter Tryd.func40, Tryd.ntmps40
          go_wp2_with fail
          refine C.out.mono ?_
          rintro e w1 ⟨rfl, b1⟩
          go_wp2_with fail
          go_ret
          exact ⟨by rw [HR.out]; rfl, b1⟩
      · have HR := Lib.hid (canB_no (n := n) (t := t) (c := c) (.inr (.inr (.inl (by omega)))))
        clear hc
        go_enter Tryd.func40, Tryd.ntmps40
        go_wp2_with fail
        refine C.out.mono ?_
        rintro e w1 ⟨rfl, b1⟩
        go_wp2_with fail
        go_ret
        exact ⟨by rw [HR.out]; rfl, b1⟩
    · have HR := Lib.hid (canB_no (n := n) (t := t) (c := c) (.inr (.inl (by omega))))
      clear hc
      go_enter Tryd.func40, Tryd.ntmps40
      go_wp2_with fail
      refine C.out.mono ?_
      rintro e w1 ⟨rfl, b1⟩
      go_wp2_with fail
      go_ret
      exact ⟨by rw [HR.out]; rfl, b1⟩
theorem canB_q (q : Qu) : canB q.n q.t q.c = canQ q := rfl

/-- A header's bytes. -/
def headB (h : Hd) (n0 n1 n2 n3 : Nat) : Bs := tw h.i.toNat ++ (tw (flags h.o h.c h.r h.aa h.tc h.rd h.ra).toNat ++ (tw n0 ++ (tw n1 ++ (tw n2 ++ tw n3))))
def canHd (h : Hd) (n0 n1 n2 n3 : Nat) : Bool := canH h.i h.o h.c n0 n1 n2 n3
theorem tw_vals (x : Int) (h0 : 0 ≤ x) (h1 : x ≤ 65535) : [Value.int .u8 (x / 256), .int .u8 (x % 256)] = (tw x.toNat).map byteV := by
  obtain ⟨n, rfl⟩ := Int.eq_ofNat_of_zero_le h0
  simp [tw, byteV]
  omega
theorem HEnc_any (h : Hd) (n0 n1 n2 n3 : Nat) (w : World) (hm : Masks w) : Calls Tryd.prog 28 #[.agg (hdC h), ctV n0 n1 n2 n3] w fun e w' => ∃ v k, e = .returned (.tuple #[v, .int .i64 k]) ∧ Below w.heap.size w w' ∧ (canHd h n0 n1 n2 n3 = false → v = .slice none 0 0 ∧ k = 1) ∧ (canHd h n0 n1 n2 n3 = true → k = 0 ∧ OwnR w' w.heap.size v (headB h n0 n1 n2 n3) ∧ v ≠ .slice none 0 0) := by
  cases hc : canHd h n0 n1 n2 n3 with
  | false =>
    exact (Encode_no h.i h.o h.c n0 n1 n2 n3 h.r h.aa h.tc h.rd h.ra w hc).mono fun e w' ⟨h1, h2⟩ => ⟨_, _, h1, h2, fun _ => ⟨rfl, rfl⟩, fun h => by cases h⟩
  | true =>
    refine (Encode_yes h.i h.o h.c n0 n1 n2 n3 h.r h.aa h.tc h.rd h.ra w hc hm).mono fun e w' ⟨v, h1, h2, h3⟩ => ?_
    refine ⟨v, 0, h1, h3, (fun h => by cases h), fun _ => ⟨rfl, ?_, ?_⟩⟩
    · obtain ⟨b0, b1, b2, b3, bI, bO, bC⟩ := canH_out hc
      obtain ⟨f1, f2⟩ := flags_bd h.r h.aa h.tc h.rd h.ra bO bC
      have e : encB h.i (flags h.o h.c h.r h.aa h.tc h.rd h.ra) n0 n1 n2 n3 = (headB h n0 n1 n2 n3).map byteV := by
        unfold headB
        simp only [List.map_append, ← tw_vals _ bI.1 bI.2, ← tw_vals _ f1 f2]
        have t0 := tw_vals n0 b0.1 b0.2
        have t1 := tw_vals n1 b1.1 b1.2
        have t2 := tw_vals n2 b2.1 b2.2
        have t3 := tw_vals n3 b3.1 b3.2
        rw [Int.toNat_natCast] at t0 t1 t2 t3
        rw [← t0, ← t1, ← t2, ← t3]
        rfl
      rw [e] at h2
      exact h2
    · rcases h2.2 with ⟨_, h0⟩ | ⟨g, cap, _, rfl, _⟩
      · cases h0
      · intro e; cases e
end Go.Proofs.YtknpkifhkefikaaDoor
