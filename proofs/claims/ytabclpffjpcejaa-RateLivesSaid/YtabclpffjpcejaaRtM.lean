/-
  The document's table: where a server stands; what is known; a failure, an answer.
-/
import Derived.Test.YtabclpffjpcejaaRtL
namespace Go.Proofs.Ytabclpffjpcejaa
open Go.RowKit Go.Maps
set_option linter.unusedVariables false
set_option maxRecDepth 100000

theorem info_kn : (Try.prog.info? 96).map (fun i => (i.zero, i.size, i.bytes)) = some (some (.agg #[.int .i64 0, .int .i64 0, .int .i64 0]), 3, 24) := by kernel_rfl
/-- An append of one. -/
theorem wpList_app_kn {w : World} {ops : Array Oper} {rest : List Oper} {o : Oper} {a : Act} {Q : Exit → Act → World → Prop} (hgd : o.guard = none) (s x : Operand) (ho : o.op = .call { callee := .builtin .append, args := #[s, x], argTypes := #[59, 59] })
    (base : Nat) (v : Value) (K : List Kn) (hs : a.eval s = v) (hown : w.ownsRow base 96 3 v K.length (kRow K)) (g c : Nat) (y : Kn) (hx : a.eval x = .slice (some ⟨g, 0, none⟩) 1 c) (hc0 : w.cell? ⟨g, 0, none⟩ = some (.int .i64 y.1)) (hc1 : w.cell? ⟨g, 1, none⟩ = some (.int .i64 y.2.1)) (hc2 : w.cell? ⟨g, 2, none⟩ = some (.int .i64 y.2.2)) (hl : K.length ≤ 1000000) (hbase : base ≤ w.heap.size)
    (h : ∀ v' w', w'.ownsRow base 96 3 v' (K ++ [y]).length (kRow (K ++ [y])) → w.grownBy w' v.ownBlock → (∀ k, v'.ownBlock = some k → v.ownBlock = some k ∨ w.heap.size ≤ k) → wpList Try.prog ops Q rest (a.put o.dst v') w') : wpList Try.prog ops Q (o :: rest) a w := by
  obtain ⟨i0, hi, hz0, hz1, hz2⟩ := info_parts info_kn
  refine wpList_plain hgd fun K' hK' => ?_
  obtain ⟨v', w', hr, h3, h4, -, h6⟩ := run_append_own_at (P := Try.prog) w base 59 o.type 96 i0 (.agg #[.int .i64 0, .int .i64 0, .int .i64 0]) 3 24 Try.underlying59 hi hz0 hz1 hz2 rfl (by decide) v K.length (kRow K) hown ⟨g, 0, none⟩ 1 c (kL y) rfl (fun j u hj => by
    match j, hj with
    | 0, hj => injection hj with hj; subst hj; exact hc0
    | 1, hj => injection hj with hj; subst hj; exact hc1
    | 2, hj => injection hj with hj; subst hj; exact hc2) (fun u hu => by simp [kL] at hu; rcases hu with rfl | rfl | rfl <;> rfl) (by unfold maxLen; omega) (by omega) hbase
  unfold Oper.wp execOp
  simp only [ho, resolve, invoke, builtin, Sem.run_bind, Sem.run_pure, Result.andThen_ok, List.map_toArray, List.map_cons, List.map_nil, hs, hx, hr]
  refine hK' _ _ (h v' w' ?_ h4 fun k hk => ?_)
  · rw [kRow_snoc]; simpa using h3
  · rcases h6 with e | e
    · exact .inl (by rw [← e]; exact hk)
    · rw [e] at hk; injection hk with hk; exact .inr (by omega)
/-- Behind a call: the list now; what was written. -/
def AftR (B x : Nat) (v : Value) (X : Value → List Kn → Prop) (w w' : World) : Prop := ∃ v' K', X v' K' ∧ TabR B x v' K' w' ∧ Mod (FootR x v) w w' ∧ (∀ k, v'.ownBlock = some k → v.ownBlock = some k ∨ w.heap.size ≤ k)
set_option maxHeartbeats 1000000 in
theorem place_any {B x : Nat} {v : Value} {K : List Kn} (w : World) (h : TabR B x v K w) (hB : B ≤ w.heap.size) (hl : K.length ≤ 1000) (a : Int) :
    Calls Try.prog 44 #[.pointer (some ⟨x, 0, none⟩), .int .i64 a] w fun e w' => ∃ i : Nat, e = .returned (.int .i64 i) ∧ AftR B x v (fun v' K' => (∃ h : i < K'.length, (K'[i]).1 = a) ∧ (∀ b, lookK K' b = lookK K b) ∧ K'.length ≤ K.length + 1) w w' := by
  have c0 := h.cell
  have H := Lib.hid h
  have HB := Lib.hid hB
  obtain ⟨va, vc, rfl, hvc, hvm⟩ := h.slice
  obtain ⟨n, hn⟩ : ∃ n, n = K.length := ⟨_, rfl⟩
  rw [← hn] at c0 hvc hl
  have hvm2 : vc ≤ 9223372036854775807 := by unfold maxLen at hvm; omega
  have HN := Lib.hid hn
  clear h hB hn hvm
  go_enter Try.func44, Try.ntmps44
  go_wp2_with fail
  go_loopw [12] (fun u wr => ∃ k : Nat, u = .int .i64 k ∧ k ≤ n ∧ (∀ j (hj : j < K.length), j < k → (K[j]).1 ≠ a) ∧ Below w.heap.size w wr) (fun u _ => n - (intOf u).toNat)
  case atStart => exact ⟨0, rfl, by omega, fun j _ hj => absurd hj (by omega), Below.refl _ _⟩
  case round =>
    obtain ⟨k, rfl, hk, hno, hBw⟩ := hrel
    rename World => wr
    have HT := Lib.hid (H.out.below hBw)
    have HNO := Lib.hid hno
    have HBW := Lib.hid hBw
    have hsz := hBw.size
    have c0' := HT.out.cell
    rw [← HN.out] at c0'
    by_cases hlt : k < n
    · have hlt' : (k : Int) < (n : Int) := by omega
      have hkl : k < K.length := by have := HN.out; omega
      obtain ⟨g, c, hv, -, -, d0, d1, d2, -⟩ := HT.out.cells hkl
      injection hv with hv1 hv2 hv3
      subst hv1 hv3
      obtain ⟨q, hq⟩ : ∃ q, q = K[k] := ⟨_, rfl⟩
      rw [← hq] at d0 d1 d2
      have HQ := Lib.hid hq
      obtain ⟨qa, qt, qf⟩ := q
      dsimp only at d0 d1 d2
      clear hq hno hBw hv2
      by_cases e : qa = a
      · subst e
        have AF : Hid (AftR B x (.slice (some ⟨g, 0, none⟩) K.length vc) (fun v' K' => (∃ h : k < K'.length, (K'[k]).1 = qa) ∧ (∀ b, lookK K' b = lookK K b) ∧ K'.length ≤ K.length + 1) w (wr.alloc (.cells #[.int .i64 qa, .int .i64 qt, .int .i64 qf] 96))) := Lib.hid
          ⟨_, K, ⟨⟨hkl, by rw [← HQ.out]⟩, fun b => rfl, by omega⟩, HT.out.below (Below.alloc (Below.refl _ _) (Nat.le_refl _) _), (Mod.below HBW.out).then (Below.alloc (Below.refl _ _) (Nat.le_refl _) _), fun k hk => .inl hk⟩
        go_wp2_with fail
        go_ret
        exact ⟨k, rfl, AF.out⟩
      · have e2 : (qa == a) = false := by simpa using e
        have hno2 : ∀ j (hj : j < K.length), j < k + 1 → (K[j]).1 ≠ a := fun j hj hjk => by
          by_cases ej : j = k
          · subst ej; rw [← HQ.out]; exact e
          · exact HNO.out j hj (by omega)
        have HNO2 := Lib.hid hno2
        clear hno2 e
        go_wp2_with fail
        go_roundw
        case rel => exact ⟨k + 1, by go_num, by omega, HNO2.out, Below.alloc HBW.out (by omega) _⟩
        case measure => simp [intOf]; omega
    · obtain rfl : k = n := by omega
      have hall : ∀ q ∈ K, q.1 ≠ a := fun q hq => by
        obtain ⟨j, hj, rfl⟩ := List.getElem_of_mem hq
        exact hno j hj (by have := HN.out; omega)
      have HALL := Lib.hid hall
      have HROW : Hid ((wr.alloc (.cells #[.int .i64 a, .int .i64 0, .int .i64 0] 96)).ownsRow B 96 3 (.slice va k vc) K.length (kRow K)) := Lib.hid (by rw [HN.out]; exact (HT.out.below (Below.alloc (Below.refl _ _) (Nat.le_refl _) _)).row)
      have hob : (Value.slice va k vc).ownBlock = (Value.slice va K.length vc).ownBlock := by cases va <;> rfl
      have HOB := Lib.hid hob
      have hKl : K.length ≤ 1000000 := by have := HN.out; omega
      have HKL := Lib.hid hKl
      clear hall hno hBw hob hKl
      go_wp2_with (at_builtin; (with_reducible refine wpList_app_kn rfl _ _ rfl B (.slice va k vc) K rfl HROW.out wr.heap.size 1 (a, (0, 0)) rfl ?c1 ?c2 ?c3 HKL.out ?c5 ?_))
      case c5 => have := HB.out; simp; omega
      intro v' w2 hrow2 hg hfr
      rw [HOB.out] at hg hfr
      have hT := HT.out
      have hM1 : Mod (FootR x (.slice va K.length vc)) w (wr.alloc (.cells #[.int .i64 a, .int .i64 0, .int .i64 0] 96)) := (Mod.below HBW.out).then (Below.alloc (Below.refl _ _) (Nat.le_refl _) _)
      have hM2 : Mod (FootR x (.slice va K.length vc)) w w2 := hM1.trans (Mod.grown (S := FootR x (.slice va K.length vc)) hg (fun k e => .inr e)) (fun i e => .inl e)
      have r1 : w2.heap[x]? = some (.cells #[.slice va K.length vc] 61 (0, 0)) := (hg.block _ (by simp; have := hT.lt (.inl rfl); omega) (fun e => hT.xv e.symm)).trans (row_old _ hT.head)
      have x0 := (cell_of_row _ _ 0 _ _ _ r1).trans rfl
      have z0 : w2.frozen? ⟨x, 0, none⟩ = false := frozen_of_row _ _ _ _ _ r1
      have hrow2' : w2.ownsRow B 96 3 v' (K ++ [(a, (0, 0))]).length (kRow (K ++ [(a, (0, 0))])) := by rw [List.length_append]; exact hrow2
      have hxl := H.out.lt (.inl rfl)
      have hne : ∀ k, v'.ownBlock = some k → k ≠ x := fun k e e' => by
        rcases hfr k e with e2 | e2
        · exact hT.xv (e' ▸ e2)
        · have := hT.lt (.inl rfl); omega
      have hfr2 : ∀ k, v'.ownBlock = some k → (Value.slice va K.length vc).ownBlock = some k ∨ w.heap.size ≤ k := fun k e => by
        rcases hfr k e with e2 | e2
        · exact .inl e2
        · exact .inr (by omega)
      have hT3 : TabR B x v' (K ++ [(a, (0, 0))]) (w2.setCell ⟨x, 0, none⟩ v') := by
        refine ⟨row_set v' r1, rrow_block hrow2' fun k e => Below.heap_setCell _ _ _ _ (hne k e), ?_, fun q hq => ?_⟩
        · unfold keysK
          rw [List.map_append, List.nodup_append]
          refine ⟨hT.uq, by simp, fun b hb c hc e => ?_⟩
          rw [List.mem_map] at hb
          obtain ⟨q, hq, rfl⟩ := hb
          simp at hc
          exact HALL.out q hq (e.trans hc)
        · rw [List.mem_append, List.mem_singleton] at hq
          rcases hq with hq | rfl
          · exact hT.ok q hq
          · exact ⟨Nat.zero_le _, Nat.zero_le _⟩
      have hM3 : Mod (FootR x (.slice va K.length vc)) w (w2.setCell ⟨x, 0, none⟩ v') := hM2.trans (S' := fun k => k = x) ⟨rfl, rfl, rfl, by simp, fun i _ hn => Below.heap_setCell _ _ _ _ hn⟩ (fun i e => .inl (.inl e))
      have hlen : (K ++ [(a, ((0 : Nat), (0 : Nat)))]).length = k + 1 := by simp; exact HN.out.symm
      obtain ⟨vb, vd, hv', hvd, hvdm⟩ : ∃ vb vd, v' = .slice vb (k + 1) vd ∧ k + 1 ≤ vd ∧ vd ≤ maxLen := by
        obtain ⟨vb, vd, h1, h2, h3⟩ := hT3.slice
        rw [hlen] at h1 h2
        exact ⟨vb, vd, h1, h2, h3⟩
      have AF : Hid (AftR B x (.slice va K.length vc) (fun v' K' => (∃ h : k < K'.length, (K'[k]).1 = a) ∧ (∀ b, lookK K' b = lookK K b) ∧ K'.length ≤ K.length + 1) w (w2.setCell ⟨x, 0, none⟩ v')) := Lib.hid
        ⟨v', K ++ [(a, (0, 0))], ⟨⟨by rw [hlen]; omega, by simp [HN.out]⟩, fun b => look_snoc HALL.out, by simp⟩, hT3, hM3, hfr2⟩
      clear hT hM1 hM2 r1 hrow2 hrow2' hne hfr hfr2 hT3 hM3 hg hlen HROW HOB HT hxl
      have hvd2 : vd ≤ 9223372036854775807 := by unfold maxLen at hvdm; omega
      clear hvdm
      subst hv'
      go_wp2_with fail
      go_ret
      exact ⟨k, by simp, AF.out⟩
end Go.Proofs.Ytabclpffjpcejaa
