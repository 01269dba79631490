/-
  The document's table: what is known; a failure, an answer.
-/
import Derived.Test.YtabclpffjpcejaaRtM
import Derived.Deep.CutBlock
import Derived.Deep.DeepCutAuto
namespace Go.Proofs.Ytabclpffjpcejaa
open Go.RowKit Go.Maps
set_option linter.unusedVariables false
set_option maxRecDepth 100000

theorem wrap_small (q : Nat) (h : q ≤ 1000) : wrap64 ((q : Nat) : Int) = (q : Int) := by unfold wrap64; omega
theorem Mod.set {S : Nat → Prop} {w w1 : World} {g i : Nat} {v : Value} (h : Mod S w w1) (hg : S g ∨ w.heap.size ≤ g) : Mod S w (w1.setCell ⟨g, i, none⟩ v) :=
  h.trans (S' := fun k => k = g) ⟨rfl, rfl, rfl, by simp, fun i _ hn => Below.heap_setCell _ _ _ _ hn⟩ (fun k e => by subst e; exact hg)
theorem TabR.put1 {B x g c n j : Nat} {K : List Kn} {w : World} (h : TabR B x (.slice (some ⟨g, 0, none⟩) n c) K w) (hn : n = K.length) (hj : j < K.length) (t : Nat) (ht : t ≤ 8000) :
    TabR B x (.slice (some ⟨g, 0, none⟩) n c) (K.set j (K[j].1, (t, K[j].2.2))) (w.setCell ⟨g, j * 3 + 1, none⟩ (.int .i64 t)) := by
  have hg : x ≠ g := fun e => h.xv (by rw [e]; rfl)
  refine ⟨(Below.heap_setCell _ _ _ _ hg).trans h.head, ?_, by rw [keys_set K j (t, K[j].2.2) hj]; exact h.uq, fun q hq => ?_⟩
  · rw [List.length_set, ← kRow_set1 K j hj t]
    have := h.row
    rw [← hn] at this ⊢
    exact rrow_set this (by omega) _
  · rcases List.mem_or_eq_of_mem_set hq with h3 | h3
    · exact h.ok q h3
    · subst h3; exact ⟨ht, (h.ok _ (List.getElem_mem hj)).2⟩
theorem TabR.put2 {B x g c n j : Nat} {K : List Kn} {w : World} (h : TabR B x (.slice (some ⟨g, 0, none⟩) n c) K w) (hn : n = K.length) (hj : j < K.length) (t : Nat) (ht : t ≤ 1000) :
    TabR B x (.slice (some ⟨g, 0, none⟩) n c) (K.set j (K[j].1, (K[j].2.1, t))) (w.setCell ⟨g, j * 3 + 2, none⟩ (.int .i64 t)) := by
  have hg : x ≠ g := fun e => h.xv (by rw [e]; rfl)
  refine ⟨(Below.heap_setCell _ _ _ _ hg).trans h.head, ?_, by rw [keys_set K j (K[j].2.1, t) hj]; exact h.uq, fun q hq => ?_⟩
  · rw [List.length_set, ← kRow_set2 K j hj t]
    have := h.row
    rw [← hn] at this ⊢
    exact rrow_set this (by omega) _
  · rcases List.mem_or_eq_of_mem_set hq with h3 | h3
    · exact h.ok q h3
    · subst h3; exact ⟨(h.ok _ (List.getElem_mem hj)).1, ht⟩
set_option maxHeartbeats 1000000 in
theorem FailedR_any {B x : Nat} {v : Value} {K : List Kn} (w : World) (h : TabR B x v K w) (hB : B ≤ w.heap.size) (hl : K.length ≤ 1000) (a : Int) :
    Calls Try.prog 29 #[.pointer (some ⟨x, 0, none⟩), .int .i64 a] w fun e w' => (∃ r, e = .returned r) ∧ AftR B x v (fun v' K' => (∀ b, lookK K' b = put1 (lookK K) a (failT (lookK K a)) b) ∧ K'.length ≤ K.length + 1) w w' := by
  have PL := Lib.hid (place_any w h hB hl a)
  have HL := Lib.hid hl
  clear h hB
  go_enter Try.func29, Try.ntmps29
  go_wp2_with fail
  refine PL.out.mono ?_
  rintro e w1 ⟨i, rfl, v', K', ⟨⟨hi, hia⟩, hlk, hlen⟩, hT, hM, hF⟩
  obtain ⟨g, c, rfl, hc1, hc2, d0, d1, d2, hz⟩ := hT.cells hi
  obtain ⟨n, hn⟩ : ∃ n, n = K'.length := ⟨_, rfl⟩
  rw [← hn] at hT hc1
  have c0 : w1.cell? ⟨x, 0, none⟩ = some (.slice (some ⟨g, 0, none⟩) n c) := hT.cell
  have hok := hT.ok _ (List.getElem_mem hi)
  obtain ⟨q, hq⟩ : ∃ q, q = K'[i] := ⟨_, rfl⟩
  rw [← hq] at d0 d1 d2 hok hia
  obtain ⟨qa, qt, qf⟩ := q
  dsimp only at d0 d1 d2 hok hia
  have z2 := hz (i * 3 + 2)
  have hin : (i : Int) < (n : Int) := by omega
  have hnc : c ≤ 9223372036854775807 := by unfold maxLen at hc2; omega
  have hT2 := hT.put2 hn hi (min (qf + 1) 1000) (by omega)
  obtain ⟨m, hm⟩ : ∃ m, m = min (qf + 1) 1000 := ⟨_, rfl⟩
  have AF : Hid (AftR B x v (fun v' K'' => (∀ b, lookK K'' b = Go.Proofs.Ytabclpffjpcejaa.put1 (lookK K) a (failT (lookK K a)) b) ∧ K''.length ≤ K.length + 1) w (w1.setCell ⟨g, i * 3 + 2, none⟩ (.int .i64 (m : Nat))).drew) := Lib.hid (by
    have hob : (Value.slice (some ⟨g, 0, none⟩) n c).ownBlock = some g := rfl
    have hT3 : TabR B x (.slice (some ⟨g, 0, none⟩) n c) (K'.set i (K'[i].1, (K'[i].2.1, min (qf + 1) 1000))) (w1.setCell ⟨g, i * 3 + 2, none⟩ (.int .i64 (m : Nat))).drew := by rw [hm]; exact (hT.put2 hn hi (min (qf + 1) 1000) (by omega)).below (Below.drew (Below.refl _ _))
    refine ⟨_, _, ⟨fun b => ?_, by rw [List.length_set]; exact hlen⟩, hT3, ?_, fun k e => hF k e⟩
    · rw [look_set hT.uq hi]
      rw [← hq]
      have e1 : lookK K a = (qt, qf) := by rw [← hlk a, ← hia]; have := look_at hT.uq hi; rw [← hq] at this; exact this
      unfold Go.Proofs.Ytabclpffjpcejaa.put1
      rw [e1]
      dsimp only
      by_cases e : b = a
      · rw [if_pos e, if_pos (e.trans hia.symm)]; rfl
      · rw [if_neg e, if_neg (fun e' => e (e'.trans hia))]; exact hlk b
    · refine (hM.set ?_).drew
      rcases hF g hob with h | h
      · exact .inl (.inr h)
      · exact .inr h)
  have hqf : (qf : Int) + 1 ≤ 1001 := by omega
  have hmin : min ((qf : Int) + 1) 1000 = (m : Int) := by omega
  have hw64 : wrap64 ((qf : Int) + 1) = (qf : Int) + 1 := by unfold wrap64; omega
  have hmin2 : min (wrap64 ((qf : Int) + 1)) 1000 = (m : Int) := by rw [hw64]; exact hmin
  clear hlk hlen hT hM hF hz hT2 hc2 hn hq hok hia PL hm hw64
  go_wp2_with fail
  go_region
  all_goals (go_wp2_with fail; go_end0; exact ⟨⟨_, rfl⟩, AF.out⟩)
set_option maxHeartbeats 1000000 in
theorem AnsweredR_no {x : Nat} (w : World) (a k : Int) (hk : k < 0 ∨ 1000 < k) :
    Calls Try.prog 31 #[.pointer (some ⟨x, 0, none⟩), .int .i64 a, .int .i64 k] w fun e w' => e = .returned (.int .i64 1) ∧ w' = w := by
  by_cases h0 : k < 0
  · clear hk
    go_enter Try.func31, Try.ntmps31
    go_wp2_with fail
    go_ret
    exact ⟨rfl, rfl⟩
  · have h1 : 1000 < k := by omega
    have h2 : 0 ≤ k := by omega
    clear hk h0
    go_enter Try.func31, Try.ntmps31
    go_wp2_with fail
    go_ret
    exact ⟨rfl, rfl⟩
set_option maxHeartbeats 2000000 in
theorem AnsweredR_yes {B x : Nat} {v : Value} {K : List Kn} (w : World) (h : TabR B x v K w) (hB : B ≤ w.heap.size) (hl : K.length ≤ 1000) (a : Int) (k : Nat) (hk : k ≤ 1000) :
    Calls Try.prog 31 #[.pointer (some ⟨x, 0, none⟩), .int .i64 a, .int .i64 k] w fun e w' => e = .returned (.int .i64 0) ∧ AftR B x v (fun v' K' => (∀ b, lookK K' b = Go.Proofs.Ytabclpffjpcejaa.put1 (lookK K) a (ansT (lookK K a) k) b) ∧ K'.length ≤ K.length + 1) w w' := by
  have PL := Lib.hid (place_any w h hB hl a)
  have HL := Lib.hid hl
  have hk0 : (0 : Int) ≤ (k : Int) := by omega
  have hk1 : (k : Int) ≤ 1000 := by omega
  clear h hB
  go_enter Try.func31, Try.ntmps31
  go_wp2_with fail
  refine PL.out.mono ?_
  rintro e w1 ⟨i, rfl, v', K', ⟨⟨hi, hia⟩, hlk, hlen⟩, hT, hM, hF⟩
  obtain ⟨g, c, rfl, hc1, hc2, d0, d1, d2, hz⟩ := hT.cells hi
  obtain ⟨n, hn⟩ : ∃ n, n = K'.length := ⟨_, rfl⟩
  rw [← hn] at hT hc1
  have c0 : w1.cell? ⟨x, 0, none⟩ = some (.slice (some ⟨g, 0, none⟩) n c) := hT.cell
  have hok := hT.ok _ (List.getElem_mem hi)
  obtain ⟨q, hq⟩ : ∃ q, q = K'[i] := ⟨_, rfl⟩
  rw [← hq] at d0 d1 d2 hok hia
  obtain ⟨qa, qt, qf⟩ := q
  dsimp only at d0 d1 d2 hok hia
  have z1 := hz (i * 3 + 1)
  have z2 := hz (i * 3 + 2)
  have hin : (i : Int) < (n : Int) := by omega
  have hnc : c ≤ 9223372036854775807 := by unfold maxLen at hc2; omega
  obtain ⟨m, hm⟩ : ∃ m, m = qt - qt / 8 + k := ⟨_, rfl⟩
  have hm8 : m ≤ 8000 := by omega
  have hq8 : (qt : Int) / 8 = ((qt / 8 : Nat) : Int) := by omega
  have hqm : (qt : Int) - ((qt / 8 : Nat) : Int) + (k : Int) = (m : Int) := by omega
  have hf2 : (qf : Int) / 2 = ((qf / 2 : Nat) : Int) := by omega
  have hf2k : qf / 2 ≤ 1000 := by omega
  have AF : Hid (∀ w2, w2 = (w1.setCell ⟨g, i * 3 + 1, none⟩ (.int .i64 m)).drew → (w2.cell? ⟨x, 0, none⟩ = some (.slice (some ⟨g, 0, none⟩) n c) ∧ w2.cell? ⟨g, i * 3 + 2, none⟩ = some (.int .i64 qf) ∧ w2.frozen? ⟨g, i * 3 + 2, none⟩ = false) ∧ AftR B x v (fun v' K'' => (∀ b, lookK K'' b = Go.Proofs.Ytabclpffjpcejaa.put1 (lookK K) a (ansT (lookK K a) k) b) ∧ K''.length ≤ K.length + 1) w (w2.setCell ⟨g, i * 3 + 2, none⟩ (.int .i64 (qf / 2 : Nat))).drew) := Lib.hid (by
    rintro w2 rfl
    have hob : (Value.slice (some ⟨g, 0, none⟩) n c).ownBlock = some g := rfl
    have hT3 : TabR B x (.slice (some ⟨g, 0, none⟩) n c) (K'.set i (K'[i].1, (m, K'[i].2.2))) (w1.setCell ⟨g, i * 3 + 1, none⟩ (.int .i64 m)).drew := (hT.put1 hn hi m hm8).below (Below.drew (Below.refl _ _))
    have hi3 : i < (K'.set i (K'[i].1, (m, K'[i].2.2))).length := by rw [List.length_set]; exact hi
    have hn3 : n = (K'.set i (K'[i].1, (m, K'[i].2.2))).length := by rw [List.length_set]; exact hn
    have hT4 := (hT3.put2 hn3 hi3 (qf / 2) hf2k).below (Below.drew (Below.refl _ _))
    obtain ⟨g4, c4, hv4, -, -, -, -, e2, ez⟩ := hT3.cells hi3
    injection hv4 with hv4 hv5 hv6
    injection hv4 with hv4
    injection hv4 with hv4
    subst hv4
    simp only [List.getElem_set_self, List.set_set] at hT4 e2
    rw [← hq] at hT4 e2
    refine ⟨⟨hT3.cell, e2, ez _⟩, _, _, ⟨fun b => ?_, by rw [List.length_set]; exact hlen⟩, hT4, ?_, fun k e => hF k e⟩
    · have e1 : lookK K a = (qt, qf) := by rw [← hlk a, ← hia]; have := look_at hT.uq hi; rw [← hq] at this; exact this
      have ls := look_set hT.uq hi (m, qf / 2) b
      rw [← hq] at ls
      dsimp only at ls ⊢
      rw [ls]
      unfold Go.Proofs.Ytabclpffjpcejaa.put1
      rw [e1]
      by_cases e : b = a
      · rw [if_pos e, if_pos (e.trans hia.symm), hm]; rfl
      · rw [if_neg e, if_neg (fun e' => e (e'.trans hia))]; exact hlk b
    · have hgF : FootR x v g ∨ w.heap.size ≤ g := by
        rcases hF g hob with h | h
        · exact .inl (.inr h)
        · exact .inr h
      have h1 : Mod (FootR x v) w (w1.setCell ⟨g, i * 3 + 1, none⟩ (.int .i64 m)).drew := (hM.set hgF).drew
      exact (h1.set hgF).drew)
  clear hlk hlen hT hM hF hz hc2 hn hq hok hia PL hm
  have hqt0 : (0 : Int) ≤ (qt : Int) := by omega
  have hwf := wrap_small (qf / 2) hf2k
  clear hf2k
  generalize qt / 8 = q8 at *
  generalize qf / 2 = f2 at *
  go_upto_region 4 with fail
  go_cut [7] (fun s7 wx => s7 = .int .i64 i ∧ wx = (w1.setCell ⟨g, i * 3 + 1, none⟩ (.int .i64 m)).drew)
  case first =>
    go_region
    all_goals (go_wp2_with fail; go_meet; exact ⟨rfl, rfl⟩)
  case rest =>
    obtain ⟨rfl, hw2⟩ := hcut
    obtain ⟨⟨x1, x2, x3⟩, haf⟩ := AF.out wc hw2
    have AF2 := Lib.hid haf
    clear haf AF hw2 c0 d0 d1 d2 z1 z2
    go_wp2_with fail
    go_region
    all_goals (go_wp2_with fail; go_ret; exact ⟨rfl, AF2.out⟩)
set_option maxHeartbeats 1000000 in
theorem OfR_any {B x : Nat} {v : Value} {K : List Kn} (w : World) (h : TabR B x v K w) (hl : K.length ≤ 1000) (a : Int) :
    Calls Try.prog 33 #[.pointer (some ⟨x, 0, none⟩), .int .i64 a] w fun e w' => e = .returned (.tuple #[.int .i64 (lookK K a).1, .int .i64 (lookK K a).2]) ∧ Below w.heap.size w w' := by
  have c0 := h.cell
  have H := Lib.hid h
  obtain ⟨va, vc, rfl, hvc, hvm⟩ := h.slice
  obtain ⟨n, hn⟩ : ∃ n, n = K.length := ⟨_, rfl⟩
  rw [← hn] at c0 hvc hl
  have hvm2 : vc ≤ 9223372036854775807 := by unfold maxLen at hvm; omega
  have HN := Lib.hid hn
  obtain ⟨r, hr⟩ : ∃ r, r = lookK K a := ⟨_, rfl⟩
  rw [← hr]
  have HR := Lib.hid hr
  clear h hn hvm hr
  go_enter Try.func33, Try.ntmps33
  go_wp2_with fail
  go_loopw [13] (fun u wr => ∃ k : Nat, u = .int .i64 k ∧ k ≤ n ∧ (∀ j (hj : j < K.length), j < k → (K[j]).1 ≠ a) ∧ Below w.heap.size w wr) (fun u _ => n - (intOf u).toNat)
  case atStart => exact ⟨0, rfl, by omega, fun j _ hj => absurd hj (by omega), Below.refl _ _⟩
  case round =>
    obtain ⟨k, rfl, hk, hno, hBw⟩ := hrel
    rename World => wr
    have HT := Lib.hid (H.out.below hBw)
    have HNO := Lib.hid hno
    have HBW := Lib.hid hBw
    have hsz := hBw.size
    have c0' := HT.out.cell
    rw [← HN.out] at c0'
    by_cases hlt : k < n
    · have hlt' : (k : Int) < (n : Int) := by omega
      have hkl : k < K.length := by have := HN.out; omega
      obtain ⟨g, c, hv, -, -, d0, d1, d2, -⟩ := HT.out.cells hkl
      injection hv with hv1 hv2 hv3
      subst hv1 hv3
      obtain ⟨q, hq⟩ : ∃ q, q = K[k] := ⟨_, rfl⟩
      rw [← hq] at d0 d1 d2
      have HQ := Lib.hid hq
      obtain ⟨qa, qt, qf⟩ := q
      dsimp only at d0 d1 d2
      clear hq hno hBw hv2
      by_cases e : qa = a
      · subst e
        have hrr : r = (qt, qf) := by rw [HR.out]; have := look_at HT.out.uq hkl; rw [← HQ.out] at this; exact this
        subst hrr
        have BF := Lib.hid (Below.alloc HBW.out hsz (.cells #[.int .i64 qa, .int .i64 qt, .int .i64 qf] 96))
        go_wp2_with fail
        go_quiet (fail)
        go_wp2_with fail
        go_ret2
        exact ⟨rfl, below_drewN BF.out _⟩
      · have e2 : (qa == a) = false := by simpa using e
        have hno2 : ∀ j (hj : j < K.length), j < k + 1 → (K[j]).1 ≠ a := fun j hj hjk => by
          by_cases ej : j = k
          · subst ej; rw [← HQ.out]; exact e
          · exact HNO.out j hj (by omega)
        have HNO2 := Lib.hid hno2
        clear hno2 e
        go_wp2_with fail
        go_roundw
        case rel => exact ⟨k + 1, by go_num, by omega, HNO2.out, Below.alloc HBW.out (by omega) _⟩
        case measure => simp [intOf]; omega
    · obtain rfl : k = n := by omega
      have hall : ∀ q ∈ K, q.1 ≠ a := fun q hq => by
        obtain ⟨j, hj, rfl⟩ := List.getElem_of_mem hq
        exact hno j hj (by have := HN.out; omega)
      have hrr : r = (0, 0) := by rw [HR.out]; exact look_none hall
      subst hrr
      clear hall hno hBw
      go_wp2_with fail
      go_ret2
      exact ⟨rfl, HBW.out⟩
end Go.Proofs.Ytabclpffjpcejaa
